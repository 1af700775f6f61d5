/- The draw of ops, and of a right plant with ops for it. -/
import Derived.Test.YtpgjllefhlanpaaDP
namespace Go.Proofs.Ytpgjllefhlanpaa
open Go.RowKit
theorem Ints.off {w w' : World} {b : Option Addr} {xs : List Int} {cb : Nat} (h : Ints w b xs) (hg : w.grownBy w' (some cb)) (hbc : ∀ x, b = some x → x.block ≠ cb) : Ints w' b xs := by
  rcases h with h | ⟨g, off, rfl, hc⟩
  · exact .inl h
  · refine .inr ⟨g, off, rfl, fun i hi => ?_⟩
    have hx := hc i hi
    have hb := hg.block g (cell_lt hx) (by simpa using hbc _ rfl)
    simp only [World.cell?] at hx ⊢
    rw [hb]
    exact hx

set_option maxHeartbeats 800000 in
theorem cPick (cb cap : Nat) (a : Option Addr) (zs : List Int) (b : Option Addr) (cp : Nat) (xs : List Int) (w : World) (hc : Cur w cb a cap zs) (hl : zs.length ≤ 1048576) (hx : Ints w b xs) (hbc : ∀ x, b = some x → x.block ≠ cb) (h1 : 1 ≤ xs.length) (h2 : xs.length ≤ 1000) :
    Calls Try.prog 42 #[.pointer (some ⟨cb, 0, none⟩), .slice b xs.length cp] w fun e w' => ∃ r, e = .returned (.int .i64 r) ∧ r ∈ xs ∧ Cur w' cb a cap zs ∧ w.grownBy w' (some cb) := by
  go_enter Try.func42, Try.ntmps42
  go_wp2_with fail
  refine (cbelow cb cap a zs xs.length _ hc hl (by omega) (by omega)).mono ?_
  rintro e w1 ⟨y, rfl, y0, y1, C1, G1⟩
  have hx1 := hx.off G1 hbc
  rcases hx1 with h | ⟨nb, off, rfl, hcl⟩
  · simp [h] at h1
  have hy : y.toNat < xs.length := by omega
  have q := hcl y.toNat hy
  have hmem : xs.getD y.toNat 0 ∈ xs := by simp [List.getD, hy]
  generalize xs.getD y.toNat 0 = r at *
  clear hcl hc hx
  go_wp2
  go_ret
  exact ⟨r, rfl, hmem, C1, G1⟩
/-- The eight kinds to pick from, in a block of their own. -/
theorem eight (w : World) (q : Int) : Ints (w.alloc (.cells #[.int .i64 0, .int .i64 0, .int .i64 1, .int .i64 1, .int .i64 2, .int .i64 2, .int .i64 3, .int .i64 q] 3)) (some ⟨w.heap.size, 0, none⟩) [0, 0, 1, 1, 2, 2, 3, q] := by
  refine .inr ⟨_, 0, rfl, fun i hi => ?_⟩
  match i, hi with
  | 0, _ => simp
  | 1, _ => simp
  | 2, _ => simp
  | 3, _ => simp
  | 4, _ => simp
  | 5, _ => simp
  | 6, _ => simp
  | 7, _ => simp
  | (k + 8), hi => simp at hi; omega
theorem eight_in {r q : Int} (h : r ∈ [(0 : Int), 0, 1, 1, 2, 2, 3, q]) (h0 : -1 ≤ q) (h1 : q ≤ 4) : -1 ≤ r ∧ r ≤ 4 := by simp at h; omega
def opIn (o : OpV) : Prop := -1 ≤ o.kind ∧ o.kind ≤ 4 ∧ -1 ≤ o.what ∧ o.what ≤ 7
theorem flat_op (e : OpV) : flatOps [e] = e.vs := by simp [flatOps]
/-- Drawn ops. -/
def DrawnO (w : World) (cb cap : Nat) (a : Option Addr) (bs : List Int) (e : Ending) (w' : World) : Prop :=
  ∃ (os : List OpV) (v : Value), e = .returned v ∧ os.length ≤ 26 ∧ (∀ o ∈ os, opIn o) ∧ w'.ownsRow w.heap.size 39 2 v os.length (flatOps os) ∧ Cur w' cb a cap bs ∧ w.grownBy w' (some cb)
theorem quo19 {x : Int} (h0 : 0 ≤ x) (h1 : x < 20) : IntKind.i64.wrap (x.tdiv 19) = x / 19 ∧ 0 ≤ x / 19 ∧ x / 19 ≤ 1 := by
  have e : x.tdiv 19 = x / 19 := Int.tdiv_eq_ediv_of_nonneg h0
  rw [e]
  exact ⟨wrap_in _ (by omega) (by omega), by omega, by omega⟩

set_option maxRecDepth 20000 in
set_option maxHeartbeats 6400000 in
theorem cDrawOps (cb cap : Nat) (a : Option Addr) (bs : List Int) (au ar : Option Addr) (un cu rn cr : Nat) (B : Int) (w : World) (hc : Cur w cb a cap bs) (hl : bs.length ≤ 1048576) (hB2 : 2 ≤ B) (hB7 : B ≤ 7) (hr : rn ≤ 5) :
    Calls Try.prog 21 #[.pointer (some ⟨cb, 0, none⟩), .slice a bs.length cap, .agg #[.slice au un cu, .int .i64 B, .slice ar rn cr]] w (DrawnO w cb cap a bs) := by
  obtain ⟨i0, hi, hz0, hz1, hz2⟩ := info_parts2 infoOps
  have hcl := hc.lt (.inl rfl)
  have hOn : ∀ k, OnCur cb a bs k → k < w.heap.size := fun k hk => hc.lt hk
  have A1 := balloc w (.cells #[.slice au un cu, .int .i64 B, .slice ar rn cr] 27)
  have K0 := one_block w (.cells #[.slice au un cu, .int .i64 B, .slice ar rn cr] 27)
  have A2 := balloc (w.alloc (.cells #[.slice au un cu, .int .i64 B, .slice ar rn cr] 27)) (.cells #[] 39)
  have K := blk_keep A2 K0
  have C := (hc.below A1).below A2
  have O : ((w.alloc (.cells #[.slice au un cu, .int .i64 B, .slice ar rn cr] 27)).alloc (.cells #[] 39)).ownsRow (w.heap.size + 1) 39 2 (.slice (some ⟨w.heap.size + 1, 0, none⟩) 0 0) 0 (flatOps []) := by
    have := World.ownsRow_made (base := w.heap.size + 1) (e := 39) (size := 2) (w.alloc (.cells #[.slice au un cu, .int .i64 B, .slice ar rn cr] 27)) #[] 0 (by simp) (by unfold maxLen; omega) (by simp)
    rw [sz1] at this
    exact this
  have hG : w.grownBy ((w.alloc (.cells #[.slice au un cu, .int .i64 B, .slice ar rn cr] 27)).alloc (.cells #[] 39)) (some cb) := gtrans (gof A1) (gof A2)
  clear A1 A2 hc K0
  go_enter Try.func21, Try.ntmps21
  go_wp2_with fail
  generalize (w.alloc (.cells #[.slice au un cu, .int .i64 B, .slice ar rn cr] 27)).alloc (.cells #[] 39) = V at *
  refine (csize a bs.length cap 24 _ hl (by omega) (by omega)).mono ?_
  rintro e w1 ⟨r, rfl, r0, r1, rfl⟩
  have hwr : IntKind.i64.wrap (3 + r) = 3 + r := wrap_in _ (by omega) (by omega)
  go_wp2_with fail
  refine (cbelow cb cap a bs (3 + r) _ C hl (by omega) (by omega)).mono ?_
  rintro e w1 ⟨n1, rfl, n10, n11, C1, G1⟩
  replace O := own_far O G1 (fun k hk e => by have := own_from O (Nat.le_refl _) k hk; simp at e; omega)
  replace K := far_blk G1 K (fun j hj => by simp at hj; omega)
  replace hG := gtrans hG G1
  clear C G1 hwr
  go_wp2
  go_loopw [7, 8, 9, 10] (fun o ii _ _ wr => ∃ (ms : List OpV) (I : Int), ii = .int .i64 I ∧ 0 ≤ I ∧ (ms.length : Int) + I = n1 ∧ (∀ y ∈ ms, opIn y) ∧ wr.ownsRow (w.heap.size + 1) 39 2 o ms.length (flatOps ms) ∧ wr.heap[w.heap.size]? = some (.cells #[.slice au un cu, .int .i64 B, .slice ar rn cr] 27 (0, 0)) ∧ Cur wr cb a cap bs ∧ w.grownBy wr (some cb)) (fun _ ii _ _ _ => (intOf ii).toNat)
  case atStart => exact ⟨[], n1, rfl, n10, by simp, (fun y hy => by simp at hy), O, K, C1, hG⟩
  case round =>
    clear O K C1 hG
    obtain ⟨ms, I, rfl, I0, hLI, hall, O, K, C, hG⟩ := hrel
    obtain ⟨go, co, rfl⟩ := own_form O
    replace hLI := hide hLI
    have hml : ms.length ≤ 26 := by have := hLI.out; omega
    have hI4 : I ≤ 26 := by have := hLI.out; omega
    by_cases hI : 0 < I
    · go_wp2_with fail
      refine (cbelow cb cap a bs 6 _ C hl (by omega) (by omega)).mono ?_
      rintro e w2 ⟨q, rfl, q0, q1, C2, G2⟩
      replace O := own_far O G2 (fun k hk e => by have := own_from O (Nat.le_refl _) k hk; simp at e; omega)
      replace K := far_blk G2 K (fun j hj => by simp at hj; omega)
      replace hG := gtrans hG G2
      clear C G2
      have hwq : IntKind.i64.wrap (q - 1) = q - 1 := wrap_in _ (by omega) (by omega)
      have A3 := balloc w2 (.cells #[.int .i64 0, .int .i64 0, .int .i64 1, .int .i64 1, .int .i64 2, .int .i64 2, .int .i64 3, .int .i64 (q - 1)] 3)
      have F3 := eight w2 (q - 1)
      have hcl2 : cb < w2.heap.size := C2.lt (.inl rfl)
      have C3 := C2.below A3
      have hnb : ∀ x, (some (⟨w2.heap.size, 0, none⟩ : Addr)) = some x → x.block ≠ cb := fun x hx => by injection hx with hx; subst hx; show w2.heap.size ≠ cb; omega
      replace O := own_keep O A3
      replace K := blk_keep A3 K
      replace hG := gtrans hG (gof A3)
      go_wp2_with fail
      clear A3 C2 hwq
      refine (cPick cb cap a bs _ 8 [0, 0, 1, 1, 2, 2, 3, q - 1] _ C3 hl F3 hnb (by simp) (by simp)).mono ?_
      rintro e w4 ⟨kd, rfl, hkd, C4, G4⟩
      replace O := own_far O G4 (fun k hk e => by have := own_from O (Nat.le_refl _) k hk; simp at e; omega)
      replace K := far_blk G4 K (fun j hj => by simp at hj; omega)
      replace hG := gtrans hG G4
      clear C3 G4
      obtain ⟨kd0, kd1⟩ := eight_in hkd (by omega) (by omega)
      clear hkd F3 hnb hcl2
      obtain ⟨⟨t0, t1, t2⟩, -⟩ := blk3 K
      go_wp2_with fail
      refine (cbelow cb cap a bs B _ C4 hl (by omega) (by omega)).mono ?_
      rintro e w5 ⟨wt, rfl, wt0, wt1, C5, G5⟩
      replace O := own_far O G5 (fun k hk e => by have := own_from O (Nat.le_refl _) k hk; simp at e; omega)
      replace K := far_blk G5 K (fun j hj => by simp at hj; omega)
      replace hG := gtrans hG G5
      clear C4 G5
      clear t0 t1 t2 q0 q1
      have hwI : IntKind.i64.wrap (I - 1) = I - 1 := wrap_in _ (by omega) (by omega)
      by_cases k0 : kd = 0
      · subst k0
        obtain ⟨⟨t0, t1, t2⟩, -⟩ := blk3 K
        have hwn : IntKind.i64.wrap ((rn : Int) + 1) = (rn : Int) + 1 := wrap_in _ (by omega) (by omega)
        go_wp2_with fail
        refine (cbelow cb cap a bs ((rn : Int) + 1) _ C5 hl (by omega) (by omega)).mono ?_
        rintro e w6 ⟨x, rfl, x0, x1, C6, G6⟩
        replace O := own_far O G6 (fun k hk e => by have := own_from O (Nat.le_refl _) k hk; simp at e; omega)
        replace K := far_blk G6 K (fun j hj => by simp at hj; omega)
        replace hG := gtrans hG G6
        clear C5 G6
        clear t0 t1 t2 hwn
        go_wp2_with fail
        refine (cbelow cb cap a bs 20 _ C6 hl (by omega) (by omega)).mono ?_
        rintro e w8 ⟨y, rfl, y0, y1, CX, G8⟩
        replace O := own_far O G8 (fun k hk e => by have := own_from O (Nat.le_refl _) k hk; simp at e; omega)
        replace K := far_blk G8 K (fun j hj => by simp at hj; omega)
        replace hG := gtrans hG G8
        clear C6 G8
        obtain ⟨hwy, z0, z1⟩ := quo19 y0 y1
        have hwz : IntKind.i64.wrap (x - y / 19) = x - y / 19 := wrap_in _ (by omega) (by omega)
        have hx2 := balloc w8 (.cells #[.int .i64 0, .int .i64 (x - y / 19)] 39)
        have hBk := one_block w8 (.cells #[.int .i64 0, .int .i64 (x - y / 19)] 39)
        have ho2 := own_keep O hx2
        have hLt := hG.size
        go_wp2_with (at_builtin; refine wpList_append_own _ rfl _ _ 28 rfl (w.heap.size + 1) 39 i0 _ 2 16 Try.underlying28 hi hz0 hz1 hz2 rfl (by decide) _ _ _ rfl ho2 ⟨w8.heap.size, 0, none⟩ 1 1 (OpV.vs (OpV.mk 0 (x - y / 19))) rfl rfl ?c1 ?c2 ?c3 ?c4 ?c5 ?_)
        case c1 => exact World.news_of_block hBk
        case c2 => simp [OpV.vs, Value.oneCell']
        case c3 => unfold maxLen; omega
        case c4 => omega
        case c5 => have := lt_of_block K; simp; omega
        intro v2 w7 hown hgrow _
        rcases hown.2 with ⟨_, h0⟩ | ⟨g, cap2, cur, rfl, _⟩
        · simp at h0
        have hfr := own_from O (Nat.le_refl _)
        have K7 := far_blk hgrow (blk_keep hx2 K) (fun j hj => by have := hfr j hj; omega)
        have C7 : Cur w7 cb a cap bs := (CX.below hx2).grow hOn hgrow (fun k hk => by have := hfr k hk; omega)
        have hG7 := grown_far (gtrans hG (gof hx2)) hgrow (fun k hk => by have := hfr k hk; omega)
        have hown2 : w7.ownsRow (w.heap.size + 1) 39 2 (.slice (some ⟨g, 0, none⟩) (ms.length + 1) cap2) (ms ++ [OpV.mk 0 (x - y / 19)]).length (flatOps (ms ++ [OpV.mk 0 (x - y / 19)])) := by
          rw [flatOps_app, flat_op, List.length_append]; exact hown
        have hall2 : ∀ u ∈ ms ++ [OpV.mk 0 (x - y / 19)], opIn u := by
          intro u hy
          rcases List.mem_append.1 hy with hy | hy
          · exact hall u hy
          · rw [List.mem_singleton.1 hy]; exact ⟨kd0, kd1, by dsimp only; omega, by dsimp only; omega⟩
        clear hown hgrow hx2 hBk ho2 K O CX hG hfr
        go_wp2
        go_roundw
        case rel => exact ⟨ms ++ [OpV.mk 0 (x - y / 19)], I - 1, by go_num, by omega, by have := hLI.out; simp; omega, hall2, hown2, K7, C7, hG7⟩
        case measure => simp [intOf]; omega
      · by_cases k3 : kd = 3
        · subst k3
          obtain ⟨⟨t0, t1, t2⟩, -⟩ := blk3 K
          have hwn : IntKind.i64.wrap ((rn : Int) + 1) = (rn : Int) + 1 := wrap_in _ (by omega) (by omega)
          go_wp2_with fail
          refine (cbelow cb cap a bs ((rn : Int) + 1) _ C5 hl (by omega) (by omega)).mono ?_
          rintro e w6 ⟨x, rfl, x0, x1, C6, G6⟩
          replace O := own_far O G6 (fun k hk e => by have := own_from O (Nat.le_refl _) k hk; simp at e; omega)
          replace K := far_blk G6 K (fun j hj => by simp at hj; omega)
          replace hG := gtrans hG G6
          clear C5 G6
          clear t0 t1 t2 hwn
          go_wp2_with fail
          refine (cbelow cb cap a bs 20 _ C6 hl (by omega) (by omega)).mono ?_
          rintro e w8 ⟨y, rfl, y0, y1, CX, G8⟩
          replace O := own_far O G8 (fun k hk e => by have := own_from O (Nat.le_refl _) k hk; simp at e; omega)
          replace K := far_blk G8 K (fun j hj => by simp at hj; omega)
          replace hG := gtrans hG G8
          clear C6 G8
          obtain ⟨hwy, z0, z1⟩ := quo19 y0 y1
          have hwz : IntKind.i64.wrap (x - y / 19) = x - y / 19 := wrap_in _ (by omega) (by omega)
          have hx2 := balloc w8 (.cells #[.int .i64 3, .int .i64 (x - y / 19)] 39)
          have hBk := one_block w8 (.cells #[.int .i64 3, .int .i64 (x - y / 19)] 39)
          have ho2 := own_keep O hx2
          have hLt := hG.size
          go_wp2_with (at_builtin; refine wpList_append_own _ rfl _ _ 28 rfl (w.heap.size + 1) 39 i0 _ 2 16 Try.underlying28 hi hz0 hz1 hz2 rfl (by decide) _ _ _ rfl ho2 ⟨w8.heap.size, 0, none⟩ 1 1 (OpV.vs (OpV.mk 3 (x - y / 19))) rfl rfl ?c1 ?c2 ?c3 ?c4 ?c5 ?_)
          case c1 => exact World.news_of_block hBk
          case c2 => simp [OpV.vs, Value.oneCell']
          case c3 => unfold maxLen; omega
          case c4 => omega
          case c5 => have := lt_of_block K; simp; omega
          intro v2 w7 hown hgrow _
          rcases hown.2 with ⟨_, h0⟩ | ⟨g, cap2, cur, rfl, _⟩
          · simp at h0
          have hfr := own_from O (Nat.le_refl _)
          have K7 := far_blk hgrow (blk_keep hx2 K) (fun j hj => by have := hfr j hj; omega)
          have C7 : Cur w7 cb a cap bs := (CX.below hx2).grow hOn hgrow (fun k hk => by have := hfr k hk; omega)
          have hG7 := grown_far (gtrans hG (gof hx2)) hgrow (fun k hk => by have := hfr k hk; omega)
          have hown2 : w7.ownsRow (w.heap.size + 1) 39 2 (.slice (some ⟨g, 0, none⟩) (ms.length + 1) cap2) (ms ++ [OpV.mk 3 (x - y / 19)]).length (flatOps (ms ++ [OpV.mk 3 (x - y / 19)])) := by
            rw [flatOps_app, flat_op, List.length_append]; exact hown
          have hall2 : ∀ u ∈ ms ++ [OpV.mk 3 (x - y / 19)], opIn u := by
            intro u hy
            rcases List.mem_append.1 hy with hy | hy
            · exact hall u hy
            · rw [List.mem_singleton.1 hy]; exact ⟨kd0, kd1, by dsimp only; omega, by dsimp only; omega⟩
          clear hown hgrow hx2 hBk ho2 K O CX hG hfr
          go_wp2
          go_roundw
          case rel => exact ⟨ms ++ [OpV.mk 3 (x - y / 19)], I - 1, by go_num, by omega, by have := hLI.out; simp; omega, hall2, hown2, K7, C7, hG7⟩
          case measure => simp [intOf]; omega
        · have CX := C5
          have e0 : (kd == 0) = false := by simpa using k0
          have e3 : (kd == 3) = false := by simpa using k3
          clear C5
          have hx2 := balloc w5 (.cells #[.int .i64 kd, .int .i64 wt] 39)
          have hBk := one_block w5 (.cells #[.int .i64 kd, .int .i64 wt] 39)
          have ho2 := own_keep O hx2
          have hLt := hG.size
          go_wp2_with (at_builtin; refine wpList_append_own _ rfl _ _ 28 rfl (w.heap.size + 1) 39 i0 _ 2 16 Try.underlying28 hi hz0 hz1 hz2 rfl (by decide) _ _ _ rfl ho2 ⟨w5.heap.size, 0, none⟩ 1 1 (OpV.vs (OpV.mk kd wt)) rfl rfl ?c1 ?c2 ?c3 ?c4 ?c5 ?_)
          case c1 => exact World.news_of_block hBk
          case c2 => simp [OpV.vs, Value.oneCell']
          case c3 => unfold maxLen; omega
          case c4 => omega
          case c5 => have := lt_of_block K; simp; omega
          intro v2 w7 hown hgrow _
          rcases hown.2 with ⟨_, h0⟩ | ⟨g, cap2, cur, rfl, _⟩
          · simp at h0
          have hfr := own_from O (Nat.le_refl _)
          have K7 := far_blk hgrow (blk_keep hx2 K) (fun j hj => by have := hfr j hj; omega)
          have C7 : Cur w7 cb a cap bs := (CX.below hx2).grow hOn hgrow (fun k hk => by have := hfr k hk; omega)
          have hG7 := grown_far (gtrans hG (gof hx2)) hgrow (fun k hk => by have := hfr k hk; omega)
          have hown2 : w7.ownsRow (w.heap.size + 1) 39 2 (.slice (some ⟨g, 0, none⟩) (ms.length + 1) cap2) (ms ++ [OpV.mk kd wt]).length (flatOps (ms ++ [OpV.mk kd wt])) := by
            rw [flatOps_app, flat_op, List.length_append]; exact hown
          have hall2 : ∀ u ∈ ms ++ [OpV.mk kd wt], opIn u := by
            intro u hy
            rcases List.mem_append.1 hy with hy | hy
            · exact hall u hy
            · rw [List.mem_singleton.1 hy]; exact ⟨kd0, kd1, by dsimp only; omega, by dsimp only; omega⟩
          clear hown hgrow hx2 hBk ho2 K O CX hG hfr
          go_wp2
          go_roundw
          case rel => exact ⟨ms ++ [OpV.mk kd wt], I - 1, by go_num, by omega, by have := hLI.out; simp; omega, hall2, hown2, K7, C7, hG7⟩
          case measure => simp [intOf]; omega
    · obtain rfl : I = 0 := by omega
      clear K
      go_wp2
      go_ret
      exact ⟨ms, _, rfl, hml, hall, own_base O (by omega), C, hG⟩
end Go.Proofs.Ytpgjllefhlanpaa
