/- The model's MoveOn and Stuck. -/
import Derived.Test.YtggdejceobagcaaI
namespace Go.Proofs.Ytggdejceobagcaa
open Go.RowKit

theorem take_flat {R : List SingleV} {k : Nat} (hk : k < R.length) : flatSingles (R.take (k + 1)) = flatSingles (R.take k) ++ [.int .i64 R[k].s, .int .i64 R[k].d] := by
  rw [List.take_succ_eq_append_getElem hk, flatSingles_app]; rfl

theorem new_two (W : World) (n T : Nat) (x y : Value) (hn : n = W.heap.size) : (W.alloc (.cells #[x, y] T)).cell? ⟨n, 0, none⟩ = some x ∧ (W.alloc (.cells #[x, y] T)).cell? ⟨n, 1, none⟩ = some y := by
  subst hn; simp [go_sem]
theorem new_two' (W : World) (n T : Nat) (x y : Value) (hn : n = W.heap.size) : ∀ j u, [x, y][j]? = some u → (W.alloc (.cells #[x, y] T)).cell? ((⟨n, 0, none⟩ : Addr).add j) = some u := by
  obtain ⟨h0, h1⟩ := new_two W n T x y hn
  intro j u hj
  match j, hj with
  | 0, hj => simp at hj; subst hj; simpa [Addr.add] using h0
  | 1, hj => simp at hj; subst hj; simpa [Addr.add] using h1

set_option maxRecDepth 20000 in
set_option maxHeartbeats 1600000 in
theorem cMoveOnS (a b : Option Addr) (ca cb : Nat) (ls : List Int) (ts : List SingleV) (i : Int) (w : World) (hz : Ints w a ls) (hl : ls.length ≤ 1048576) (ht : Singles w b ts) (hm : ts.length ≤ 1048576) :
    Calls Try.prog 29 #[.slice a ls.length ca, .slice b ts.length cb, .int .i64 i] w fun e w' => ∃ v, e = .returned (.tuple #[v, .bool (mayMove ls ts i)]) ∧
      w'.ownsRow w.heap.size 31 2 v (moveR ls ts i).length (flatSingles (moveR ls ts i)) ∧ Below w.heap.size w w' := by
  cases h1 : mayMove ls ts i
  · rw [moveR_no h1]
    go_enter Try.func29, Try.ntmps29
    go_wp2_with fail
    refine (cMayMoveS a b ca cb ls ts i _ hz hl ht hm).mono ?_
    rintro e w1 ⟨rfl, hb⟩
    rw [h1]
    clear h1
    go_wp2
    go_ret2
    exact ⟨_, rfl, World.ownsRow_nil _ _ _ _, hb⟩
  rw [moveR_yes h1]
  obtain ⟨m1, m2, m3, m4, m5⟩ := mayMove_parts h1
  obtain ⟨p1, p2, p3⟩ := singlesOk_parts m1
  have hin := fun k (hk : k < ts.length) => ok_inLine m1 hk
  have hl5 := (lineOk_parts p1).2.2
  have hRl := moveT_len ts i.toNat
  have hRk : ∀ k (hk : k < ts.length) (hk' : k < (moveT ts i.toNat).length), (moveT ts i.toNat)[k] = if i.toNat = k then ⟨nextS ts[k], ts[k].d⟩ else ts[k] := by
    intro k hk hk'
    simp only [moveT_eq m3, List.getElem_set]
    split
    · next h => subst h; rfl
    · rfl
  generalize moveT ts i.toNat = R at *
  obtain ⟨i0, hi, hz0, hz1, hz2⟩ := info_parts2 infoSingles
  go_enter Try.func29, Try.ntmps29
  go_wp2_with fail
  refine (cMayMoveS a b ca cb ls ts i _ hz hl ht hm).mono ?_
  rintro e w1 ⟨rfl, hb⟩
  rw [h1]
  have hs1 := hb.size
  clear m5 p3 p1 m1 h1
  replace hRl := hide hRl
  replace hRk := hide hRk
  go_wp2
  go_loopw [8, 9] (fun v j wr => ∃ k : Nat, k ≤ ts.length ∧ j = .int .i64 k ∧ wr.ownsRow w.heap.size 31 2 v k (flatSingles (R.take k)) ∧ Below w.heap.size w wr) (fun _ j _ => ts.length - (intOf j).toNat)
  case atStart => exact ⟨0, Nat.zero_le _, rfl, World.ownsRow_made _ #[] 0 hs1 (by omega) rfl, btrans hb (balloc _ _)⟩
  case round =>
    obtain ⟨k, hk, rfl, O, hb1⟩ := hrel
    clear hb hs1
    obtain ⟨vo, co, rfl⟩ := own_form O
    by_cases hlt : k < ts.length
    · rcases ht with h | ⟨nb, off, rfl, hcl⟩
      · simp [h] at hlt
      obtain ⟨q0, q1⟩ := hcl k hlt
      replace q0 := ble hb1 q0
      replace q1 := ble hb1 q1
      rw [getD_lt hlt] at q0 q1
      have hkR : k < R.length := by rw [hRl.out]; exact hlt
      have hfl := hide (take_flat hkR)
      rw [hRk.out k hlt hkR] at hfl
      have CN := fun w' => cNextS ts[k] w' (by have := (hin k hlt).1; omega) (by have := (hin k hlt).2.1; omega)
      clear hcl hRk hRl hin
      generalize ts[k] = E0 at *
      obtain ⟨s, d⟩ := E0
      unfold SingleV.val at CN
      dsimp only at *
      have hbA := balloc wr (.cells #[.int .i64 s, .int .i64 d] 31)
      have hsz := hb1.size
      by_cases he : i.toNat = k
      · have he' : (k : Int) = i := by omega
        rw [if_pos he] at hfl
        dsimp only at hfl
        generalize nextS ⟨s, d⟩ = x at *
        have OA := own_keep O hbA
        have hBA := btrans hb1 hbA
        go_wp2_with fail
        refine (CN _).mono ?_
        rintro e w2 ⟨rfl, hb2⟩
        have hgb : w2.heap[wr.heap.size]? = some (.cells #[.int .i64 s, .int .i64 d] 31 (0, 0)) := (hb2.block _ (by rw [sz1]; omega)).trans (by show (wr.heap.push _)[wr.heap.size]? = _; simp)
        have z0 := Go.Joins.cell_of_block hgb 0
        have z1 := Go.Joins.cell_of_block hgb 1
        have hlo := own_blk_lt O
        have OB := own_set (b := wr.heap.size) (i := 0) (u := .int .i64 x) (own_keep OA hb2) (fun j hj e => by have := hlo j hj; omega)
        have hB2 := below_set (o := 0) (v := .int .i64 x) hsz (btrans hBA hb2)
        have fz : w2.frozen? ⟨wr.heap.size, 0, none⟩ = false := by simp [World.frozen?, hgb]
        have OC := OB.alloc (.cells #[.int .i64 x, .int .i64 d] 31)
        have hBC := btrans hB2 (balloc _ (.cells #[.int .i64 x, .int .i64 d] 31))
        have hlt2 := lt_of_block hgb
        clear OA OB hB2 hbA hb2 hBA CN hgb hlo O hb1 q0 q1
        go_wp2_with (at_builtin; refine wpList_append_own _ rfl _ _ 25 rfl w.heap.size 31 i0 (.agg #[.int .i64 0, .int .i64 0]) 2 16 Try.underlying25 hi hz0 hz1 hz2 rfl (by decide) _ _ _ rfl OC ⟨w2.heap.size, 0, none⟩ 1 1 [.int .i64 x, .int .i64 d] rfl rfl ?c1 ?c2 ?c3 ?c4 ?c5 ?_)
        case c1 => exact new_two' _ _ _ _ _ (by simp)
        case c2 => intro u hu; simp at hu; rcases hu with rfl | rfl <;> rfl
        case c3 => unfold maxLen; omega
        case c4 => omega
        case c5 => simp; omega
        intro v' w5 hown' hgrow _
        have hb5 : Below w.heap.size w w5 := hBC.grown hgrow hBC.size (own_from OC (Nat.le_refl _))
        rw [← hfl.out] at hown'
        clear OC hBC hgrow hfl
        go_wp2
        go_roundw
        case rel => exact ⟨k + 1, by omega, by go_num, hown', hb5⟩
        case measure => simp [intOf]; omega
      · have he' : ¬ ((k : Int) = i) := by omega
        rw [if_neg he] at hfl
        dsimp only at hfl
        have OA := (own_keep O hbA).alloc (.cells #[.int .i64 s, .int .i64 d] 31)
        have hBA := btrans (btrans hb1 hbA) (balloc _ (.cells #[.int .i64 s, .int .i64 d] 31))
        clear CN hbA O
        go_wp2_with (at_builtin; refine wpList_append_own _ rfl _ _ 25 rfl w.heap.size 31 i0 (.agg #[.int .i64 0, .int .i64 0]) 2 16 Try.underlying25 hi hz0 hz1 hz2 rfl (by decide) _ _ _ rfl OA ⟨wr.heap.size + 1, 0, none⟩ 1 1 [.int .i64 s, .int .i64 d] rfl rfl ?c1 ?c2 ?c3 ?c4 ?c5 ?_)
        case c1 => exact new_two' _ _ _ _ _ (by simp)
        case c2 => intro u hu; simp at hu; rcases hu with rfl | rfl <;> rfl
        case c3 => unfold maxLen; omega
        case c4 => omega
        case c5 => simp; omega
        intro v' w5 hown' hgrow _
        have hb5 : Below w.heap.size w w5 := hBA.grown hgrow hBA.size (own_from OA (Nat.le_refl _))
        rw [← hfl.out] at hown'
        clear OA hBA hgrow hfl
        go_wp2
        go_roundw
        case rel => exact ⟨k + 1, by omega, by go_num, hown', hb5⟩
        case measure => simp [intOf]; omega
    · obtain rfl : k = ts.length := by omega
      have O2 : wr.ownsRow w.heap.size 31 2 (.slice vo ts.length co) R.length (flatSingles R) := by
        rw [hRl.out]; rw [List.take_of_length_le (by rw [hRl.out]; exact Nat.le_refl _)] at O; exact O
      clear ht O
      go_wp2
      go_ret2
      exact ⟨_, rfl, O2, hb1⟩

set_option maxHeartbeats 800000 in
theorem cStuckS (a b : Option Addr) (ca cb : Nat) (ls : List Int) (ts : List SingleV) (w : World) (hz : Ints w a ls) (hl : ls.length ≤ 1048576) (ht : Singles w b ts) (hm : ts.length ≤ 1048576) :
    Calls Try.prog 33 #[.slice a ls.length ca, .slice b ts.length cb] w fun e w' => e = .returned (.bool (stuckT ls ts)) ∧ Below w.heap.size w w' := by
  have E : Hid (stuckT ls ts = (singlesOk ls ts && !doneT ts && (List.range ts.length).all (fun i => !mayGo ls ts i))) := rfl
  have hEm : ∀ k : Nat, k < ts.length → mayMove ls ts k = (singlesOk ls ts && mayGo ls ts k) := by
    intro k hk
    simp only [mayMove, Int.toNat_natCast]
    rw [inB_yes (by omega) (by omega), Bool.and_true]
  have E2 : Hid (((List.range ts.length).drop 0).all (fun i => !(singlesOk ls ts && mayGo ls ts i)) = (List.range ts.length).all (fun i => !(singlesOk ls ts && mayGo ls ts i))) := by rw [List.drop_zero]; exact rfl
  have hend : Hid ((List.range ts.length).all (fun i => !(singlesOk ls ts && mayGo ls ts i)) = true → (singlesOk ls ts && !doneT ts) = stuckT ls ts) := by
    show _ → _
    intro h
    rw [E.out]
    cases hs : singlesOk ls ts
    · rfl
    · rw [hs] at h
      simp only [Bool.true_and] at h ⊢
      rw [h, Bool.and_true]
  have hbad : Hid (∀ k, k < ts.length → (singlesOk ls ts && mayGo ls ts k) = true → stuckT ls ts = false) := by
    show ∀ k, _
    intro k hk h
    rw [Bool.and_eq_true] at h
    rw [E.out]
    cases hq : (List.range ts.length).all (fun i => !mayGo ls ts i)
    · simp
    · rw [List.all_eq_true] at hq
      have := hq k (List.mem_range.2 hk)
      rw [h.2] at this; cases this
  generalize stuckT ls ts = res at *
  generalize (List.range ts.length).all (fun i => !(singlesOk ls ts && mayGo ls ts i)) = tot at *
  have CM := fun i w' (h : Below w.heap.size w w') => cMayMoveS a b ca cb ls ts i w' (hz.below h) hl (ht.below h) hm
  have CS := fun w' (h : Below w.heap.size w w') => cSinglesS a b ca cb ls ts w' (hz.below h) hl (ht.below h) hm
  have CD := fun w' (h : Below w.heap.size w w') => cDoneS b cb ts w' (ht.below h) hm
  clear E ht hz
  go_enter Try.func33, Try.ntmps33
  go_wp2
  go_loopw [5] (fun i wr => ∃ k : Nat, k ≤ ts.length ∧ i = .int .i64 k ∧ Hid (((List.range ts.length).drop k).all (fun i => !(singlesOk ls ts && mayGo ls ts i)) = tot) ∧ Below w.heap.size w wr) (fun i _ => ts.length - (intOf i).toNat)
  case atStart => exact ⟨0, Nat.zero_le _, rfl, E2, Below.refl _ _⟩
  case round =>
    obtain ⟨k, hk, rfl, hres, hb1⟩ := hrel
    clear E2
    by_cases hlt : k < ts.length
    · have hd := hide ((range_drop hlt (fun i => !(singlesOk ls ts && mayGo ls ts i))).symm.trans hres.out)
      have C := CM k
      rw [hEm k hlt] at C
      have hbk := hide (hbad.out k hlt)
      generalize (singlesOk ls ts && mayGo ls ts k) = y at *
      clear hres CM hEm CD CS hbad hend
      go_wp2_with fail
      refine (C _ hb1).mono ?_
      rintro e w2 ⟨rfl, hb2⟩
      have HB := btrans hb1 hb2
      clear C hb1 hb2
      cases y
      · have hf := hide (show ((List.range ts.length).drop (k + 1)).all (fun i => !(singlesOk ls ts && mayGo ls ts i)) = tot by rw [← hd.out]; rfl)
        clear hd
        go_wp2
        go_roundw
        case rel => exact ⟨k + 1, by omega, by go_num, hf, HB⟩
        case measure => simp [intOf]; omega
      · have hf := hide (hbk.out rfl)
        clear hd hbk
        go_wp2
        go_ret
        exact ⟨ret_bool hf.out.symm, HB⟩
    · obtain rfl : k = ts.length := by omega
      have hf := hide (hend.out (by rw [← hres.out, List.drop_of_length_le (by simp)]; rfl))
      clear CM hEm hbad hend hres
      go_wp2_with fail
      refine (CS _ hb1).mono ?_
      rintro e w2 ⟨rfl, hb2⟩
      have HB := btrans hb1 hb2
      clear CS hb1 hb2
      generalize singlesOk ls ts = y at *
      cases y
      · go_wp2
        go_ret
        exact ⟨ret_bool hf.out, HB⟩
      · rw [Bool.true_and] at hf
        go_wp2_with fail
        refine (CD _ HB).mono ?_
        rintro e w3 ⟨rfl, hb3⟩
        have HB3 := btrans HB hb3
        clear CD hb3 HB
        go_wp2
        go_ret
        exact ⟨ret_bool hf.out, HB3⟩
end Go.Proofs.Ytggdejceobagcaa
