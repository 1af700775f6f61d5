/- Drawn sales, and a drawn right train. -/
import Derived.Test.YtgnlcehpajbnoaaDK
import Derived.Test.YtgnlcehpajbnoaaMP
import Derived.Deep.RegionLaw
import Derived.Deep.AppendLies
import Derived.Deep.RegionHeld3
namespace Go.Proofs.Ytgnlcehpajbnoaa
open Go.RowKit
theorem Ints.off {w w' : World} {b : Option Addr} {xs : List Int} {cb : Nat} (h : Ints w b xs) (hg : w.grownBy w' (some cb)) (hbc : ∀ x, b = some x → x.block ≠ cb) : Ints w' b xs := by
  rcases h with h | ⟨g, off, rfl, hc⟩
  · exact .inl h
  · refine .inr ⟨g, off, rfl, fun i hi => ?_⟩
    have hx := hc i hi
    have hb := hg.block g (cell_lt hx) (by simpa using hbc _ rfl)
    simp only [World.cell?] at hx ⊢
    rw [hb]
    exact hx

set_option maxHeartbeats 800000 in
theorem cPick (cb cap : Nat) (a : Option Addr) (zs : List Int) (b : Option Addr) (cp : Nat) (xs : List Int) (w : World) (hc : Cur w cb a cap zs) (hl : zs.length ≤ 1048576) (hx : Ints w b xs) (hbc : ∀ x, b = some x → x.block ≠ cb) (h1 : 1 ≤ xs.length) (h2 : xs.length ≤ 1000) :
    Calls Try.prog 72 #[.pointer (some ⟨cb, 0, none⟩), .slice b xs.length cp] w fun e w' => ∃ r, e = .returned (.int .i64 r) ∧ r ∈ xs ∧ Cur w' cb a cap zs ∧ w.grownBy w' (some cb) := by
  go_enter Try.func72, Try.ntmps72
  go_wp2_with fail
  refine (cbelow cb cap a zs xs.length _ hc hl (by omega) (by omega)).mono ?_
  rintro e w1 ⟨y, rfl, y0, y1, C1, G1⟩
  have hx1 := hx.off G1 hbc
  rcases hx1 with h | ⟨nb, off, rfl, hcl⟩
  · simp [h] at h1
  have hy : y.toNat < xs.length := by omega
  have q := hcl y.toNat hy
  have hmem : xs.getD y.toNat 0 ∈ xs := by simp [List.getD, hy]
  generalize xs.getD y.toNat 0 = r at *
  clear hcl hc hx
  go_wp2
  go_ret
  exact ⟨r, rfl, hmem, C1, G1⟩
theorem eight (w : World) (q : Int) : Ints (w.alloc (.cells #[.int .i64 0, .int .i64 0, .int .i64 0, .int .i64 1, .int .i64 0, .int .i64 0, .int .i64 1, .int .i64 q] 3)) (some ⟨w.heap.size, 0, none⟩) [0, 0, 0, 1, 0, 0, 1, q] := by
  refine .inr ⟨_, 0, rfl, fun i hi => ?_⟩
  match i, hi with
  | 0, _ => simp
  | 1, _ => simp
  | 2, _ => simp
  | 3, _ => simp
  | 4, _ => simp
  | 5, _ => simp
  | 6, _ => simp
  | 7, _ => simp
  | (k + 8), hi => simp at hi; omega
theorem three (w : World) (p q r : Int) : Ints (w.alloc (.cells #[.int .i64 p, .int .i64 q, .int .i64 r] 3)) (some ⟨w.heap.size, 0, none⟩) [p, q, r] := by
  refine .inr ⟨_, 0, rfl, fun i hi => ?_⟩
  match i, hi with
  | 0, _ => simp
  | 1, _ => simp
  | 2, _ => simp
  | (k + 3), hi => simp at hi; omega
theorem far_blk {w w' : World} {r : Option Nat} (hg : w.grownBy w' r) {g : Nat} {o : Obj} (h : w.heap[g]? = some o) (hne : ∀ j, r = some j → g ≠ j) : w'.heap[g]? = some o :=
  (hg.block g (lt_of_block h) (fun e => hne g e.symm rfl)).trans h
theorem gofr {w w' : World} (r : Option Nat) (hb : Below w.heap.size w w') : w.grownBy w' r := ⟨hb.os, hb.tape, hb.output, hb.size, fun k hk _ => hb.block k hk⟩
theorem undrewG {w w1 : World} {r : Option Nat} (h : w.drew.grownBy w1 r) : w.grownBy w1 r := ⟨h.os, h.tape, h.output, h.size, h.block⟩
/-- Sales that are drawn. -/
def DrawnS (w : World) (cb : Nat) (a : Option Addr) (cap : Nat) (bs : List Int) (n : Int) (e : Ending) (w' : World) : Prop :=
  ∃ (l : List SaV) (v : Value), e = .returned v ∧ (l.length : Int) < n ∧ w'.ownsRow w.heap.size 35 4 v l.length (flatSas l) ∧ Cur w' cb a cap bs ∧ w.grownBy w' (some cb)

set_option maxRecDepth 20000 in
set_option maxHeartbeats 6400000 in
theorem cDrawS (cb cap : Nat) (a : Option Addr) (bs : List Int) (n P : Int) (w : World) (hc : Cur w cb a cap bs) (hl : bs.length ≤ 1048576) (n1 : 1 ≤ n) (n2 : n ≤ 1000) (P1 : 1 ≤ P) (P2 : P ≤ 11) :
    Calls Try.prog 46 #[.pointer (some ⟨cb, 0, none⟩), .int .i64 n, .int .i64 P] w (DrawnS w cb a cap bs n) := by
  obtain ⟨i1, hi1, hy0, hy1, hy2⟩ := info_parts infoSas
  have hcl := hc.lt (.inl rfl)
  have hOn : ∀ k, OnCur cb a bs k → k < w.heap.size := fun k hk => hc.lt hk
  have A1 := balloc w (.cells #[] 35)
  have C1 := hc.below A1
  have O0 : (w.alloc (.cells #[] 35)).ownsRow w.heap.size 35 4 (.slice (some ⟨w.heap.size, 0, none⟩) 0 0) 0 (flatSas []) := World.ownsRow_made w #[] 0 (Nat.le_refl _) (by unfold maxLen; omega) (by simp)
  go_enter Try.func46, Try.ntmps46
  go_wp2_with fail
  refine (cbelow cb cap a bs n _ C1 hl (by omega) (by omega)).mono ?_
  rintro e w1 ⟨n3, rfl, n30, n31, C2, G2⟩
  have OA := own_far O0 G2 (fun k hk e => by have := own_from O0 (Nat.le_refl _) k hk; simp at e; omega)
  have GA := gtrans (gofr (some cb) A1) G2
  clear A1 C1 O0 G2 hc
  go_wp2
  go_loopw [7, 8, 9, 10] (fun o ii _ _ wr => ∃ (ms : List SaV) (I : Int), ii = .int .i64 I ∧ 0 ≤ I ∧ (ms.length : Int) + I = n3 ∧ wr.ownsRow w.heap.size 35 4 o ms.length (flatSas ms) ∧ Cur wr cb a cap bs ∧ w.grownBy wr (some cb)) (fun _ ii _ _ _ => (intOf ii).toNat)
  case atStart => exact ⟨[], n3, rfl, n30, by simp, OA, C2, GA⟩
  case round =>
    clear OA GA C2
    obtain ⟨ms, I, rfl, I0, hLI, O, C, hG⟩ := hrel
    obtain ⟨go, co, rfl⟩ := own_form O
    replace hLI := hide hLI
    have hml : ms.length ≤ 1000 := by have := hLI.out; omega
    have hI4 : I ≤ 1000 := by have := hLI.out; omega
    by_cases hI : 0 < I
    · go_wp2_with fail
      refine (cbelow cb cap a bs P _ C hl (by omega) (by omega)).mono ?_
      rintro e wa ⟨x, rfl, x0, x1, C', G'⟩
      replace O := own_far O G' (fun k hk e => by have := own_from O (Nat.le_refl _) k hk; simp at e; omega)
      replace hG := gtrans hG G'
      clear C G'
      have C := C'
      clear C'
      go_wp2_with fail
      refine (cbelow cb cap a bs 4 _ C hl (by omega) (by omega)).mono ?_
      rintro e wb ⟨q, rfl, q0, q1, C', G'⟩
      replace O := own_far O G' (fun k hk e => by have := own_from O (Nat.le_refl _) k hk; simp at e; omega)
      replace hG := gtrans hG G'
      clear C G'
      have C := C'
      clear C'
      have F := eight wb (q - 1)
      have hA := balloc wb (.cells #[.int .i64 0, .int .i64 0, .int .i64 0, .int .i64 1, .int .i64 0, .int .i64 0, .int .i64 1, .int .i64 (q - 1)] 3)
      have hcb : cb < wb.heap.size := C.lt (.inl rfl)
      have hnb : ∀ x, (some (⟨wb.heap.size, 0, none⟩ : Addr)) = some x → x.block ≠ cb := fun x hx => by injection hx with hx; subst hx; show wb.heap.size ≠ cb; omega
      replace C := C.below hA
      replace O := own_keep O hA
      replace hG := gtrans hG (gofr _ hA)
      clear hA hcb
      go_wp2_with fail
      refine (cPick cb cap a bs _ 8 [0, 0, 0, 1, 0, 0, 1, q - 1] _ C hl F hnb (by simp) (by simp)).mono ?_
      rintro e wc ⟨kd, rfl, -, C', G'⟩
      clear F hnb
      replace O := own_far O G' (fun k hk e => by have := own_from O (Nat.le_refl _) k hk; simp at e; omega)
      replace hG := gtrans hG G'
      clear C G'
      have C := C'
      clear C'
      go_wp2_with fail
      refine (cbelow cb cap a bs 14 _ C hl (by omega) (by omega)).mono ?_
      rintro e wd ⟨p1, rfl, p10, p11, C', G'⟩
      replace O := own_far O G' (fun k hk e => by have := own_from O (Nat.le_refl _) k hk; simp at e; omega)
      replace hG := gtrans hG G'
      clear C G'
      have C := C'
      clear C'
      go_wp2_with fail
      refine (cbelow cb cap a bs (P - x) _ C hl (by omega) (by omega)).mono ?_
      rintro e we ⟨p2, rfl, p20, p21, C', G'⟩
      replace O := own_far O G' (fun k hk e => by have := own_from O (Nat.le_refl _) k hk; simp at e; omega)
      replace hG := gtrans hG G'
      clear C G'
      have C := C'
      clear C'
      have hA := balloc we (.cells #[.int .i64 kd, .int .i64 (1 + p1), .int .i64 x, .int .i64 (x + 1 + p2)] 35)
      have B0 := heap_alloc_new we (.cells #[.int .i64 kd, .int .i64 (1 + p1), .int .i64 x, .int .i64 (x + 1 + p2)] 35)
      have hcb : cb < we.heap.size := C.lt (.inl rfl)
      have hwb : w.heap.size ≤ we.heap.size := hG.size
      have hoB := own_blk_lt O
      replace C := C.below hA
      replace O := own_keep O hA
      replace hG := gtrans hG (gofr _ hA)
      clear hA
      go_wp2_with fail
      generalize (we.alloc (.cells #[.int .i64 kd, .int .i64 (1 + p1), .int .i64 x, .int .i64 (x + 1 + p2)] 35)) = wf at *
      generalize we.heap.size = sb at *
      refine (conce cb cap a bs 30 _ C hl (by omega) (by omega)).mono ?_
      rintro e wg ⟨rr, rfl, C', G'⟩
      replace B0 := far_blk G' B0 (fun j hj => by simp at hj; omega)
      replace O := own_far O G' (fun k hk e => by have := own_from O (Nat.le_refl _) k hk; simp at e; omega)
      replace hG := gtrans hG G'
      clear C G'
      have C := C'
      clear C'
      obtain ⟨⟨t0, t1, t2, t3⟩, m0, m1, m2, m3⟩ := blk4 B0
      have hsl := lt_of_block B0
      cases rr
      rotate_left
      · have F := three wg x (P + 1) (-1)
        have hA := balloc wg (.cells #[.int .i64 x, .int .i64 (P + 1), .int .i64 (-1)] 3)
        have hcg : cb < wg.heap.size := C.lt (.inl rfl)
        have hnb : ∀ x, (some (⟨wg.heap.size, 0, none⟩ : Addr)) = some x → x.block ≠ cb := fun x hx => by injection hx with hx; subst hx; show wg.heap.size ≠ cb; omega
        replace C := C.below hA
        replace O := own_keep O hA
        replace hG := gtrans hG (gofr _ hA)
        replace B0 := blk_keep hA B0
        clear hA hcg t0 t1 t2 t3 m0 m1 m2 m3 hsl
        go_wp2_with fail
        refine (cPick cb cap a bs _ 3 [x, P + 1, -1] _ C hl F hnb (by simp) (by simp)).mono ?_
        rintro e wh ⟨ff, rfl, -, C', G'⟩
        clear F hnb
        replace B0 := far_blk G' B0 (fun j hj => by simp at hj; omega)
        replace O := own_far O G' (fun k hk e => by have := own_from O (Nat.le_refl _) k hk; simp at e; omega)
        replace hG := gtrans hG G'
        clear C G'
        have C := C'
        clear C'
        obtain ⟨⟨t0, t1, t2, t3⟩, m0, m1, m2, m3⟩ := blk4 B0
        have hsl := lt_of_block B0
        have B1 : (wh.setCell ⟨sb, 3, none⟩ (.int .i64 ff)).heap[sb]? = some (.cells #[.int .i64 kd, .int .i64 (1 + p1), .int .i64 x, .int .i64 ff] 35 (0, 0)) := blk_set B0
        replace O := own_set (b := sb) (i := 3) (u := .int .i64 ff) O (fun k hk => by have := hoB k hk; omega)
        replace C := C.grow hOn (grown_set wh sb 3 (.int .i64 ff)) (fun k hk => by simp at hk; omega)
        replace hG := grown_far hG (grown_set wh sb 3 (.int .i64 ff)) (fun k hk => by simp at hk; omega)
        go_upto_region 9 with fail
        clear B0 m0 m1 m2 m3 t0 t1 t2 t3
        generalize wh.setCell ⟨sb, 3, none⟩ (.int .i64 ff) = W at *
        obtain ⟨⟨t0, t1, t2, t3⟩, m0, m1, m2, m3⟩ := blk4 B1

        have hsz := hG.size
        go_wp2_with (at_builtin; refine wpList_append_own _ rfl _ _ 27 rfl w.heap.size 35 i1 _ 4 32 Try.underlying27 hi1 hy0 hy1 hy2 rfl (by decide) _ _ _ rfl (O.alloc _) ⟨W.heap.size, 0, none⟩ 1 1 (SaV.vs (⟨kd, 1 + p1, x, ff⟩ : SaV)) rfl rfl ?c1 ?c2 ?c3 ?c4 ?c5 ?_)
        case c1 => exact World.news_of_block (heap_alloc_new W _)
        case c2 => simp [Value.oneCell', SaV.vs]
        case c3 => unfold maxLen; omega
        case c4 => omega
        case c5 => simp; omega
        intro v' w9 hown' hgrow _
        have hfrom := own_from O (Nat.le_refl _)
        have C9 := Cur.grow (C.below (balloc W _)) hOn hgrow hfrom
        have O9 : w9.ownsRow w.heap.size 35 4 v' (ms ++ [(⟨kd, 1 + p1, x, ff⟩ : SaV)]).length (flatSas (ms ++ [(⟨kd, 1 + p1, x, ff⟩ : SaV)])) := by
          rw [List.length_append, flatSas_app, show flatSas [(⟨kd, 1 + p1, x, ff⟩ : SaV)] = SaV.vs (⟨kd, 1 + p1, x, ff⟩ : SaV) by simp [flatSas]]; exact hown'
        have G9 : w.grownBy w9 (some cb) := grown_far (gtrans hG (gofr _ (balloc W _))) hgrow hfrom
        clear O C hown' hgrow hfrom hG
        go_wp2
        go_roundw
        case rel => exact ⟨ms ++ [(⟨kd, 1 + p1, x, ff⟩ : SaV)], I - 1, by go_num, by omega, by have := hLI.out; simp; omega, O9, C9, G9⟩
        case measure => simp [intOf]; omega

      · have hsz0 := hsl
        generalize wg = W at *

        have hsz := hG.size
        go_wp2_with (at_builtin; refine wpList_append_own _ rfl _ _ 27 rfl w.heap.size 35 i1 _ 4 32 Try.underlying27 hi1 hy0 hy1 hy2 rfl (by decide) _ _ _ rfl (O.alloc _) ⟨W.heap.size, 0, none⟩ 1 1 (SaV.vs (⟨kd, 1 + p1, x, x + 1 + p2⟩ : SaV)) rfl rfl ?c1 ?c2 ?c3 ?c4 ?c5 ?_)
        case c1 => exact World.news_of_block (heap_alloc_new W _)
        case c2 => simp [Value.oneCell', SaV.vs]
        case c3 => unfold maxLen; omega
        case c4 => omega
        case c5 => simp; omega
        intro v' w9 hown' hgrow _
        have hfrom := own_from O (Nat.le_refl _)
        have C9 := Cur.grow (C.below (balloc W _)) hOn hgrow hfrom
        have O9 : w9.ownsRow w.heap.size 35 4 v' (ms ++ [(⟨kd, 1 + p1, x, x + 1 + p2⟩ : SaV)]).length (flatSas (ms ++ [(⟨kd, 1 + p1, x, x + 1 + p2⟩ : SaV)])) := by
          rw [List.length_append, flatSas_app, show flatSas [(⟨kd, 1 + p1, x, x + 1 + p2⟩ : SaV)] = SaV.vs (⟨kd, 1 + p1, x, x + 1 + p2⟩ : SaV) by simp [flatSas]]; exact hown'
        have G9 : w.grownBy w9 (some cb) := grown_far (gtrans hG (gofr _ (balloc W _))) hgrow hfrom
        clear O C hown' hgrow hfrom hG
        go_wp2
        go_roundw
        case rel => exact ⟨ms ++ [(⟨kd, 1 + p1, x, x + 1 + p2⟩ : SaV)], I - 1, by go_num, by omega, by have := hLI.out; simp; omega, O9, C9, G9⟩
        case measure => simp [intOf]; omega

    · obtain rfl : I = 0 := by omega
      have hlen := hLI.out
      go_wp2
      go_ret
      exact ⟨ms, _, rfl, by omega, O, C, hG⟩
end Go.Proofs.Ytgnlcehpajbnoaa
