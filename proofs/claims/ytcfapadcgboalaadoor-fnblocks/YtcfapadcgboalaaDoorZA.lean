/- The program's moves on a line. -/
import Derived.Test.YtcfapadcgboalaaDoorZ
namespace Go.Proofs.YtcfapadcgboalaaDoor
open Go.RowKit

theorem flat_set1 (ts : List SpanV) (q : Nat) (f : Int) (hq : q < ts.length) : (flatSpans ts).set (q * 2 + 1) (.int .i64 f) = flatSpans (ts.set q ⟨rAt ts q, f⟩) := by
  induction q generalizing ts with
  | zero =>
    cases ts with
    | nil => simp at hq
    | cons t ts => rw [List.set_cons_zero, flatSpans_cons, flatSpans_cons]; rfl
  | succ q ih =>
    cases ts with
    | nil => simp at hq
    | cons t ts =>
      have h := ih ts (by simpa using hq)
      rw [List.set_cons_succ, flatSpans_cons, flatSpans_cons, show (q + 1) * 2 + 1 = q * 2 + 1 + 1 + 1 by omega, List.set_cons_succ, List.set_cons_succ, h]
      rfl
theorem flat_set0 (ts : List SpanV) (q : Nat) (r : Int) (hq : q < ts.length) : (flatSpans ts).set (q * 2) (.int .i64 r) = flatSpans (ts.set q ⟨r, fAt ts q⟩) := by
  induction q generalizing ts with
  | zero =>
    cases ts with
    | nil => simp at hq
    | cons t ts => rw [List.set_cons_zero, flatSpans_cons, flatSpans_cons]; rfl
  | succ q ih =>
    cases ts with
    | nil => simp at hq
    | cons t ts =>
      have h := ih ts (by simpa using hq)
      rw [List.set_cons_succ, flatSpans_cons, flatSpans_cons, show (q + 1) * 2 = q * 2 + 1 + 1 by omega, List.set_cons_succ, List.set_cons_succ, h]
      rfl
theorem Line.row {w : World} {B b : Nat} {n : Int} {v : Value} {ts : List SpanV} (h : Line w B b n v ts) (hp : 0 < ts.length) : ∃ g cap, v = .slice (some ⟨g, 0, none⟩) ts.length cap ∧ B ≤ g ∧ g ≠ b := by
  rcases h.own.2 with ⟨_, h0⟩ | ⟨g, cap, cur, hv, hB, _⟩
  · omega
  · exact ⟨g, cap, hv, hB, h.off g (by rw [hv]; rfl)⟩
theorem Line.lt {w : World} {B b : Nat} {n : Int} {v : Value} {ts : List SpanV} (h : Line w B b n v ts) : b < w.heap.size := lt_of_block h.blk
/-- A cell of the trains' row turned. -/
theorem Line.put {w : World} {B b g cap : Nat} {n : Int} {ts ts' : List SpanV} (h : Line w B b n (.slice (some ⟨g, 0, none⟩) ts.length cap) ts) (hgb : g ≠ b) (o : Nat) (u : Value) (hl : ts'.length = ts.length) (hf : (flatSpans ts).set o u = flatSpans ts') : Line (w.setCell ⟨g, o, none⟩ u) B b n (.slice (some ⟨g, 0, none⟩) ts.length cap) ts' := by
  refine ⟨(Below.heap_setCell _ _ _ _ (fun e => hgb e.symm)).trans h.blk, ?_, h.ge, h.off⟩
  rw [hl, ← hf]
  exact (h.own.stored o u).1
theorem Line.cut {w w' : World} {B b g m cap : Nat} {n : Int} {v : Value} {ts ts' : List SpanV} (h : Line w B b n v ts) (hgr : w.grownBy w' (some g)) (hgb : g ≠ b) (hl : ts'.length = m) (ho : w'.ownsRow B 34 2 (.slice (some ⟨g, 0, none⟩) m cap) m (flatSpans ts')) : Line (w'.setCell ⟨b, 1, none⟩ (.slice (some ⟨g, 0, none⟩) m cap)) B b n (.slice (some ⟨g, 0, none⟩) m cap) ts' := by
  have hb : w'.heap[b]? = w.heap[b]? := hgr.block b h.lt (fun e => hgb (by simpa using e.symm))
  refine ⟨?_, ?_, h.ge, fun k hk => by simp [Value.ownBlock] at hk; omega⟩
  · have := Go.Joins.block_setCell (i := 1) (hb.trans h.blk) (.slice (some ⟨g, 0, none⟩) m cap)
    simpa using this
  · rw [hl]; exact own_set ho (fun k hk => by simp [Value.ownBlock] at hk; omega)

set_option maxHeartbeats 800000 in
theorem cHas (B b : Nat) (n : Int) (v : Value) (ts : List SpanV) (k : Int) (w : World) (hL : Line w B b n v ts) (hl : ts.length ≤ 12) :
    Calls Tryd.prog 39 #[.pointer (some ⟨b, 0, none⟩), .int .i64 k] w fun e w' => e = .returned (.bool (placeB ts k)) ∧ w' = w := by
  obtain ⟨a, c, rfl⟩ := own_form hL.own
  obtain ⟨b0, b1⟩ := hL.cells
  have E : Hid (placeB ts k = inB k 0 ((ts.length : Int) - 1)) := rfl
  generalize placeB ts k = r at *
  clear hL
  go_enter Tryd.func39, Tryd.ntmps39
  go_wp2_with fail
  refine (cWithin _ _ _ _).mono ?_
  rintro e w1 ⟨rfl, hw⟩
  subst w1
  rw [← E.out]
  go_wp2
  go_ret
  exact ⟨rfl, rfl⟩

set_option maxHeartbeats 400000 in
theorem cRed (x : Int) (w : World) : Calls Tryd.prog 40 #[.int .i64 x] w fun e w' => e = .returned (.bool (decide (x = 0))) ∧ w' = w := by
  by_cases h : x = 0
  · subst h
    go_enter Tryd.func40, Tryd.ntmps40
    go_wp2
    go_ret
    exact ⟨rfl, rfl⟩
  · have E := hide (decide_eq_false h)
    generalize decide (x = 0) = r at *
    go_enter Tryd.func40, Tryd.ntmps40
    go_wp2
    go_ret
    exact ⟨ret_bool (by rw [E.out]; simpa using h), rfl⟩
theorem own_mono {w w' : World} {B : Nat} (h : Below w.heap.size w w') (hB : B ≤ w.heap.size) : Below B w w' := h.mono hB

theorem cDelete' (B g L m cap : Nat) (ts : List SpanV) (w : World) (hm : ts.length = m + 1) (hl : ts.length ≤ 12) (ho : w.ownsRow B 34 2 (.slice (some ⟨g, 0, none⟩) L cap) L (flatSpans ts)) :
    Calls Tryd.prog 41 #[.slice (some ⟨g, 0, none⟩) L cap, .int .i64 (m : Int), .int .i64 ((m : Int) + 1)] w fun e w' => e = .returned (.slice (some ⟨g, 0, none⟩) m cap) ∧
      w'.ownsRow B 34 2 (.slice (some ⟨g, 0, none⟩) m cap) m (flatSpans (ts.take m)) ∧ w.grownBy w' (some g) := by
  have := ho.1
  rw [flatSpans_len] at this
  obtain rfl : L = m + 1 := by omega
  exact cDelete B g m cap ts w hm (by omega) ho

set_option maxRecDepth 20000 in
set_option maxHeartbeats 3200000 in
theorem cForwardI (B b : Nat) (n : Int) (v : Value) (ts : List SpanV) (k y : Int) (w : World) (hL : Line w B b n v ts) (hok : trainsOk n ts = true) :
    Calls Tryd.prog 26 #[.pointer (some ⟨b, 0, none⟩), .int .i64 k, .int .i64 y] w fun e w' => ∃ ev, e = .returned ev ∧ ErrV (fwd n ts k y).isSome ev ∧
      (∃ v', Line w' B b n v' ((fwd n ts k y).getD ts)) ∧ Below B w w' := by
  obtain ⟨h1, h2, h3⟩ := trains_of hok
  have hB : B ≤ w.heap.size := by have := hL.ge; have := hL.lt; omega
  cases hp : placeB ts k
  · have R := hide (fwd_place (n := n) (y := y) hp)
    generalize fwd n ts k y = r at *
    go_enter Tryd.func26, Tryd.ntmps26
    go_wp2_with fail
    refine (cHas B b n v ts k _ hL h2).mono ?_
    rintro e w1 ⟨rfl, hw⟩
    subst w1
    rw [hp]
    go_wp2
    go_ret
    exact ⟨_, rfl, by rw [R.out]; exact .inr ⟨rfl, _, rfl⟩, ⟨_, by rw [R.out]; exact hL⟩, Below.refl _ _⟩
  cases hy : inB y 0 3
  · have R := hide (fwd_beyond (n := n) (ts := ts) (k := k) hy)
    generalize fwd n ts k y = r at *
    go_enter Tryd.func26, Tryd.ntmps26
    go_wp2_with fail
    refine (cHas B b n v ts k _ hL h2).mono ?_
    rintro e w1 ⟨rfl, hw⟩
    subst w1
    rw [hp]
    go_wp2_with fail
    refine (cAok y _).mono ?_
    rintro e w1 ⟨rfl, hw⟩
    subst w1
    rw [hy]
    go_wp2
    go_ret
    exact ⟨_, rfl, by rw [R.out]; exact .inr ⟨rfl, _, rfl⟩, ⟨_, by rw [R.out]; exact hL⟩, Below.refl _ _⟩
  obtain ⟨q, rfl, hq⟩ := place_of hp
  obtain ⟨hy0, hy3⟩ := inB_true hy
  obtain ⟨n1, n2⟩ := inB_true h1
  have hat := ok_at hok hq
  obtain ⟨g, cap, rfl, hBg, hgb⟩ := hL.row (by omega)
  obtain ⟨b0, b1⟩ := hL.cells
  obtain ⟨y0, y1⟩ := flatSpans_get ts q hq
  have z1 : w.cell? ⟨g, q * 2 + 1, none⟩ = some (.int .i64 (fAt ts q)) := (hL.own.cellAt (q * 2 + 1) (by omega)).trans y1
  have hTK := takens_len ts n.toNat
  have CS := fun a cap w (hz : Bools w a (takens ts n.toNat)) => cSigs a cap (takens ts n.toNat) y w hz (by rw [hTK]; omega) hy0 hy3
  rw [hTK] at CS
  have CT := fun w hL => cTaken B b n (.slice (some ⟨g, 0, none⟩) ts.length cap) ts w hL hok
  rw [rowB_all] at CT
  have hA : Hid (ahead n ts q y = asp (takens ts n.toNat) y (fAt ts q + 1).toNat) := rfl
  have hR1 : ahead n ts q y = 0 → fwd n ts (q : Int) y = none := fun h => fwd_red h
  have hR2 : ahead n ts q y ≠ 0 → fwd n ts (q : Int) y = some (moved n ts q) := fun h => fwd_go hp hy h
  have hM1 : fAt ts q + 1 = n → moved n ts q = ts.take q ∧ ts.length = q + 1 := fun h => ⟨by unfold moved; rw [if_pos h], (ok_last hok hq h).symm⟩
  have hM2 : fAt ts q + 1 ≠ n → moved n ts q = ts.set q ⟨rAt ts q, fAt ts q + 1⟩ := fun h => by unfold moved; rw [if_neg h]
  have hS1 := flat_set1 ts q (fAt ts q + 1) hq
  generalize ahead n ts q y = A at *
  generalize fwd n ts (q : Int) y = r at *
  generalize moved n ts q = M at *
  obtain ⟨x, hx⟩ : ∃ x : Nat, fAt ts q = x := ⟨(fAt ts q).toNat, by omega⟩
  obtain ⟨Nn, rfl⟩ := Int.eq_ofNat_of_zero_le (show 0 ≤ n by omega)
  rw [hx] at z1 hA hM1 hM2 hS1 hat
  rw [show ((x : Int) + 1).toNat = x + 1 by omega] at hA
  rw [Int.toNat_natCast] at CS CT hA
  generalize asp (takens ts Nn) y = f at *
  have hxn : x + 1 ≤ Nn := by omega
  have CSx := fun a cap w hz => (CS a cap w hz)
  clear y0 y1 h3 hTK hx CS
  go_enter Tryd.func26, Tryd.ntmps26
  go_wp2_with fail
  refine (cHas B b Nn _ ts q _ hL h2).mono ?_
  rintro e w1 ⟨rfl, hw⟩
  subst w1
  rw [hp]
  go_wp2_with fail
  refine (cAok y _).mono ?_
  rintro e w1 ⟨rfl, hw⟩
  subst w1
  rw [hy]
  have hqi : (q : Int) < (ts.length : Int) := by omega
  go_wp2_with fail
  refine (CT _ hL).mono ?_
  rintro e w2 ⟨rfl, ot, hb2⟩
  have hL2 := hL.below hb2
  clear hL b0 b1 z1 CT
  go_wp2_with fail
  refine (CSx _ _ _ (Bools.of_owns ot)).mono ?_
  rintro e w3 ⟨rfl, os, hb3⟩
  have HB3 := btrans hb2 hb3
  have hL3 := hL2.below hb3
  have zs := (os.cellAt (x + 1) (by omega)).trans (sigRow_get f Nn Nn (x + 1) hxn)
  rw [if_pos (by omega), ← hA.out] at zs
  clear hb2 hb3 hL2 ot os CSx
  obtain ⟨b0, b1⟩ := hL3.cells
  have hBw := own_mono HB3 hB
  have x5 : (x : Int) + 1 < (Nn : Int) + 1 := by omega
  have x6 : ((x : Int) + 1).toNat = x + 1 := by omega
  have x7 : (0 : Int) ≤ (x : Int) + 1 := by omega
  have hge := hL3.ge
  by_cases hA0 : A = 0
  · have R := hide (hR1 hA0)
    clear hR1 hR2 hM1 hM2 hS1
    subst hA0
    go_wp2_with fail
    refine (cRed 0 _).mono ?_
    rintro e w4 ⟨rfl, hw⟩
    subst w4
    rw [show decide ((0 : Int) = 0) = true from rfl]
    go_wp2
    go_ret
    exact ⟨_, rfl, by rw [R.out]; exact .inr ⟨rfl, _, rfl⟩, ⟨_, by rw [R.out]; exact hL3⟩, hBw⟩
  have R := hide (hR2 hA0)
  by_cases hN : (x : Int) + 1 = (Nn : Int)
  · obtain ⟨hM, hlen⟩ := hM1 hN
    replace hM := hide hM
    replace hN := hide hN
    clear hR1 hR2 hM1 hM2 hS1 hxn
    have CD := fun w' ho => cDelete' B g ts.length q cap ts w' hlen h2 ho
    have hlT : (ts.take q).length = q := by simp; omega
    clear hlen
    go_wp2_with fail
    refine (cRed A _).mono ?_
    rintro e w4 ⟨rfl, hw⟩
    subst w4
    rw [decide_eq_false hA0]
    have hN' := hN.out
    go_wp2_with fail
    refine (CD _ hL3.own).mono ?_
    rintro e w5 ⟨rfl, ho, hgr⟩
    have blk := (hgr.block b hL3.lt (fun e => hgb (by simpa using e.symm))).trans hL3.blk
    have c1 : w5.cell? ⟨b, 1, none⟩ = some (.slice (some ⟨g, 0, none⟩) ts.length cap) := Go.Joins.cell_of_block blk 1
    have f1 := Go.Joins.unfrozen_of_block blk 1
    have hL5 := hL3.cut hgr hgb hlT ho
    have hBw5 : Below B w w5 := hBw.grown hgr (by have := HB3.size; omega) (fun j e => by cases e; exact hBg)
    clear blk hgr ho CD
    go_wp2
    go_ret
    exact ⟨_, rfl, by rw [R.out]; exact .inl ⟨rfl, rfl⟩, ⟨_, by rw [R.out, hM.out]; exact hL5⟩, below_set hge hBw5⟩
  · have hM := hide (hM2 hN)
    have hL5 := hL3.put hgb (q * 2 + 1) (.int .i64 ((x : Int) + 1)) (by simp) hS1
    clear hR1 hR2 hM1 hM2 hS1 hxn
    obtain ⟨_, y1⟩ := flatSpans_get ts q hq
    have z1 := (hL3.own.cellAt (q * 2 + 1) (by omega)).trans y1
    have f1 := hL3.own.frozenAt (q * 2 + 1)
    generalize (ts.getD q SpanV.zero).f = oldf at z1
    clear y1
    go_wp2_with fail
    refine (cRed A _).mono ?_
    rintro e w4 ⟨rfl, hw⟩
    subst w4
    rw [decide_eq_false hA0]
    go_wp2
    go_ret
    exact ⟨_, rfl, by rw [R.out]; exact .inl ⟨rfl, rfl⟩, ⟨_, by rw [R.out, hM.out]; exact hL5⟩, below_set hBg hBw⟩

set_option maxRecDepth 20000 in
set_option maxHeartbeats 3200000 in
theorem cShrinkI (B b : Nat) (n : Int) (v : Value) (ts : List SpanV) (k : Int) (w : World) (hL : Line w B b n v ts) (hok : trainsOk n ts = true) :
    Calls Tryd.prog 27 #[.pointer (some ⟨b, 0, none⟩), .int .i64 k] w fun e w' => ∃ ev, e = .returned ev ∧ ErrV (shr ts k).isSome ev ∧
      (∃ v', Line w' B b n v' ((shr ts k).getD ts)) ∧ Below B w w' := by
  obtain ⟨h1, h2, h3⟩ := trains_of hok
  have hB : B ≤ w.heap.size := by have := hL.ge; have := hL.lt; omega
  cases hp : placeB ts k
  · have R := hide (shr_place hp)
    generalize shr ts k = r at *
    go_enter Tryd.func27, Tryd.ntmps27
    go_wp2_with fail
    refine (cHas B b n v ts k _ hL h2).mono ?_
    rintro e w1 ⟨rfl, hw⟩
    subst w1
    rw [hp]
    go_wp2
    go_ret
    exact ⟨_, rfl, by rw [R.out]; exact .inr ⟨rfl, _, rfl⟩, ⟨_, by rw [R.out]; exact hL⟩, Below.refl _ _⟩
  obtain ⟨q, rfl, hq⟩ := place_of hp
  obtain ⟨n1, n2⟩ := inB_true h1
  have hat := ok_at hok hq
  obtain ⟨g, cap, rfl, hBg, hgb⟩ := hL.row (by omega)
  obtain ⟨b0, b1⟩ := hL.cells
  obtain ⟨y0, y1⟩ := flatSpans_get ts q hq
  have z0 : w.cell? ⟨g, q * 2, none⟩ = some (.int .i64 (rAt ts q)) := (hL.own.cellAt (q * 2) (by omega)).trans y0
  have z1 : w.cell? ⟨g, q * 2 + 1, none⟩ = some (.int .i64 (fAt ts q)) := (hL.own.cellAt (q * 2 + 1) (by omega)).trans y1
  have f0 := hL.own.frozenAt (q * 2)
  have hR1 : rAt ts q = fAt ts q → shr ts (q : Int) = none := fun h => shr_one h
  have hR2 : rAt ts q ≠ fAt ts q → shr ts (q : Int) = some (ts.set q ⟨rAt ts q + 1, fAt ts q⟩) := fun h => shr_go hp h
  have hS0 := flat_set0 ts q (rAt ts q + 1) hq
  have CH := cHas B b n _ ts (q : Int) w hL h2
  have hML : (ts.set q ⟨rAt ts q + 1, fAt ts q⟩).length = ts.length := by simp
  have hqi : (q : Int) < (ts.length : Int) := by omega
  replace hS0 := hide hS0
  clear y0 y1 h3
  generalize shr ts (q : Int) = r at *
  generalize rAt ts q = x at *
  generalize fAt ts q = y at *
  generalize ts.set q ⟨x + 1, y⟩ = M at *
  by_cases hxy : x = y
  · have R := hide (hR1 hxy)
    clear hR1 hR2 hS0
    subst hxy
    go_enter Tryd.func27, Tryd.ntmps27
    go_wp2_with fail
    refine CH.mono ?_
    rintro e w1 ⟨rfl, hw⟩
    subst w1
    rw [hp]
    go_wp2
    go_quiet (fail)
    go_wp2
    go_ret
    exact ⟨_, rfl, by rw [R.out]; exact .inr ⟨rfl, _, rfl⟩, ⟨_, by rw [R.out]; exact hL.below (Go.Joins.below_draws _ _ _)⟩, Go.Joins.below_draws _ _ _⟩
  · have R := hide (hR2 hxy)
    have hxy' : ¬ (y = x) := fun h => hxy h.symm
    clear hR1 hR2
    go_enter Tryd.func27, Tryd.ntmps27
    go_wp2_with fail
    refine CH.mono ?_
    rintro e w1 ⟨rfl, hw⟩
    subst w1
    rw [hp]
    go_wp2
    go_quiet (fail)
    go_wp2
    go_ret
    exact ⟨_, rfl, by rw [R.out]; exact .inl ⟨rfl, rfl⟩, ⟨_, by rw [R.out]; exact (hL.below (Go.Joins.below_draws _ w nq)).put hgb (q * 2) _ hML hS0.out⟩, below_set hBg (Go.Joins.below_draws _ w nq)⟩
end Go.Proofs.YtcfapadcgboalaaDoor
