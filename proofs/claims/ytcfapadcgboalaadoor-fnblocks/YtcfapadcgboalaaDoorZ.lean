/- What a move does to a list of trains. -/
import Derived.Test.YtcfapadcgboalaaDoorY
namespace Go.Proofs.YtcfapadcgboalaaDoor
open Go.RowKit

/-- The signal ahead of the train at place q. -/
def ahead (n : Int) (ts : List SpanV) (q : Nat) (y : Int) : Int := asp (takens ts n.toNat) y (fAt ts q + 1).toNat
def moved (n : Int) (ts : List SpanV) (q : Nat) : List SpanV := if fAt ts q + 1 = n then ts.take q else ts.set q ⟨rAt ts q, fAt ts q + 1⟩
def placeB (ts : List SpanV) (k : Int) : Bool := inB k 0 ((ts.length : Int) - 1)
def fwd (n : Int) (ts : List SpanV) (k y : Int) : Option (List SpanV) :=
  if placeB ts k = true ∧ inB y 0 3 = true ∧ ahead n ts k.toNat y ≠ 0 then some (moved n ts k.toNat) else none
def drawn (ts : List SpanV) (q : Nat) : List SpanV := ts.set q ⟨rAt ts q + 1, fAt ts q⟩
def shr (ts : List SpanV) (k : Int) : Option (List SpanV) :=
  if placeB ts k = true ∧ rAt ts k.toNat ≠ fAt ts k.toNat then some (drawn ts k.toNat) else none
def mv (n y : Int) (ts : List SpanV) (m : Int) : Option (List SpanV) := if m < 0 then none else if m % 2 = 0 then fwd n ts (wrap64 (m / 2)) y else shr ts (wrap64 (m / 2))

theorem fwd_place {n : Int} {ts : List SpanV} {k y : Int} (h : placeB ts k = false) : fwd n ts k y = none := by unfold fwd; rw [if_neg]; rw [h]; simp
theorem fwd_beyond {n : Int} {ts : List SpanV} {k y : Int} (h : inB y 0 3 = false) : fwd n ts k y = none := by unfold fwd; rw [if_neg]; rw [h]; simp
theorem fwd_red {n : Int} {ts : List SpanV} {q : Nat} {y : Int} (h : ahead n ts q y = 0) : fwd n ts (q : Int) y = none := by unfold fwd; rw [if_neg]; rw [Int.toNat_natCast, h]; simp
theorem fwd_go {n : Int} {ts : List SpanV} {q : Nat} {y : Int} (h1 : placeB ts (q : Int) = true) (h2 : inB y 0 3 = true) (h : ahead n ts q y ≠ 0) : fwd n ts (q : Int) y = some (moved n ts q) := by
  unfold fwd; rw [if_pos]
  · rfl
  · exact ⟨h1, h2, h⟩
theorem shr_place {ts : List SpanV} {k : Int} (h : placeB ts k = false) : shr ts k = none := by unfold shr; rw [if_neg]; rw [h]; simp
theorem shr_one {ts : List SpanV} {q : Nat} (h : rAt ts q = fAt ts q) : shr ts (q : Int) = none := by unfold shr; rw [if_neg]; rw [Int.toNat_natCast, h]; simp
theorem shr_go {ts : List SpanV} {q : Nat} (h1 : placeB ts (q : Int) = true) (h : rAt ts q ≠ fAt ts q) : shr ts (q : Int) = some (drawn ts q) := by
  unfold shr; rw [if_pos]
  · rfl
  · exact ⟨h1, h⟩
theorem place_of {ts : List SpanV} {k : Int} (h : placeB ts k = true) : ∃ q : Nat, k = q ∧ q < ts.length := by
  have := inB_true h
  exact ⟨k.toNat, by omega, by omega⟩
theorem ok_at {n : Int} {ts : List SpanV} (h : trainsOk n ts = true) {q : Nat} (hq : q < ts.length) : 0 ≤ freeAt ts q ∧ freeAt ts q ≤ rAt ts q ∧ rAt ts q ≤ fAt ts q ∧ fAt ts q < n := by
  obtain ⟨_, _, h3⟩ := trains_of h
  have h0 := free_pos (n := n) q (fun j hj => h3 j (by omega))
  have := h3 q hq
  simp only [tOk, decide_eq_true_eq] at this
  omega
/-- Only the last of right trains lies on the last block. -/
theorem ok_last {n : Int} {ts : List SpanV} (h : trainsOk n ts = true) {q : Nat} (hq : q < ts.length) (hf : fAt ts q + 1 = n) : q + 1 = ts.length := by
  by_cases e : q + 1 = ts.length
  · exact e
  · exfalso
    have h1 := ok_at h (q := q + 1) (by omega)
    simp only [freeAt] at h1
    omega
theorem getD_set (ts : List SpanV) (q j : Nat) (t : SpanV) : (ts.set q t).getD j SpanV.zero = if q = j ∧ q < ts.length then t else ts.getD j SpanV.zero := by
  simp only [List.getD, List.getElem?_set]
  by_cases e : q = j
  · subst e
    by_cases hl : q < ts.length
    · simp [hl]
    · simp [hl]
  · simp [e]
theorem onAll_far {ts : List SpanV} {q : Nat} (hq : q < ts.length) {b : Nat} (h : onAll ts b = false) : ¬ (rAt ts q ≤ b ∧ b ≤ fAt ts q) := by
  intro hc
  unfold onAll onB at h
  rw [List.take_length, List.any_eq_false] at h
  have e : ts.getD q SpanV.zero = ts[q] := by simp [List.getD, hq]
  have := h ts[q] (List.getElem_mem hq)
  apply this
  unfold rAt fAt at hc
  rw [e] at hc
  exact inB_yes hc.1 hc.2
theorem take_ok {n : Int} {ts : List SpanV} (h : trainsOk n ts = true) (q : Nat) : trainsOk n (ts.take q) = true := by
  obtain ⟨h1, h2, h3⟩ := trains_of h
  have gd : ∀ j, j < (ts.take q).length → (ts.take q).getD j SpanV.zero = ts.getD j SpanV.zero := fun j hj => by
    rw [List.length_take] at hj
    have : j < q := by omega
    simp [List.getD, this]
  refine trains_y h1 (by rw [List.length_take]; omega) (fun j hj => ?_)
  have hj' : j < ts.length := by rw [List.length_take] at hj; omega
  have := h3 j hj'
  have er : rAt (ts.take q) j = rAt ts j := by unfold rAt; rw [gd j hj]
  have ef : fAt (ts.take q) j = fAt ts j := by unfold fAt; rw [gd j hj]
  have e0 : freeAt (ts.take q) j = freeAt ts j := by
    cases j with
    | zero => rfl
    | succ j => simp only [freeAt, fAt]; rw [gd j (by omega)]
  simp only [tOk] at this ⊢
  rw [er, ef, e0]; exact this
theorem set_ok {n : Int} {ts : List SpanV} (h : trainsOk n ts = true) {q : Nat} (hq : q < ts.length) (r f : Int) (h1 : freeAt ts q ≤ r) (h2 : r ≤ f) (h3 : f < n) (h4 : q + 1 < ts.length → f < rAt ts (q + 1)) : trainsOk n (ts.set q ⟨r, f⟩) = true := by
  obtain ⟨g1, g2, g3⟩ := trains_of h
  refine trains_y g1 (by simpa using g2) (fun j hj => ?_)
  rw [List.length_set] at hj
  have := g3 j hj
  simp only [tOk, decide_eq_true_eq] at this ⊢
  have ef : ∀ i, fAt (ts.set q ⟨r, f⟩) i = if q = i then f else fAt ts i := fun i => by
    unfold fAt; rw [getD_set]
    by_cases e : q = i
    · rw [if_pos ⟨e, hq⟩, if_pos e]
    · rw [if_neg (fun x => e x.1), if_neg e]
  have er : ∀ i, rAt (ts.set q ⟨r, f⟩) i = if q = i then r else rAt ts i := fun i => by
    unfold rAt; rw [getD_set]
    by_cases e : q = i
    · rw [if_pos ⟨e, hq⟩, if_pos e]
    · rw [if_neg (fun x => e x.1), if_neg e]
  have e0 : freeAt (ts.set q ⟨r, f⟩) j = if j = q + 1 then f + 1 else freeAt ts j := by
    cases j with
    | zero => rw [if_neg (by omega)]; rfl
    | succ j =>
      simp only [freeAt]
      rw [ef j]
      by_cases e : q = j
      · rw [if_pos e, if_pos (by omega)]
      · rw [if_neg e, if_neg (by omega)]
  rw [e0, ef, er]
  by_cases a : q = j
  · subst a
    rw [if_neg (by omega), if_pos rfl, if_pos rfl]; omega
  · rw [if_neg a, if_neg a]
    by_cases b : j = q + 1
    · rw [if_pos b]
      subst b
      have := h4 hj
      omega
    · rw [if_neg b]; exact this
theorem ahead_free {n : Int} {ts : List SpanV} (h : trainsOk n ts = true) {q : Nat} (hq : q < ts.length) {y : Int} (ha : ahead n ts q y ≠ 0) (hn : fAt ts q + 1 ≠ n) : onAll ts (fAt ts q + 1).toNat = false := by
  have hk := ok_at h hq
  have hb : (fAt ts q + 1).toNat < (takens ts n.toNat).length := by rw [takens_len]; omega
  have hv : (takens ts n.toNat)[(fAt ts q + 1).toNat] = onAll ts (fAt ts q + 1).toNat := by simp [takens]
  cases hc : onAll ts (fAt ts q + 1).toNat
  · rfl
  · exact absurd (asp_no hb (hv.trans hc)) ha
theorem moved_ok {n : Int} {ts : List SpanV} (h : trainsOk n ts = true) {q : Nat} (hq : q < ts.length) {y : Int} (ha : ahead n ts q y ≠ 0) : trainsOk n (moved n ts q) = true := by
  unfold moved
  split
  · exact take_ok h q
  · rename_i hn
    have hk := ok_at h hq
    refine set_ok h hq _ _ hk.2.1 (by omega) (by omega) (fun hq1 => ?_)
    have hf := onAll_far hq1 (ahead_free h hq ha hn)
    have h1 := ok_at h hq1
    simp only [freeAt] at h1
    omega
theorem drawn_ok {n : Int} {ts : List SpanV} (h : trainsOk n ts = true) {q : Nat} (hq : q < ts.length) (hne : rAt ts q ≠ fAt ts q) : trainsOk n (drawn ts q) = true := by
  have hk := ok_at h hq
  refine set_ok h hq _ _ (by omega) (by omega) (by omega) (fun hq1 => ?_)
  have h1 := ok_at h hq1
  simp only [freeAt] at h1
  omega
theorem fwd_ok {n : Int} {ts ts' : List SpanV} {k y : Int} (h : trainsOk n ts = true) (hf : fwd n ts k y = some ts') : trainsOk n ts' = true := by
  unfold fwd at hf
  split at hf
  · rename_i hc
    obtain ⟨q, rfl, hq⟩ := place_of hc.1
    cases hf
    exact moved_ok h hq hc.2.2
  · cases hf
theorem shr_ok {n : Int} {ts ts' : List SpanV} {k : Int} (h : trainsOk n ts = true) (hf : shr ts k = some ts') : trainsOk n ts' = true := by
  unfold shr at hf
  split at hf
  · rename_i hc
    obtain ⟨q, rfl, hq⟩ := place_of hc.1
    cases hf
    exact drawn_ok h hq hc.2
  · cases hf
theorem mv_ok {n y : Int} {ts ts' : List SpanV} {m : Int} (h : trainsOk n ts = true) (hf : mv n y ts m = some ts') : trainsOk n ts' = true := by
  unfold mv at hf
  split at hf
  · cases hf
  · split at hf
    · exact fwd_ok h hf
    · exact shr_ok h hf
end Go.Proofs.YtcfapadcgboalaaDoor
