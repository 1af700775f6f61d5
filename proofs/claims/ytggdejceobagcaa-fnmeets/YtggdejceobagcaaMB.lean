/- The mathematics of finishing: what can be finished, and by which moves. -/
import Derived.Test.YtggdejceobagcaaMA
namespace Go.Proofs.Ytggdejceobagcaa
open Go.RowKit

def away (t : SingleV) : Nat := (t.s - t.d).natAbs
def far (ts : List SingleV) : Nat := (ts.map away).sum
theorem sum_set {ts : List SingleV} {i : Nat} (h : i < ts.length) (x : SingleV) : ((ts.set i x).map away).sum + away ts[i] = (ts.map away).sum + away x := by
  induction ts generalizing i with
  | nil => simp at h
  | cons t ts ih =>
    cases i with
    | zero => simp; omega
    | succ i => have := ih (i := i) (by simpa using h); simp at this ⊢; omega
theorem getD_lt {ts : List SingleV} {i : Nat} (h : i < ts.length) : ts.getD i SingleV.zero = ts[i] := by simp [List.getD, h]
theorem mayGo_parts {ls : List Int} {ts : List SingleV} {i : Nat} (h : i < ts.length) (hm : mayGo ls ts i = true) : ts[i].s ≠ ts[i].d ∧ (atN ts (nextS ts[i]) : Int) < fits ls (nextS ts[i]) := by
  simp only [mayGo, getD_lt h, Bool.and_eq_true, Bool.not_eq_true', decide_eq_false_iff_not, decide_eq_true_eq] at hm
  exact hm
theorem moveT_eq {ts : List SingleV} {i : Nat} (h : i < ts.length) : moveT ts i = ts.set i ⟨nextS ts[i], ts[i].d⟩ := by simp only [moveT, getD_lt h]
theorem moveT_len (ts : List SingleV) (i : Nat) : (moveT ts i).length = ts.length := by simp [moveT]
theorem away_next {t : SingleV} (h : t.s ≠ t.d) : away ⟨nextS t, t.d⟩ + 1 = away t := by
  simp only [away, nextS]; split <;> omega
theorem far_move {ls : List Int} {ts : List SingleV} {i : Nat} (h : i < ts.length) (hm : mayGo ls ts i = true) : far (moveT ts i) + 1 = far ts := by
  have h1 := sum_set h ⟨nextS ts[i], ts[i].d⟩
  have h2 := away_next (mayGo_parts h hm).1
  rw [moveT_eq h]; unfold far; omega
theorem done_far (ts : List SingleV) : doneT ts = true ↔ far ts = 0 := by
  induction ts with
  | nil => simp [doneT, far]
  | cons t ts ih =>
    simp only [doneT, far, List.all_cons, List.map_cons, List.sum_cons, Bool.and_eq_true, decide_eq_true_eq] at ih ⊢
    rw [ih]; simp only [away]; omega
def canF : Nat → List Int → List SingleV → Bool
  | 0, _, ts => doneT ts
  | n + 1, ls, ts => doneT ts || (List.range ts.length).any (fun i => mayGo ls ts i && canF n ls (moveT ts i))
def canFin (ls : List Int) (ts : List SingleV) : Bool := canF (far ts) ls ts
def goodI (ls : List Int) (ts : List SingleV) (i : Nat) : Bool := mayGo ls ts i && canFin ls (moveT ts i)
theorem canFin_eq (ls : List Int) (ts : List SingleV) : canFin ls ts = (doneT ts || (List.range ts.length).any (goodI ls ts)) := by
  cases hn : far ts with
  | zero => rw [(done_far ts).2 hn]; simp [canFin, hn, canF, (done_far ts).2 hn]
  | succ n =>
    unfold canFin; rw [hn, canF]
    congr 1
    rw [Bool.eq_iff_iff, List.any_eq_true, List.any_eq_true]
    have key : ∀ i, i < ts.length → (mayGo ls ts i && canF n ls (moveT ts i)) = goodI ls ts i := by
      intro i hi
      cases hm : mayGo ls ts i with
      | false => simp [goodI, hm]
      | true =>
        have := far_move hi hm
        simp only [goodI, hm, canFin, Bool.true_and]
        rw [show far (moveT ts i) = n by omega]
    constructor
    · rintro ⟨i, hi, h⟩; exact ⟨i, hi, by rw [← key i (List.mem_range.1 hi)]; exact h⟩
    · rintro ⟨i, hi, h⟩; exact ⟨i, hi, by rw [key i (List.mem_range.1 hi)]; exact h⟩
theorem canFin_done {ls : List Int} {ts : List SingleV} (h : doneT ts = true) : canFin ls ts = true := by rw [canFin_eq, h]; rfl
theorem canFin_of {ls : List Int} {ts : List SingleV} {i : Nat} (hi : i < ts.length) (h : goodI ls ts i = true) : canFin ls ts = true := by
  rw [canFin_eq, Bool.or_eq_true, List.any_eq_true]
  exact .inr ⟨i, List.mem_range.2 hi, h⟩
theorem canFin_none {ls : List Int} {ts : List SingleV} (hd : doneT ts = false) (h : ∀ i, i < ts.length → goodI ls ts i = false) : canFin ls ts = false := by
  rw [canFin_eq, hd, Bool.false_or]
  cases hq : (List.range ts.length).any (goodI ls ts) with
  | false => rfl
  | true =>
    rw [List.any_eq_true] at hq
    obtain ⟨i, hi, hg⟩ := hq
    rw [h i (List.mem_range.1 hi)] at hg; cases hg
def firstT (ls : List Int) (ts : List SingleV) : Option Nat := (List.range ts.length).find? (goodI ls ts)
theorem firstT_some {ls : List Int} {ts : List SingleV} {i : Nat} (hi : i < ts.length) (h : goodI ls ts i = true) (hb : ∀ j, j < i → goodI ls ts j = false) : firstT ls ts = some i := by
  rw [firstT, List.find?_range_eq_some]
  exact ⟨h, List.mem_range.2 hi, fun j hj => by rw [hb j hj]; rfl⟩
theorem firstT_none {ls : List Int} {ts : List SingleV} (h : ∀ i, i < ts.length → goodI ls ts i = false) : firstT ls ts = none := by
  rw [firstT, List.find?_eq_none]
  intro i hi
  rw [h i (List.mem_range.1 hi)]; simp
theorem firstT_lt {ls : List Int} {ts : List SingleV} {i : Nat} (h : firstT ls ts = some i) : i < ts.length ∧ goodI ls ts i = true ∧ ∀ j, j < i → goodI ls ts j = false := by
  rw [firstT, List.find?_range_eq_some] at h
  refine ⟨List.mem_range.1 h.2.1, h.1, fun j hj => by simpa using h.2.2 j hj⟩
theorem firstT_can {ls : List Int} {ts : List SingleV} (hd : doneT ts = false) (h : canFin ls ts = true) : ∃ i, firstT ls ts = some i := by
  cases hq : firstT ls ts with
  | some i => exact ⟨i, rfl⟩
  | none =>
    rw [firstT, List.find?_eq_none] at hq
    rw [canFin_none hd (fun i hi => by simpa using hq i (List.mem_range.2 hi))] at h
    cases h
theorem firstT_done {ls : List Int} {ts : List SingleV} (hd : doneT ts = true) : firstT ls ts = none := by
  refine firstT_none fun i hi => ?_
  simp only [doneT, List.all_eq_true, decide_eq_true_eq] at hd
  have := hd _ (List.getElem_mem hi)
  simp only [goodI, mayGo, getD_lt hi, this]; simp
theorem firstT_cant {ls : List Int} {ts : List SingleV} (h : canFin ls ts = false) : firstT ls ts = none := by
  refine firstT_none fun i hi => ?_
  cases hg : goodI ls ts i with
  | false => rfl
  | true => rw [canFin_of hi hg] at h; cases h
def finP : Nat → List Int → List SingleV → List Int
  | 0, _, _ => []
  | n + 1, ls, ts => match firstT ls ts with
    | some i => (i : Int) :: finP n ls (moveT ts i)
    | none => []
def fin (ls : List Int) (ts : List SingleV) : List Int := finP (far ts) ls ts
theorem fin_some {ls : List Int} {ts : List SingleV} {i : Nat} (h : firstT ls ts = some i) : fin ls ts = (i : Int) :: fin ls (moveT ts i) := by
  obtain ⟨hi, hg, _⟩ := firstT_lt h
  have hm : mayGo ls ts i = true := by simp only [goodI, Bool.and_eq_true] at hg; exact hg.1
  have := far_move hi hm
  unfold fin
  rw [← this, finP, h]
theorem fin_none {ls : List Int} {ts : List SingleV} (h : firstT ls ts = none) : fin ls ts = [] := by
  unfold fin
  cases far ts with
  | zero => rfl
  | succ n => rw [finP, h]
theorem fin_good {ls : List Int} {ts : List SingleV} {i : Nat} (hi : i < ts.length) (h : goodI ls ts i = true) (hb : ∀ j, j < i → goodI ls ts j = false) : fin ls ts = (i : Int) :: fin ls (moveT ts i) := fin_some (firstT_some hi h hb)
theorem fin_done {ls : List Int} {ts : List SingleV} (h : doneT ts = true) : fin ls ts = [] := fin_none (firstT_done h)
theorem fin_cant {ls : List Int} {ts : List SingleV} (h : canFin ls ts = false) : fin ls ts = [] := fin_none (firstT_cant h)
theorem fin_len {ls : List Int} : ∀ (n : Nat) (ts : List SingleV), far ts = n → canFin ls ts = true → (fin ls ts).length = n := by
  intro n
  induction n with
  | zero => intro ts h _; rw [fin_done ((done_far ts).2 h), h.symm.trans h]; rfl
  | succ n ih =>
    intro ts h hc
    have hd : doneT ts = false := by cases hq : doneT ts with | false => rfl | true => have := (done_far ts).1 hq; omega
    obtain ⟨i, hi⟩ := firstT_can hd hc
    obtain ⟨hl, hg, _⟩ := firstT_lt hi
    simp only [goodI, Bool.and_eq_true] at hg
    have := far_move hl hg.1
    rw [fin_some hi, List.length_cons, ih _ (by omega) hg.2]

theorem count_set {ts : List SingleV} {i : Nat} (h : i < ts.length) (x : SingleV) (p : SingleV → Bool) : (ts.set i x).countP p + (if p ts[i] = true then 1 else 0) = ts.countP p + (if p x = true then 1 else 0) := by
  induction ts generalizing i with
  | nil => simp at h
  | cons t ts ih =>
    cases i with
    | zero => simp [List.countP_cons]; omega
    | succ i =>
      have := ih (i := i) (by simpa using h)
      simp [List.countP_cons] at this ⊢; omega
theorem next_rng {t : SingleV} {m : Int} (h0 : 0 ≤ t.s) (h1 : t.s ≤ m) (h2 : 0 ≤ t.d) (h3 : t.d ≤ m) (hne : t.s ≠ t.d) : 0 ≤ nextS t ∧ nextS t ≤ m := by
  unfold nextS; split <;> omega
theorem move_ok {ls : List Int} {ts : List SingleV} {i : Nat} (hs : singlesOk ls ts = true) (h : i < ts.length) (hm : mayGo ls ts i = true) : singlesOk ls (moveT ts i) = true := by
  obtain ⟨h1, h2, h3⟩ := singlesOk_parts hs
  obtain ⟨m1, m2⟩ := mayGo_parts h hm
  obtain ⟨p1, p2, p3, p4, p5, _⟩ := trainOk_parts (h3 _ (List.getElem_mem h))
  obtain ⟨q1, q2⟩ := next_rng p1 p2 p3 p4 m1
  simp only [singlesOk, Bool.and_eq_true, decide_eq_true_eq, moveT_len]
  refine ⟨⟨h1, h2⟩, ?_⟩
  rw [List.all_eq_true]
  intro t ht
  rw [moveT_eq h] at ht ⊢
  have hc : ∀ s, atN (ts.set i ⟨nextS ts[i], ts[i].d⟩) s + (if ts[i].s = s then 1 else 0) = atN ts s + (if nextS ts[i] = s then 1 else 0) := by
    intro s
    have := count_set h ⟨nextS ts[i], ts[i].d⟩ (fun t => decide (t.s = s))
    simpa [atN] using this
  have hone : oneOk ls t = true ∧ (t.s = nextS ts[i] ∨ t ∈ ts) := by
    rcases List.mem_or_eq_of_mem_set ht with ht | rfl
    · have := h3 t ht
      simp only [trainOk, Bool.and_eq_true] at this
      exact ⟨this.1, .inr ht⟩
    · refine ⟨?_, .inl rfl⟩
      simp only [oneOk, spotB, Bool.and_eq_true, decide_eq_true_eq]
      exact ⟨⟨inB_yes q1 q2, inB_yes p3 p4⟩, p5⟩
  simp only [trainOk, Bool.and_eq_true, decide_eq_true_eq]
  refine ⟨hone.1, ?_⟩
  by_cases he : nextS ts[i] = t.s
  · have := hc t.s
    rw [← he] at this ⊢
    have hn : ts[i].s ≠ nextS ts[i] := by unfold nextS; split <;> omega
    rw [if_neg hn, if_pos rfl] at this
    omega
  · rcases hone.2 with h5 | h5
    · exact absurd h5.symm he
    · have := hc t.s
      rw [if_neg he] at this
      have := (trainOk_parts (h3 t h5)).2.2.2.2.2
      omega
end Go.Proofs.Ytggdejceobagcaa
