/- The order of planned runs: one sorted list alone. -/
import Derived.Test.YthfknkmabjgklaaPN
namespace Go.Proofs.Ythfknkmabjgklaa
open Go.RowKit
theorem getD_mem {rs : List RunV} {i : Nat} (h : i < rs.length) : rs.getD i RunV.zero ∈ rs := by
  rw [show rs.getD i RunV.zero = rs[i] by simp [List.getD, h]]; exact List.getElem_mem h
theorem sortR_pair {rs : List RunV} (h : SortR rs) : rs.Pairwise fun x y => ¬ cmpR y x < 0 := by
  rw [List.pairwise_iff_getElem]
  intro i j hi hj hij
  have := h i j hij hj
  rw [show rs.getD j RunV.zero = rs[j] by simp [List.getD, hj], show rs.getD i RunV.zero = rs[i] by simp [List.getD, hi]] at this
  exact this
theorem pair_unique : ∀ {xs ys : List RunV}, xs.Perm ys → xs.Pairwise (fun x y => ¬ cmpR y x < 0) → ys.Pairwise (fun x y => ¬ cmpR y x < 0) → (∀ x ∈ xs, ∀ y ∈ xs, x.f = y.f → x.t = y.t → x = y) → xs = ys
  | [], ys, hp, _, _, _ => (List.Perm.nil_eq hp)
  | x :: xs, ys, hp, h1, h2, ha => by
    match ys, hp, h2 with
    | [], hp, _ => exact absurd hp.length_eq (by simp)
    | y :: ys, hp, h2 =>
      have hx : x ∈ y :: ys := hp.subset (List.mem_cons_self ..)
      have hy : y ∈ x :: xs := hp.symm.subset (List.mem_cons_self ..)
      have e : x = y := by
        rcases List.mem_cons.1 hx with e | hx
        · exact e
        rcases List.mem_cons.1 hy with e | hy
        · exact e.symm
        have c1 := (List.pairwise_cons.1 h1).1 y hy
        have c2 := (List.pairwise_cons.1 h2).1 x hx
        rw [cmpR_lt] at c1 c2
        exact ha x (List.mem_cons_self ..) y (List.mem_cons_of_mem _ hy) (by omega) (by omega)
      subst e
      rw [pair_unique (List.Perm.cons_inv hp) (List.pairwise_cons.1 h1).2 (List.pairwise_cons.1 h2).2 (fun a h b g => ha a (List.mem_cons_of_mem _ h) b (List.mem_cons_of_mem _ g))]
/-- A run out of the list: of which trip and leg. -/
theorem runsTo_mem {lg : Nat → List RideV} {N : Nat} {r : RunV} (h : r ∈ runsTo lg N) : ∃ i j : Nat, i < N ∧ j < (lg i).length ∧ r = ⟨(i : Int), (j : Int), ((lg i).getD j RideV.zero).f, ((lg i).getD j RideV.zero).t⟩ := by
  unfold runsTo at h
  rw [List.mem_flatMap] at h
  obtain ⟨i, hi, h⟩ := h
  unfold legR at h
  rw [List.mem_map] at h
  obtain ⟨j, hj, rfl⟩ := h
  exact ⟨i, j, List.mem_range.1 hi, List.mem_range.1 hj, rfl⟩
theorem chain_all {cs : List HaltV} (h : chainB cs = true) : ∀ k, k < cs.length → chainB (cs.drop k) = true
  | 0, _ => by simpa using h
  | k + 1, hk => by
    have h1 := chain_all h k (by omega)
    rw [chain_drop hk] at h1
    simp only [Bool.and_eq_true] at h1
    exact h1.2
theorem chain_step {cs : List HaltV} (h : chainB cs = true) (hc : cs.all callB = true) {k : Nat} (hk : k + 1 < cs.length) : (cs.getD k HaltV.zero).d < (cs.getD (k + 1) HaltV.zero).d := by
  have h1 := chain_all h k (by omega)
  rw [chain_drop hk] at h1
  simp only [Bool.and_eq_true, stepB, decide_eq_true_eq] at h1
  have h2 := (call_parts (call_at hc hk)).2.1
  omega
/-- Times rise along a trip. -/
theorem legs_rise {n : Int} {es : List EdgeV} {ts : List TripV} (hR : Ridden n es ts) {i : Nat} (hi : i < ts.length) : ∀ k, k < (legsV es ts i).length → ∀ j, j < k → ((legsV es ts i).getD j RideV.zero).f < ((legsV es ts i).getD k RideV.zero).f := by
  obtain ⟨-, -, -, h3, h4⟩ := trip_parts (hR.2.1.2.1 i hi)
  have e : ∀ k, k < (legsV es ts i).length → ((legsV es ts i).getD k RideV.zero).f = ((clA ts i).getD k HaltV.zero).d := by
    intro k hk
    unfold legsV at hk ⊢
    rw [legsTo_len] at hk
    simp [legsTo, List.getD, hk, useOf]
  have hl : (legsV es ts i).length = (clA ts i).length - 1 := by unfold legsV; exact legsTo_len _ _ _ _
  change (clA ts i).all callB = true at h3
  change chainB (clA ts i) = true at h4
  intro k
  induction k with
  | zero => intro _ j hj; omega
  | succ k ih =>
    intro hk j hj
    have hs := chain_step h4 h3 (k := k) (by omega)
    rw [e _ hk]
    by_cases ej : j = k
    · subst ej; rw [e _ (by omega)]; exact hs
    · have := ih (by omega) j (by omega)
      rw [e k (by omega)] at this
      omega
theorem runs_one {n : Int} {es : List EdgeV} {ts : List TripV} {x y : RunV} (hx : x ∈ runsTo (lgOf n es ts) ts.length) (hy : y ∈ runsTo (lgOf n es ts) ts.length) (h1 : x.f = y.f) (h2 : x.t = y.t) : x = y := by
  obtain ⟨i, j, hi, hj, rfl⟩ := runsTo_mem hx
  obtain ⟨i2, j2, hi2, hj2, rfl⟩ := runsTo_mem hy
  dsimp only at h1 h2
  obtain rfl : i = i2 := by omega
  by_cases hR : Ridden n es ts
  · have e : lgOf n es ts i = legsV es ts i := by unfold lgOf; rw [if_pos hR]
    rw [e] at hj hj2 h1
    rcases Nat.lt_trichotomy j j2 with h | h | h
    · have := legs_rise hR hi j2 hj2 j h; omega
    · subst h; rfl
    · have := legs_rise hR hi j hj j2 h; omega
  · have e : lgOf n es ts i = [] := by unfold lgOf; rw [if_neg hR]
    rw [e] at hj; simp at hj
/-- The trip's place does not fall along the list. -/
theorem runsTo_mono (lg : Nat → List RideV) : ∀ N, (runsTo lg N).Pairwise (fun x y => x.t ≤ y.t)
  | 0 => by simp [runsTo]
  | N + 1 => by
    rw [runsTo_succ, List.pairwise_append]
    refine ⟨runsTo_mono lg N, ?_, ?_⟩
    · unfold legR
      rw [List.pairwise_map]
      exact List.pairwise_of_forall fun _ _ => Int.le_refl _
    · intro x hx y hy
      obtain ⟨i, j, hi, _, rfl⟩ := runsTo_mem hx
      unfold legR at hy
      obtain ⟨q, _, rfl⟩ := List.mem_map.1 hy
      dsimp only
      omega
end Go.Proofs.Ythfknkmabjgklaa
