/- Names sorted: where two that lie side by side differ, all do. -/
import Derived.Test.YthlmaljgnhakfaaGreatDoorU
namespace Go.Proofs.YthlmaljgnhakfaaGreatDoor
open Go.RowKit Go.Shelf Go.Lib Go.Sort
theorem sorted_lt {key : Nat → ByteArray} {n : Nat} (hs : ∀ i j, i < j → j < n → ¬ cmpN key j i < 0) (ha : ∀ i, i + 1 < n → key (i + 1) ≠ key i) : ∀ d i, i + d + 1 < n → cmpN key i (i + d + 1) < 0 := by
  have step : ∀ i, i + 1 < n → cmpN key i (i + 1) < 0 := by
    intro i hi
    have h1 := hs i (i + 1) (by omega) hi
    have h2 := cmp_neg (key (i + 1)).data.toList (key i).data.toList
    by_cases h3 : cmpN key i (i + 1) = 0
    · exact absurd (cmpN_zero h3).symm (ha i hi)
    · unfold cmpN at *; omega
  intro d
  induction d with
  | zero => intro i hi; exact step i hi
  | succ d ih =>
    intro i hi
    exact cmp_trans _ _ _ (ih i (by omega)) (step (i + d + 1) (by omega))
theorem sorted_ne {key : Nat → ByteArray} {n : Nat} (hs : ∀ i j, i < j → j < n → ¬ cmpN key j i < 0) (ha : ∀ i, i + 1 < n → key (i + 1) ≠ key i) : ∀ i j, i < j → j < n → key i ≠ key j := by
  intro i j hij hj he
  have := sorted_lt hs ha (j - i - 1) i (by omega)
  rw [show i + (j - i - 1) + 1 = j by omega] at this
  unfold cmpN at this
  rw [he, cmp_self] at this
  omega
/-- What a permutation of the places says. -/
theorem perm_place {d : List Nat} {n : Nat} (hp : d.Perm (List.range n)) : d.length = n ∧ (∀ i, (h : i < d.length) → d[i] < n) ∧ (∀ i j, (hi : i < d.length) → (hj : j < d.length) → i < j → d[i] ≠ d[j]) ∧ ∀ a, a < n → ∃ i, ∃ h : i < d.length, d[i] = a := by
  have hl : d.length = n := by rw [hp.length_eq]; simp
  have hn : d.Nodup := hp.symm.nodup List.nodup_range
  refine ⟨hl, fun i h => ?_, fun i j hi hj hij => ?_, fun a ha => ?_⟩
  · have := hp.mem_iff.1 (List.getElem_mem h); simpa using this
  · exact (List.pairwise_iff_getElem.1 hn) i j hi hj hij
  · have := hp.mem_iff.2 (List.mem_range.2 ha)
    obtain ⟨i, h, e⟩ := List.getElem_of_mem this
    exact ⟨i, h, e⟩
theorem table_of_sorted {ts : List TripV} {d : List Nat} (hp : d.Perm (List.range ts.length)) (hs : ∀ i j, i < j → j < ts.length → ¬ cmpN (fun i => nmA ts (d.getD i 0)) j i < 0)
    (ha : ∀ i, i + 1 < ts.length → nmA ts (d.getD (i + 1) 0) ≠ nmA ts (d.getD i 0)) : ∀ i j, i < j → j < ts.length → nmA ts i ≠ nmA ts j := by
  obtain ⟨hl, -, -, hsur⟩ := perm_place hp
  have hne := sorted_ne (key := fun i => nmA ts (d.getD i 0)) hs ha
  intro i j hij hj he
  obtain ⟨p, hp1, hp2⟩ := hsur i (by omega)
  obtain ⟨q, hq1, hq2⟩ := hsur j hj
  have e1 : d.getD p 0 = i := by simp [List.getD, hp1, hp2]
  have e2 : d.getD q 0 = j := by simp [List.getD, hq1, hq2]
  rcases Nat.lt_trichotomy p q with h | h | h
  · exact hne p q h (by omega) (by rw [e1, e2]; exact he)
  · subst h; omega
  · exact hne q p h (by omega) (by rw [e1, e2]; exact he.symm)
theorem table_not {ts : List TripV} {d : List Nat} (hp : d.Perm (List.range ts.length)) {i : Nat} (hi : i + 1 < ts.length) (he : nmA ts (d.getD (i + 1) 0) = nmA ts (d.getD i 0)) : ¬ Table ts := by
  obtain ⟨hl, hlt, hne, -⟩ := perm_place hp
  intro h
  have e1 : d.getD i 0 = d[i]'(by omega) := by simp [List.getD, show i < d.length by omega]
  have e2 : d.getD (i + 1) 0 = d[i + 1]'(by omega) := by simp [List.getD, show i + 1 < d.length by omega]
  rw [e1, e2] at he
  have h1 := hlt i (by omega)
  have h2 := hlt (i + 1) (by omega)
  rcases Nat.lt_trichotomy (d[i]'(by omega)) (d[i + 1]'(by omega)) with g | g | g
  · exact h.2.2 _ _ g h2 he.symm
  · exact hne i (i + 1) (by omega) (by omega) (by omega) g
  · exact h.2.2 _ _ g h1 he
theorem grownBy_sort {α : Type} [Inhabited α] (enc : α → Value) {w : World} {g off n : Nat} {os : Array Obj} (d : Array α) : w.grownBy (sortWorld enc w g off n d os) (some g) := by
  refine ⟨rfl, rfl, rfl, by simp [sortWorld], fun k hk hne => ?_⟩
  unfold sortWorld
  rw [heap_grow_old _ _ (by simpa using hk)]
  have : g ≠ k := fun e => hne (by rw [e])
  simp [putRow, mapBlock, Sort.ahead, Array.getElem?_modify, this]
end Go.Proofs.YthlmaljgnhakfaaGreatDoor
