/- Heaps: mathematics. -/
import Derived.Test.YtdjambejppanoaaFP
namespace Go.Proofs.Ytdjambejppanoaa
open Go.RowKit
def leP (p q : PT) : Prop := Kle p.t.len p.t.way q.t.len q.t.way
theorem leP.trans {p q r : PT} (h : leP p q) (g : leP q r) : leP p r := Kle.trans h g
theorem leP.refl (p : PT) : leP p p := Kle.refl _ _
theorem ltP_iff (p q : PT) : cmpT p.t q.t < 0 ↔ ¬ leP q p := cmpT_neg p.t q.t
theorem leP.of_lt {p q : PT} (h : cmpT p.t q.t < 0) : leP p q := (Kle.total _ _ _ _).resolve_right ((ltP_iff p q).1 h)
theorem leP.of_not {p q : PT} (h : ¬ cmpT p.t q.t < 0) : leP q p := by
  rw [ltP_iff] at h
  exact Classical.not_not.1 h
def gP (ps : List PT) (i : Nat) : PT := ps.getD i PT.zero
theorem swap_i {ps : List PT} {i j : Nat} (hi : i < ps.length) (hj : j < ps.length) : gP (swapPT ps i j) i = gP ps j := by
  unfold gP swapPT
  by_cases e : i = j
  · subst e; simp [List.getD, hi]
  · simp [List.getD, Ne.symm e, hi, hj]
theorem swap_j {ps : List PT} {i j : Nat} (hi : i < ps.length) (hj : j < ps.length) : gP (swapPT ps i j) j = gP ps i := by
  unfold gP swapPT
  simp [List.getD, hi, hj]
theorem swap_o {ps : List PT} {i j k : Nat} (h1 : k ≠ i) (h2 : k ≠ j) : gP (swapPT ps i j) k = gP ps k := by
  unfold gP swapPT
  simp [List.getD, Ne.symm h1, Ne.symm h2]
theorem mem_gP {ps : List PT} {u : PT} : u ∈ ps ↔ ∃ k, k < ps.length ∧ gP ps k = u := by
  constructor
  · intro h
    obtain ⟨k, hk, rfl⟩ := List.getElem_of_mem h
    exact ⟨k, hk, by simp [gP, List.getD, hk]⟩
  · rintro ⟨k, hk, rfl⟩
    exact PT.mem hk
theorem mem_swap {ps : List PT} {i j : Nat} (hi : i < ps.length) (hj : j < ps.length) (u : PT) : u ∈ swapPT ps i j ↔ u ∈ ps := by
  refine ⟨mem_swapPT hi hj, fun h => ?_⟩
  obtain ⟨k, hk, rfl⟩ := mem_gP.1 h
  by_cases e1 : k = i
  · subst e1; exact mem_gP.2 ⟨j, by rw [swapPT_len]; exact hj, swap_j hi hj⟩
  · by_cases e2 : k = j
    · subst e2; exact mem_gP.2 ⟨i, by rw [swapPT_len]; exact hi, swap_i hi hj⟩
    · exact mem_gP.2 ⟨k, by rw [swapPT_len]; exact hk, swap_o e1 e2⟩
/-- The first n are a heap. -/
def HeapN (ps : List PT) (n : Nat) : Prop := ∀ k, 0 < k → k < n → leP (gP ps ((k - 1) / 2)) (gP ps k)
theorem HeapN.least {ps : List PT} {n : Nat} (h : HeapN ps n) : ∀ k, k < n → leP (gP ps 0) (gP ps k) := by
  intro k
  induction k using Nat.strongRecOn with
  | ind k ih =>
    intro hk
    by_cases h0 : k = 0
    · subst h0; exact leP.refl _
    · exact (ih ((k - 1) / 2) (by omega) (by omega)).trans (h k (by omega) hk)
/-- A heap but for the place j, which may be less than what is above it. -/
structure UpI (ps : List PT) (j : Nat) : Prop where
  rest : ∀ k, 0 < k → k < ps.length → k ≠ j → leP (gP ps ((k - 1) / 2)) (gP ps k)
  over : ∀ k, 0 < k → k < ps.length → (k - 1) / 2 = j → 0 < j → leP (gP ps ((j - 1) / 2)) (gP ps k)
theorem UpI.new {ps : List PT} {p : PT} (h : HeapN ps ps.length) : UpI (ps ++ [p]) ps.length := by
  have e : ∀ k, k < ps.length → gP (ps ++ [p]) k = gP ps k := fun k hk => by simp [gP, List.getD, List.getElem?_append_left hk]
  refine ⟨fun k h0 h1 h2 => ?_, fun k h0 h1 h2 h3 => ?_⟩
  · simp at h1
    rw [e k (by omega), e _ (by omega)]
    exact h k h0 (by omega)
  · simp at h1; omega
theorem UpI.done {ps : List PT} {j : Nat} (h : UpI ps j) (g : j = 0 ∨ leP (gP ps ((j - 1) / 2)) (gP ps j)) : HeapN ps ps.length := by
  intro k h0 h1
  by_cases e : k = j
  · subst e; exact g.resolve_left (by omega)
  · exact h.rest k h0 h1 e
theorem UpI.step {ps : List PT} {j : Nat} (h : UpI ps j) (hj : j < ps.length) (h0 : 0 < j) (g : leP (gP ps j) (gP ps ((j - 1) / 2))) : UpI (swapPT ps ((j - 1) / 2) j) ((j - 1) / 2) := by
  obtain ⟨i, hi⟩ : ∃ i, (j - 1) / 2 = i := ⟨_, rfl⟩
  rw [hi] at g ⊢
  have hij : i < j := by omega
  have hil : i < ps.length := by omega
  have si := swap_i hil hj
  have sj := swap_j hil hj
  refine ⟨fun k k0 k1 k2 => ?_, fun k k0 k1 k2 k3 => ?_⟩
  · rw [swapPT_len] at k1
    by_cases e : k = j
    · subst e; rw [hi, si, sj]; exact g
    · rw [swap_o k2 e]
      by_cases e2 : (k - 1) / 2 = j
      · rw [e2, sj, ← hi]; exact h.over k k0 k1 e2 h0
      · by_cases e3 : (k - 1) / 2 = i
        · rw [e3, si]
          have := h.rest k k0 k1 e
          rw [e3] at this
          exact g.trans this
        · rw [swap_o e3 e2]; exact h.rest k k0 k1 e
  · rw [swapPT_len] at k1
    have hq := h.rest i k3 hil (by omega)
    rw [swap_o (show (i - 1) / 2 ≠ i by omega) (show (i - 1) / 2 ≠ j by omega)]
    by_cases e : k = j
    · subst e; rw [sj]; exact hq
    · rw [swap_o (show k ≠ i by omega) e]
      have := h.rest k k0 k1 e
      rw [k2] at this
      exact hq.trans this
/-- The first n are a heap but for the place i, which may be greater than what is below it. -/
structure DnI (ps : List PT) (n i : Nat) : Prop where
  rest : ∀ k, 0 < k → k < n → (k - 1) / 2 ≠ i → leP (gP ps ((k - 1) / 2)) (gP ps k)
  over : ∀ k, 0 < k → k < n → (k - 1) / 2 = i → 0 < i → leP (gP ps ((i - 1) / 2)) (gP ps k)
theorem DnI.done {ps : List PT} {n i : Nat} (h : DnI ps n i) (g : ∀ k, 0 < k → k < n → (k - 1) / 2 = i → leP (gP ps i) (gP ps k)) : HeapN ps n := by
  intro k h0 h1
  by_cases e : (k - 1) / 2 = i
  · rw [e]; exact g k h0 h1 e
  · exact h.rest k h0 h1 e
theorem DnI.step {ps : List PT} {n i j : Nat} (h : DnI ps n i) (hn : n ≤ ps.length) (hj : j < n) (hj0 : 0 < j) (hp : (j - 1) / 2 = i) (g : leP (gP ps j) (gP ps i)) (hs : ∀ k, 0 < k → k < n → (k - 1) / 2 = i → leP (gP ps j) (gP ps k)) : DnI (swapPT ps i j) n j := by
  have hij : i < j := by omega
  have hil : i < ps.length := by omega
  have hjl : j < ps.length := by omega
  have si := swap_i hil hjl
  have sj := swap_j hil hjl
  refine ⟨fun k k0 k1 k2 => ?_, fun k k0 k1 k2 _ => ?_⟩
  · by_cases e : k = j
    · subst e; rw [hp, si, sj]; exact g
    · by_cases e2 : (k - 1) / 2 = i
      · rw [e2, si, swap_o (show k ≠ i by omega) e]; exact hs k k0 k1 e2
      · by_cases e3 : k = i
        · subst e3
          rw [si, swap_o e2 k2]
          exact h.over j hj0 hj hp k0
        · rw [swap_o e2 k2, swap_o e3 e]; exact h.rest k k0 k1 e2
  · rw [hp, si, swap_o (show k ≠ i by omega) (show k ≠ j by omega)]
    have := h.rest k k0 k1 (by omega)
    rw [k2] at this
    exact this
theorem DnI.new {ps : List PT} {n : Nat} (h : HeapN ps (n + 1)) : DnI (swapPT ps 0 n) n 0 := by
  refine ⟨fun k k0 k1 k2 => ?_, fun k k0 k1 k2 k3 => by omega⟩
  rw [swap_o k2 (by omega), swap_o (show k ≠ 0 by omega) (by omega)]
  exact h k k0 (by omega)
/-- The last is cut away. -/
theorem split_last {ps : List PT} {n : Nat} (hl : ps.length = n + 1) : ps = ps.take n ++ [gP ps n] := by
  have := List.take_succ_eq_append_getElem (l := ps) (i := n) (by omega)
  rw [List.take_of_length_le (by omega)] at this
  rw [show gP ps n = ps[n] by simp [gP, List.getD, hl]]
  exact this
theorem HeapN.take {ps : List PT} {n : Nat} (h : HeapN ps n) : HeapN (ps.take n) (ps.take n).length := by
  intro k k0 k1
  rw [List.length_take] at k1
  have e : ∀ m, m < n → gP (ps.take n) m = gP ps m := fun m hm => by simp [gP, List.getD, hm]
  rw [e k (by omega), e _ (by omega)]
  exact h k k0 (by omega)
end Go.Proofs.Ytdjambejppanoaa
