/- The library's sort of structs: what its world holds. -/
import Derived.Test.YthbedhbbijpfkaaBM
namespace Go.Proofs.Ythbedhbbijpfkaa
open Go.RowKit Go.Sort Go.Lib
theorem flat_len {α : Type} (enc : α → List Value) (k : Nat) (hk : ∀ x, (enc x).length = k) : ∀ l : List α, (l.flatMap enc).length = l.length * k
  | [] => by simp
  | x :: l => by rw [List.flatMap_cons, List.length_append, hk, flat_len enc k hk l, List.length_cons, Nat.add_mul]; omega
section
variable {α : Type} [Inhabited α]
theorem flat_at (enc : α → List Value) (k : Nat) (h0 : 0 < k) (hk : ∀ x, (enc x).length = k) : ∀ (l : List α) (j : Nat), j < l.length * k → (l.flatMap enc)[j]? = some ((enc (l.getD (j / k) default))[j % k]!)
  | [], j, h => by simp at h
  | x :: l, j, h => by
    rw [List.flatMap_cons]
    by_cases hj : j < k
    · rw [List.getElem?_append_left (by rw [hk]; exact hj), Nat.div_eq_of_lt hj, Nat.mod_eq_of_lt hj]
      have : j < (enc x).length := by rw [hk]; exact hj
      simp [this]
    · have hj' : k ≤ j := by omega
      obtain ⟨u, rfl⟩ : ∃ u, j = u + k := ⟨j - k, by omega⟩
      have hu : u < l.length * k := by
        simp only [List.length_cons, Nat.add_mul, Nat.one_mul] at h; omega
      rw [List.getElem?_append_right (by rw [hk]; omega), hk, Nat.add_sub_cancel, flat_at enc k h0 hk l u hu, Nat.add_mod_right, Nat.add_div_right _ h0]
      rfl
/-- Nothing but the row's own block turns. -/
theorem grown_sortK (enc : α → List Value) (k : Nat) {w : World} {g q : Nat} (d : Array α) (os : Array Obj) : w.grownBy (sortWorldK enc k w g 0 q d os) (some g) := by
  refine ⟨rfl, rfl, rfl, ?_, ?_⟩
  · show w.heap.size ≤ ((putRowK enc k (Go.Sort.ahead w q) g 0 d).heap ++ os).size
    simp [putRowK, putRow, mapBlock, Go.Sort.ahead]
  · intro j hj hne
    show ((putRowK enc k (Go.Sort.ahead w q) g 0 d).heap ++ os)[j]? = _
    rw [Array.getElem?_append_left (by simp [putRowK, putRow, mapBlock, Go.Sort.ahead]; exact hj)]
    have : g ≠ j := fun e => hne (by rw [e])
    simp [putRowK, putRow, mapBlock, Go.Sort.ahead, Array.getElem?_modify, this]
/-- The row holds the list in its new order. -/
theorem own_sortK (enc : α → List Value) (k : Nat) (h0 : 0 < k) (hk : ∀ x, (enc x).length = k) {B g cap q e n : Nat} {xs : List Value} {d : Array α} {os : Array Obj} {w : World} (h : w.ownsRow B e k (.slice (some ⟨g, 0, none⟩) n cap) n xs) (hd : d.size = n) (hgl : g < w.heap.size) :
    (sortWorldK enc k w g 0 q d os).ownsRow B e k (.slice (some ⟨g, 0, none⟩) n cap) n (d.toList.flatMap enc) := by
  rcases h.2 with ⟨e0, _⟩ | ⟨g', cap', cur, e0, hb, hg, hn, hm, hs, ht⟩
  · cases e0
  · injection e0 with e1 _ e3
    injection e1 with e1
    injection e1 with e1
    subst e1; subst e3
    refine ⟨by rw [flat_len enc k hk]; simp [hd], .inr ⟨g, cap, putCells id 0 (flatK enc k d) cur, rfl, hb, ?_, hn, hm, by simpa [putCells] using hs, ?_⟩⟩
    · show ((putRowK enc k (Go.Sort.ahead w q) g 0 d).heap ++ os)[g]? = _
      rw [Array.getElem?_append_left (by simp [putRowK, putRow, mapBlock, Go.Sort.ahead]; exact hgl)]
      simp [putRowK, putRow, mapBlock, Go.Sort.ahead, Array.getElem?_modify, hg, onCells]
    · apply List.ext_getElem?
      intro j
      rw [List.getElem?_take]
      by_cases hj : j < n * k
      · have hjc : j < cur.size := by rw [hs]; exact Nat.lt_of_lt_of_le hj (Nat.mul_le_mul_right k hn)
        rw [if_pos hj, Array.getElem?_toList, flat_at enc k h0 hk _ _ (by simpa [hd] using hj)]
        simp only [putCells, Array.getElem?_mapIdx, Array.getElem?_eq_getElem hjc, Option.map_some]
        rw [if_pos (by simp [hd]; exact hj)]
        simp only [id, Nat.sub_zero]
        rw [get_flatK _ _ _ _ (by rw [hd]; exact hj)]
        have hq : j / k < d.size := by rw [hd]; exact Nat.div_lt_of_lt_mul (by rw [Nat.mul_comm]; exact hj)
        rw [getElem!_pos d (j / k) hq]
        simp [List.getD, hq]
      · rw [if_neg hj, List.getElem?_eq_none (by rw [flat_len enc k hk]; simp [hd]; omega)]
/-- What a row holds, in the sort's words. -/
theorem holds_ownK (enc : α → List Value) (k : Nat) (h0 : 0 < k) (hk : ∀ x, (enc x).length = k) {B g cap e : Nat} {l : List α} {w : World} (ho : w.ownsRow B e k (.slice (some ⟨g, 0, none⟩) l.length cap) l.length (l.flatMap enc)) : HoldsK enc k w g 0 l.toArray := by
  intro j hj
  have hsz : l.toArray.size = l.length := by simp
  rw [size_flatK, hsz] at hj
  refine ⟨?_, ho.frozenAt _⟩
  rw [Nat.zero_add, ho.cellAt j (by rw [Nat.mul_comm] at hj ⊢; first | exact hj | (rw [Nat.mul_comm]; exact hj)), flat_at enc k h0 hk _ _ hj, get_flatK _ _ _ _ (by rw [hsz]; exact hj)]
  have hq : j / k < l.length := Nat.div_lt_of_lt_mul (by rw [Nat.mul_comm]; exact hj)
  rw [getElem!_pos l.toArray (j / k) (by simpa using hq)]
  simp [List.getD, hq]
end
end Go.Proofs.Ythbedhbbijpfkaa
