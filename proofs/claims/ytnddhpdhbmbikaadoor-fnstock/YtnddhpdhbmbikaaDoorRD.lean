/- A number read of a text: all digits that follow. -/
import Derived.Test.YtnddhpdhbmbikaaDoorRC
namespace Go.Proofs.YtnddhpdhbmbikaaDoor
open Go.RowKit
/-- The digits that follow at the place k. -/
def dgs (l : List UInt8) (k : Nat) : List UInt8 := (l.drop k).takeWhile digB
def numO (most : Nat) (ds : List UInt8) : Option Nat := if ds = [] ∨ ds.getD 0 0 = 48 then none else if rdN most ds 0 < 0 then none else some (rdN most ds 0).toNat
theorem tw_at (p : UInt8 → Bool) : ∀ (L : List UInt8) (j : Nat), j < (L.takeWhile p).length → j < L.length ∧ p (L.getD j 0) = true ∧ (L.takeWhile p).getD j 0 = L.getD j 0
  | [], j, h => by simp at h
  | b :: bs, j, h => by
    by_cases hb : p b = true
    · rw [List.takeWhile_cons_of_pos hb] at h ⊢
      cases j with
      | zero => exact ⟨by simp, by simpa using hb, by simp⟩
      | succ j =>
        obtain ⟨h1, h2, h3⟩ := tw_at p bs j (by simpa using h)
        exact ⟨by simpa using h1, by simpa using h2, by simpa using h3⟩
    · rw [List.takeWhile_cons_of_neg hb] at h; simp at h
theorem tw_end (p : UInt8 → Bool) : ∀ (L : List UInt8), (L.takeWhile p).length = L.length ∨ ((L.takeWhile p).length < L.length ∧ p (L.getD (L.takeWhile p).length 0) = false)
  | [] => .inl rfl
  | b :: bs => by
    by_cases hb : p b = true
    · rw [List.takeWhile_cons_of_pos hb]
      rcases tw_end p bs with h | ⟨h1, h2⟩
      · exact .inl (by simp [h])
      · exact .inr ⟨by simpa using h1, by simpa using h2⟩
    · rw [List.takeWhile_cons_of_neg hb]
      exact .inr ⟨by simp, by simpa using hb⟩
theorem tw_take (p : UInt8 → Bool) : ∀ (L : List UInt8), L.take (L.takeWhile p).length = L.takeWhile p
  | [] => rfl
  | b :: bs => by
    by_cases hb : p b = true
    · rw [List.takeWhile_cons_of_pos hb]; simp [tw_take p bs]
    · rw [List.takeWhile_cons_of_neg hb]; rfl
theorem getD_drop (l : List UInt8) (k j : Nat) : (l.drop k).getD j 0 = l.getD (k + j) 0 := by simp [List.getD]
theorem dgs_at {l : List UInt8} {k j : Nat} (h : j < (dgs l k).length) : k + j < l.length ∧ digB (l.getD (k + j) 0) = true ∧ (dgs l k).getD j 0 = l.getD (k + j) 0 := by
  obtain ⟨h1, h2, h3⟩ := tw_at digB _ j h
  rw [getD_drop] at h2 h3
  simp at h1
  exact ⟨by omega, h2, h3⟩
theorem dgs_end (l : List UInt8) (k : Nat) (hk : k ≤ l.length) : k + (dgs l k).length = l.length ∨ (k + (dgs l k).length < l.length ∧ digB (l.getD (k + (dgs l k).length) 0) = false) := by
  rcases tw_end digB (l.drop k) with h | ⟨h1, h2⟩
  · left; unfold dgs; rw [h]; simp; omega
  · right; rw [getD_drop] at h2; simp at h1; exact ⟨by unfold dgs; omega, h2⟩
theorem ext_dgs (l : List UInt8) (k : Nat) : (⟨l.toArray⟩ : ByteArray).extract k (k + (dgs l k).length) = ⟨(dgs l k).toArray⟩ := by
  apply ByteArray.ext
  simp [ByteArray.data_extract, List.extract_eq_take_drop]
  exact tw_take digB (l.drop k)
theorem digB_iff (b : UInt8) : (decide (48 ≤ (b.toNat : Int)) && decide ((b.toNat : Int) ≤ 57)) = digB b := by
  unfold digB
  congr 1 <;> simp <;> omega
end Go.Proofs.YtnddhpdhbmbikaaDoor
