/- Numbers as texts: what is printed is read as it was. -/
import Derived.Test.YthlmaljgnhakfaaGreatDoorTX
namespace Go.Proofs.YthlmaljgnhakfaaGreatDoor
open Go.RowKit
theorem sizeR (l : List UInt8) : (⟨l.toArray⟩ : ByteArray).size = l.length := rfl
theorem indexR (l : List UInt8) (k : Nat) (hk : k < l.length) : ∀ h, (⟨l.toArray⟩ : ByteArray)[k]'h = l.getD k 0 := by
  intro h
  simp [hk]
  rfl
def valD (l : List UInt8) : Nat := l.foldl (fun a c => 10 * a + (c.toNat - 48)) 0
theorem valD_app (l : List UInt8) (c : UInt8) : valD (l ++ [c]) = 10 * valD l + (c.toNat - 48) := by simp [valD]
theorem dgB (n : Nat) (h : n < 10) : (UInt8.ofNat (48 + n)).toNat = 48 + n := by
  simp; omega
theorem dec_app (n : Nat) (h : ¬ n < 10) : Lib.decDigits n = Lib.decDigits (n / 10) ++ [UInt8.ofNat (48 + n % 10)] := by
  rw [Lib.decDigits, dif_neg h]
theorem dec_low (n : Nat) (h : n < 10) : Lib.decDigits n = [UInt8.ofNat (48 + n)] := by
  rw [Lib.decDigits, dif_pos h]
theorem val_dec (n : Nat) : valD (Lib.decDigits n) = n := by
  induction n using Nat.strongRecOn with
  | _ n ih =>
    by_cases h : n < 10
    · rw [dec_low n h]
      have := dgB n h
      simp only [valD, List.foldl_cons, List.foldl_nil, this]; omega
    · rw [dec_app n h, valD_app, ih (n / 10) (by omega), dgB (n % 10) (by omega)]
      omega
theorem dec_digit (n : Nat) : ∀ c ∈ Lib.decDigits n, 48 ≤ c.toNat ∧ c.toNat ≤ 57 := by
  induction n using Nat.strongRecOn with
  | _ n ih =>
    intro c hc
    by_cases h : n < 10
    · rw [dec_low n h] at hc
      simp only [List.mem_singleton] at hc
      rw [hc, dgB n h]; omega
    · rw [dec_app n h] at hc
      rcases List.mem_append.1 hc with hc | hc
      · exact ih (n / 10) (by omega) c hc
      · simp only [List.mem_singleton] at hc
        rw [hc, dgB _ (by omega : n % 10 < 10)]; omega
theorem dec_ne (n : Nat) : Lib.decDigits n ≠ [] := by
  by_cases h : n < 10
  · rw [dec_low n h]; simp
  · rw [dec_app n h]; simp
theorem dec_head (n : Nat) (h0 : 1 ≤ n) : (Lib.decDigits n).getD 0 0 ≠ 48 := by
  induction n using Nat.strongRecOn with
  | _ n ih =>
    by_cases h : n < 10
    · rw [dec_low n h]
      intro e
      have := congrArg UInt8.toNat (show UInt8.ofNat (48 + n) = 48 from by simpa using e)
      rw [dgB n h] at this
      simp at this; omega
    · rw [dec_app n h]
      have h1 := ih (n / 10) (by omega) (by omega)
      have h2 := dec_ne (n / 10)
      cases hd : Lib.decDigits (n / 10) with
      | nil => exact absurd hd h2
      | cons a b => rw [hd] at h1; simpa using h1
theorem snoc_ind {P : List UInt8 → Prop} (h0 : P []) (hs : ∀ l c, P l → P (l ++ [c])) : ∀ l, P l := by
  intro l
  have : ∀ n (l : List UInt8), l.length = n → P l := by
    intro n
    induction n with
    | zero => intro l hl; rw [List.length_eq_zero_iff.1 hl]; exact h0
    | succ n ih =>
      intro l hl
      have hne : l ≠ [] := by intro e; rw [e] at hl; simp at hl
      rw [← List.dropLast_concat_getLast hne]
      exact hs _ _ (ih _ (by simp [hl]))
  exact this _ l rfl
theorem dec_val : ∀ l : List UInt8, l ≠ [] → l.getD 0 0 ≠ 48 → (∀ c ∈ l, 48 ≤ c.toNat ∧ c.toNat ≤ 57) → Lib.decDigits (valD l) = l ∧ 1 ≤ valD l := by
  refine snoc_ind (fun h => absurd rfl h) (fun l c ih hne hd hc => ?_)
  have hcc := hc c (List.mem_append.2 (.inr (by simp)))
  have e48 : UInt8.ofNat (48 + (c.toNat - 48)) = c := by
    apply UInt8.toNat_inj.1
    rw [dgB _ (by omega)]; omega
  by_cases h0 : l = []
  · subst h0
    have hc48 : c.toNat ≠ 48 := fun e => hd (by have : c = 48 := UInt8.toNat_inj.1 (by simpa using e); simp [this])
    have hv : valD ([] ++ [c]) = c.toNat - 48 := by simp [valD]
    rw [hv, dec_low _ (by omega), e48]
    exact ⟨rfl, by omega⟩
  · obtain ⟨h1, h2⟩ := ih h0 (by cases l with | nil => exact absurd rfl h0 | cons a b => simpa using hd) (fun x hx => hc x (List.mem_append.2 (.inl hx)))
    rw [valD_app]
    have hq : (10 * valD l + (c.toNat - 48)) / 10 = valD l := by omega
    have hr : (10 * valD l + (c.toNat - 48)) % 10 = c.toNat - 48 := by omega
    rw [dec_app _ (by omega), hq, hr, h1, e48]
    exact ⟨rfl, by omega⟩
end Go.Proofs.YthlmaljgnhakfaaGreatDoor
