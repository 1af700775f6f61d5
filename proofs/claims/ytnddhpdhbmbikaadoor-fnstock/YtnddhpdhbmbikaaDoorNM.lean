/- Numbers as texts: what is printed is read as it was. -/
import Derived.Test.YtnddhpdhbmbikaaDoorRI
namespace Go.Proofs.YtnddhpdhbmbikaaDoor
open Go.RowKit
def valD (l : List UInt8) : Nat := l.foldl (fun a c => 10 * a + (c.toNat - 48)) 0
theorem valD_app (l : List UInt8) (c : UInt8) : valD (l ++ [c]) = 10 * valD l + (c.toNat - 48) := by simp [valD]
theorem dgB (n : Nat) (h : n < 10) : (UInt8.ofNat (48 + n)).toNat = 48 + n := by
  simp; omega
theorem dec_app (n : Nat) (h : ¬ n < 10) : Lib.decDigits n = Lib.decDigits (n / 10) ++ [UInt8.ofNat (48 + n % 10)] := by
  rw [Lib.decDigits, dif_neg h]
theorem dec_low (n : Nat) (h : n < 10) : Lib.decDigits n = [UInt8.ofNat (48 + n)] := by
  rw [Lib.decDigits, dif_pos h]
theorem val_dec (n : Nat) : valD (Lib.decDigits n) = n := by
  induction n using Nat.strongRecOn with
  | _ n ih =>
    by_cases h : n < 10
    · rw [dec_low n h]
      have := dgB n h
      simp only [valD, List.foldl_cons, List.foldl_nil, this]; omega
    · rw [dec_app n h, valD_app, ih (n / 10) (by omega), dgB (n % 10) (by omega)]
      omega
theorem dec_digit (n : Nat) : ∀ c ∈ Lib.decDigits n, 48 ≤ c.toNat ∧ c.toNat ≤ 57 := by
  induction n using Nat.strongRecOn with
  | _ n ih =>
    intro c hc
    by_cases h : n < 10
    · rw [dec_low n h] at hc
      simp only [List.mem_singleton] at hc
      rw [hc, dgB n h]; omega
    · rw [dec_app n h] at hc
      rcases List.mem_append.1 hc with hc | hc
      · exact ih (n / 10) (by omega) c hc
      · simp only [List.mem_singleton] at hc
        rw [hc, dgB _ (by omega : n % 10 < 10)]; omega
theorem dec_ne (n : Nat) : Lib.decDigits n ≠ [] := by
  by_cases h : n < 10
  · rw [dec_low n h]; simp
  · rw [dec_app n h]; simp
theorem dec_head (n : Nat) (h0 : 1 ≤ n) : (Lib.decDigits n).getD 0 0 ≠ 48 := by
  induction n using Nat.strongRecOn with
  | _ n ih =>
    by_cases h : n < 10
    · rw [dec_low n h]
      intro e
      have := congrArg UInt8.toNat (show UInt8.ofNat (48 + n) = 48 from by simpa using e)
      rw [dgB n h] at this
      simp at this; omega
    · rw [dec_app n h]
      have h1 := ih (n / 10) (by omega) (by omega)
      have h2 := dec_ne (n / 10)
      cases hd : Lib.decDigits (n / 10) with
      | nil => exact absurd hd h2
      | cons a b => rw [hd] at h1; simpa using h1
theorem snoc_ind {P : List UInt8 → Prop} (h0 : P []) (hs : ∀ l c, P l → P (l ++ [c])) : ∀ l, P l := by
  intro l
  have : ∀ n (l : List UInt8), l.length = n → P l := by
    intro n
    induction n with
    | zero => intro l hl; rw [List.length_eq_zero_iff.1 hl]; exact h0
    | succ n ih =>
      intro l hl
      have hne : l ≠ [] := by intro e; rw [e] at hl; simp at hl
      rw [← List.dropLast_concat_getLast hne]
      exact hs _ _ (ih _ (by simp [hl]))
  exact this _ l rfl
theorem dec_val : ∀ l : List UInt8, l ≠ [] → l.getD 0 0 ≠ 48 → (∀ c ∈ l, 48 ≤ c.toNat ∧ c.toNat ≤ 57) → Lib.decDigits (valD l) = l ∧ 1 ≤ valD l := by
  refine snoc_ind (fun h => absurd rfl h) (fun l c ih hne hd hc => ?_)
  have hcc := hc c (List.mem_append.2 (.inr (by simp)))
  have e48 : UInt8.ofNat (48 + (c.toNat - 48)) = c := by
    apply UInt8.toNat_inj.1
    rw [dgB _ (by omega)]; omega
  by_cases h0 : l = []
  · subst h0
    have hc48 : c.toNat ≠ 48 := fun e => hd (by have : c = 48 := UInt8.toNat_inj.1 (by simpa using e); simp [this])
    have hv : valD ([] ++ [c]) = c.toNat - 48 := by simp [valD]
    rw [hv, dec_low _ (by omega), e48]
    exact ⟨rfl, by omega⟩
  · obtain ⟨h1, h2⟩ := ih h0 (by cases l with | nil => exact absurd rfl h0 | cons a b => simpa using hd) (fun x hx => hc x (List.mem_append.2 (.inl hx)))
    rw [valD_app]
    have hq : (10 * valD l + (c.toNat - 48)) / 10 = valD l := by omega
    have hr : (10 * valD l + (c.toNat - 48)) % 10 = c.toNat - 48 := by omega
    rw [dec_app _ (by omega), hq, hr, h1, e48]
    exact ⟨rfl, by omega⟩
theorem rdN_val {most : Nat} : ∀ (l : List UInt8) (n : Nat), n ≤ most → rdN most l n = if most < l.foldl (fun a c => 10 * a + (c.toNat - 48)) n then -1 else ((l.foldl (fun a c => 10 * a + (c.toNat - 48)) n : Nat) : Int)
  | [], n, h => by show (n : Int) = if most < n then -1 else (n : Int); rw [if_neg (by omega)]
  | b :: bs, n, h => by
    have hm : ∀ (bs : List UInt8) (x : Nat), x ≤ bs.foldl (fun a c => 10 * a + (c.toNat - 48)) x := by
      intro bs
      induction bs with
      | nil => intro x; simp
      | cons c cs ih => intro x; simp only [List.foldl_cons]; exact Nat.le_trans (by omega) (ih _)
    rw [rdN, List.foldl_cons]
    by_cases h1 : most < 10 * n + (b.toNat - 48)
    · rw [if_pos h1, if_pos (by have := hm bs (10 * n + (b.toNat - 48)); omega)]
    · rw [if_neg h1]
      exact rdN_val bs _ (by omega)
theorem numO_dec {most n : Nat} (h1 : 1 ≤ n) (h2 : n ≤ most) : numO most (Lib.decDigits n) = some n := by
  unfold numO
  rw [if_neg (by rintro (h | h); · exact dec_ne n h
                 · exact dec_head n h1 h)]
  rw [rdN_val _ _ (Nat.zero_le _), show (Lib.decDigits n).foldl (fun a c => 10 * a + (c.toNat - 48)) 0 = n from val_dec n, if_neg (by omega), if_neg (by omega)]
  simp
theorem numO_inv {most n : Nat} {ds : List UInt8} (hd : ∀ c ∈ ds, 48 ≤ c.toNat ∧ c.toNat ≤ 57) (h : numO most ds = some n) : Lib.decDigits n = ds ∧ 1 ≤ n ∧ n ≤ most := by
  unfold numO at h
  by_cases h0 : ds = [] ∨ ds.getD 0 0 = 48
  · rw [if_pos h0] at h; cases h
  · rw [if_neg h0, rdN_val _ _ (Nat.zero_le _)] at h
    change (if (if most < valD ds then (-1 : Int) else ((valD ds : Nat) : Int)) < 0 then none else some (if most < valD ds then (-1 : Int) else ((valD ds : Nat) : Int)).toNat) = some n at h
    by_cases h1 : most < valD ds
    · rw [if_pos h1] at h; simp at h
    · rw [if_neg h1, if_neg (by omega)] at h
      obtain ⟨e1, e2⟩ := dec_val ds (fun e => h0 (.inl e)) (fun e => h0 (.inr e)) hd
      have : valD ds = n := by simpa using h
      rw [← this]
      exact ⟨e1, e2, by omega⟩
theorem digB_dec (n : Nat) : ∀ c ∈ Lib.decDigits n, digB c = true := fun c hc => by
  have := dec_digit n c hc
  simp only [digB, Bool.and_eq_true, decide_eq_true_eq]; exact this
theorem dgs_digit (l : List UInt8) (k : Nat) : ∀ c ∈ dgs l k, 48 ≤ c.toNat ∧ c.toNat ≤ 57 := by
  intro c hc
  obtain ⟨j, hj, rfl⟩ := List.mem_iff_getElem.1 hc
  obtain ⟨-, h2, h3⟩ := dgs_at hj
  rw [show (dgs l k)[j] = (dgs l k).getD j 0 by simp [List.getD, hj], h3]
  simpa only [digB, Bool.and_eq_true, decide_eq_true_eq] using h2
end Go.Proofs.YtnddhpdhbmbikaaDoor
