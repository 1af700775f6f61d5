/- Reading a time of day, as plain mathematics over lists of bytes: what is printed reads as it was, and nothing else reads. -/
import Derived.Test.YthlmaljgnhakfaaGreatDoorTT
import Derived.Lib.AtoiAll
import Derived.Lib.Bytealg
namespace Go.Proofs.YthlmaljgnhakfaaGreatDoor
open Go.RowKit

/-- The digits of an hour, written out. -/
def tw4 (h : Nat) : List UInt8 :=
  if h < 100 then [UInt8.ofNat (48 + h / 10), UInt8.ofNat (48 + h % 10)]
  else if h < 1000 then [UInt8.ofNat (48 + h / 100), UInt8.ofNat (48 + h / 10 % 10), UInt8.ofNat (48 + h % 10)]
  else [UInt8.ofNat (48 + h / 1000), UInt8.ofNat (48 + h / 100 % 10), UInt8.ofNat (48 + h / 10 % 10), UInt8.ofNat (48 + h % 10)]

theorem two_tw4 (h : Nat) (hh : h < 10000) : two h = tw4 h := by
  unfold two tw4
  by_cases h1 : h < 10
  · rw [if_pos h1, if_pos (by omega), Lib.decDigits_one h1, Nat.div_eq_of_lt h1, Nat.mod_eq_of_lt h1]; rfl
  by_cases h2 : h < 100
  · rw [if_neg h1, if_pos h2, Lib.decDigits_two h1 h2]
  by_cases h3 : h < 1000
  · rw [if_neg h1, if_neg h2, if_pos h3, Lib.decDigits, dif_neg h1, Lib.decDigits_two (by omega) (by omega), Nat.div_div_eq_div_mul]; rfl
  · rw [if_neg h1, if_neg h2, if_neg h3, Lib.decDigits, dif_neg h1, Lib.decDigits, dif_neg (by omega), Lib.decDigits_two (by omega) (by omega), show h / 10 / 10 / 10 = h / 1000 by omega, show h / 10 / 10 = h / 100 by omega]; rfl

/-- The hours as they are summed up, byte by byte. -/
def decH (l : List UInt8) : Int := l.foldl (fun m b => m * 10 + (b.toNat : Int) - 48) 0
/-- The whole text as it is summed up. -/
def decI (l : List UInt8) : Int := decH (l.take (l.length - 3)) * 60 + ((l.getD (l.length - 2) 0).toNat - 48) * 10 + (l.getD (l.length - 1) 0).toNat - 48

theorem decH_tw4 : ∀ h : Fin 1667, decH (tw4 h.val) = (h.val : Int) := by decide +kernel
theorem tw4_min : ∀ m : Fin 60, tw4 m.val = [UInt8.ofNat (48 + m.val / 10), UInt8.ofNat (48 + m.val % 10)] := by decide +kernel
theorem tw4_digit : ∀ h : Fin 1667, (tw4 h.val).all (fun b => b != 58) = true := by decide +kernel
theorem tw4_len : ∀ h : Fin 1667, 2 ≤ (tw4 h.val).length ∧ (tw4 h.val).length ≤ 4 := by decide +kernel
theorem tw4_atoi : ∀ h : Fin 1667, Lib.atoiAll (tw4 h.val) = .ok (h.val : Int) := by decide +kernel
theorem min_dec : ∀ m : Fin 60, (((UInt8.ofNat (48 + m.val / 10)).toNat : Int) - 48) * 10 + ((UInt8.ofNat (48 + m.val % 10)).toNat : Int) - 48 = (m.val : Int) := by decide +kernel

theorem ttL_form (n : Nat) (hn : n ≤ 100000) : ttL n = tw4 (n / 60) ++ [58, UInt8.ofNat (48 + n % 60 / 10), UInt8.ofNat (48 + n % 60 % 10)] := by
  have h := tw4_min ⟨n % 60, Nat.mod_lt _ (by omega)⟩
  unfold ttL
  rw [two_tw4 _ (by omega), two_tw4 _ (by omega), h]

theorem ttL_len (n : Nat) (hn : n ≤ 100000) : 5 ≤ (ttL n).length ∧ (ttL n).length ≤ 7 := by
  have h := tw4_len ⟨n / 60, by omega⟩
  rw [ttL_form n hn]
  simp at h ⊢
  omega

theorem decI_ttL (n : Nat) (hn : n ≤ 100000) : decI (ttL n) = n := by
  have h1 := decH_tw4 ⟨n / 60, by omega⟩
  have h2 := min_dec ⟨n % 60, Nat.mod_lt _ (by omega)⟩
  have hlen := tw4_len ⟨n / 60, by omega⟩
  rw [ttL_form n hn]
  generalize tw4 (n / 60) = A at *
  generalize UInt8.ofNat (48 + n % 60 / 10) = a at *
  generalize UInt8.ofNat (48 + n % 60 % 10) = b at *
  simp only at h1 h2 hlen
  unfold decI
  have e0 : (A ++ [58, a, b]).length = A.length + 3 := by simp
  have e1 : (A ++ [58, a, b]).take (A.length + 3 - 3) = A := by simp
  have e2 : (A ++ [58, a, b]).getD (A.length + 3 - 2) 0 = a := by
    rw [List.getD, List.getElem?_append_right (by omega), show A.length + 3 - 2 - A.length = 1 by omega]; rfl
  have e3 : (A ++ [58, a, b]).getD (A.length + 3 - 1) 0 = b := by
    rw [List.getD, List.getElem?_append_right (by omega), show A.length + 3 - 1 - A.length = 2 by omega]; rfl
  rw [e0, e1, e2, e3, h1]
  omega

/-- What ReadTime answers. -/
def readB (l : List UInt8) : Int := if (5 ≤ l.length ∧ l.length ≤ 7) ∧ tt (decI l) = l then decI l else -1

theorem tt_nat (n : Nat) (hn : n ≤ 100000) : tt (n : Int) = ttL n := by unfold tt; rw [if_pos (by omega)]; rfl
theorem tt_ne (m : Int) (h : tt m ≠ []) : ∃ n : Nat, n ≤ 100000 ∧ m = n := by
  unfold tt at h
  by_cases hm : 0 ≤ m ∧ m ≤ 100000
  · exact ⟨m.toNat, by omega, by omega⟩
  · rw [if_neg hm] at h; exact absurd rfl h

theorem readB_ttL (n : Nat) (hn : n ≤ 100000) : readB (ttL n) = n := by
  unfold readB
  rw [decI_ttL n hn, if_pos ⟨ttL_len n hn, tt_nat n hn⟩]

/-- What reads at all was printed. -/
theorem readB_or (l : List UInt8) : readB l = -1 ∨ ∃ n : Nat, n ≤ 100000 ∧ l = ttL n ∧ readB l = n := by
  unfold readB
  by_cases h : (5 ≤ l.length ∧ l.length ≤ 7) ∧ tt (decI l) = l
  · right
    have hne : tt (decI l) ≠ [] := by rw [h.2]; intro e; rw [e] at h; simp at h
    obtain ⟨n, hn, e⟩ := tt_ne _ hne
    refine ⟨n, hn, ?_, by rw [if_pos h, e]⟩
    have := h.2
    rw [e, tt_nat n hn] at this
    exact this.symm
  · left; rw [if_neg h]
theorem readB_no (l : List UInt8) (h : ∀ n : Nat, n ≤ 100000 → l ≠ ttL n) : readB l = -1 := by
  rcases readB_or l with h' | ⟨n, hn, e, _⟩
  · exact h'
  · exact absurd e (h n hn)
theorem readB_yes (l : List UInt8) (m : Int) (h0 : l ≠ []) (h : tt m = l) : readB l = m := by
  obtain ⟨n, hn, rfl⟩ := tt_ne m (by rw [h]; exact h0)
  rw [← h, tt_nat n hn, readB_ttL n hn]

theorem indexByte_first (A r : List UInt8) (h : A.all (fun b => b != 58) = true) : Lib.indexByte (A ++ 58 :: r) 58 = A.length := by
  induction A with
  | nil => rfl
  | cons b A ih =>
    simp only [List.all_cons, Bool.and_eq_true, bne_iff_ne, ne_eq] at h
    have e : (b == 58) = false := by simpa using h.1
    have hi := ih h.2
    simp only [List.cons_append, Lib.indexByte, e, hi]
    have : ((A.length : Int) == -1) = false := by simp
    simp [this]

/-- A printed time, cut at the colon, and its two numbers. -/
theorem ttL_cut (n : Nat) (hn : n ≤ 100000) : Lib.indexByte (ttL n) 58 = ((tw4 (n / 60)).length : Nat) ∧ (ttL n).take (tw4 (n / 60)).length = tw4 (n / 60) ∧ (ttL n).drop ((tw4 (n / 60)).length + 1) = tw4 (n % 60) := by
  have h := tw4_min ⟨n % 60, Nat.mod_lt _ (by omega)⟩
  have hd := tw4_digit ⟨n / 60, by omega⟩
  have e : ttL n = tw4 (n / 60) ++ 58 :: tw4 (n % 60) := by unfold ttL; rw [two_tw4 _ (by omega), two_tw4 _ (by omega)]
  rw [e]
  refine ⟨indexByte_first _ _ hd, by simp, ?_⟩
  rw [List.drop_append]
  simp
end Go.Proofs.YthlmaljgnhakfaaGreatDoor
