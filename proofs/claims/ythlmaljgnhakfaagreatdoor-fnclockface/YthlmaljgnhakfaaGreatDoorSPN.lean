/- A number read by the model: what is printed is read as it was. -/
import Derived.Test.YthlmaljgnhakfaaGreatDoorNM
namespace Go.Proofs.YthlmaljgnhakfaaGreatDoor
open Go.RowKit
set_option maxRecDepth 100000 in
set_option maxHeartbeats 800000 in
theorem cNumL (x : Nat) (w : World) (hx : x ≤ 100000000) : Calls Tryz.prog 43 #[.int .i64 x] w fun e w' => e = .returned (S (Lib.decDigits x)) ∧ Below w.heap.size w w' := by
  by_cases h0 : x = 0
  · subst h0
    go_enter Tryz.func43, Tryz.ntmps43
    go_wp2
    go_ret
    exact ⟨by rw [Lib.decDigits_one (by omega)]; rfl, Below.refl _ _⟩
  have hx0 : ((x : Int) == 0) = false := by simp; omega
  have hneg : decide ((x : Int) < 0) = false := by simp
  have H0 := hide h0
  clear h0
  go_enter Tryz.func43, Tryz.ntmps43
  go_wp2
  go_loopw [0, 3, 5] (fun xx out _ wr => ∃ (n : Nat) (l : List UInt8), n ≤ x ∧ xx = .int .i64 n ∧ out = .string ⟨l.toArray⟩ ∧ (if n = 0 then l else Lib.decDigits n ++ l) = Lib.decDigits x ∧ l.length + n ≤ x + 20 ∧ Below w.heap.size w wr) (fun xx _ _ _ => (intOf xx).toNat)
  case atStart => exact ⟨x, [], Nat.le_refl _, rfl, rfl, by rw [if_neg H0.out]; simp, by simp, Below.refl _ _⟩
  case round =>
    obtain ⟨n, l, hn, rfl, rfl, hd, hlen, hb⟩ := hrel
    by_cases hn0 : n = 0
    · subst hn0
      have hne : (((0 : Nat) : Int) != 0) = false := by simp
      rw [if_pos rfl] at hd
      have HD := hide hd
      clear hd
      go_wp2
      go_ret
      exact ⟨by rw [← HD.out]; rfl, hb⟩
    · have hne : ((n : Int) != 0) = true := by simp; omega
      have HD := hide hd
      have HN := hide hn0
      clear hd hn0
      have hconv := conv_one wr n
      go_wp2
      go_roundw
      case rel => exact ⟨n / 10, UInt8.ofNat (48 + n % 10) :: l, by omega, by go_num, cons_str n l, (num_step n l).trans (by have h := HD.out; rw [if_neg HN.out] at h; exact h), by have := HN.out; simp; omega, hb.alloc hb.size _⟩
      case measure => have := HN.out; simp [intOf]; omega
theorem dec_four (n : Nat) (h : n < 10000) : (Lib.decDigits n).length ≤ 4 := by
  by_cases h1 : n < 10
  · rw [dec_low n h1]; simp
  rw [dec_app n h1]
  by_cases h2 : n / 10 < 10
  · rw [dec_low _ h2]; simp
  rw [dec_app _ h2]
  by_cases h3 : n / 10 / 10 < 10
  · rw [dec_low _ h3]; simp
  rw [dec_app _ h3]
  by_cases h4 : n / 10 / 10 / 10 < 10
  · rw [dec_low _ h4]; simp
  omega
theorem pow_step (k : Nat) (h : k < 8) : 10 ^ (k + 1) ≤ 100000000 := by
  have : 10 ^ (k + 1) ≤ 10 ^ 8 := Nat.pow_le_pow_right (by omega) (by omega)
  simpa using this
theorem valD_take {l : List UInt8} {k m : Nat} (hk : k < l.length) (hm : m = valD (l.take k)) : 10 * m + ((l[k]).toNat - 48) = valD (l.take (k + 1)) := by
  rw [List.take_succ_eq_append_getElem hk, valD_app, ← hm]
/-- What the model's number tells: where a number below 10000 is printed so, it is told. -/
def NuAns (l : List UInt8) (w : World) (e : Ending) (W : World) : Prop := ∃ r : Int, e = .returned (.int .i64 r) ∧ (∀ n : Nat, n < 10000 → Lib.decDigits n = l → r = n) ∧ Below w.heap.size w W
theorem NuAns.no {l : List UInt8} {w W : World} (h : ∀ n : Nat, n < 10000 → Lib.decDigits n ≠ l) (hb : Below w.heap.size w W) : NuAns l w (.returned (.int .i64 (-1))) W := ⟨-1, rfl, fun n hn e => absurd e (h n hn), hb⟩
end Go.Proofs.YthlmaljgnhakfaaGreatDoor
