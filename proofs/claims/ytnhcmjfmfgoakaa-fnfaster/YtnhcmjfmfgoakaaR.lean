/- Roots: the greatest whole number whose square is not beyond a number, by halving and by bits. -/
import Derived.Test.YtnhcmjfmfgoakaaA
namespace Go.Proofs.Ytnhcmjfmfgoakaa
open Go.RowKit

def rootN : Nat → Nat
  | 0 => 0
  | n + 1 => if (rootN n + 1) * (rootN n + 1) ≤ n + 1 then rootN n + 1 else rootN n
theorem rootN_is (n : Nat) : rootN n * rootN n ≤ n ∧ n < (rootN n + 1) * (rootN n + 1) := by
  induction n with
  | zero => simp [rootN]
  | succ n ih =>
    unfold rootN
    split
    · rename_i h
      refine ⟨h, ?_⟩
      have e : (rootN n + 1 + 1) * (rootN n + 1 + 1) = (rootN n + 1) * (rootN n + 1) + 2 * (rootN n + 1) + 1 := by
        generalize rootN n + 1 = a
        rw [Nat.add_mul, Nat.mul_add]; omega
      omega
    · omega
/-- The root of a whole number; 0 below 1. -/
def rootZ (x : Int) : Int := rootN x.toNat
theorem rootZ_is {x : Int} (h : 0 ≤ x) : 0 ≤ rootZ x ∧ rootZ x * rootZ x ≤ x ∧ x < (rootZ x + 1) * (rootZ x + 1) := by
  have h1 := rootN_is x.toNat
  unfold rootZ
  generalize rootN x.toNat = r at h1
  have e : (x.toNat : Int) = x := by omega
  refine ⟨by omega, ?_, ?_⟩
  · rw [← e]; exact_mod_cast h1.1
  · rw [← e]; exact_mod_cast h1.2
theorem rootZ_neg {x : Int} (h : x ≤ 0) : rootZ x = 0 := by
  have e : x.toNat = 0 := by omega
  simp [rootZ, e, rootN]
theorem sq_lt {a b : Int} (h0 : 0 ≤ a) (hb : 0 ≤ b) (h : a * a < b * b) : a < b := by
  by_cases c : a < b
  · exact c
  · have : b * b ≤ a * a := Int.mul_le_mul (by omega) (by omega) hb h0
    omega
theorem root_uniq {x a : Int} (h : 0 ≤ x) (h0 : 0 ≤ a) (h1 : a * a ≤ x) (h2 : x < (a + 1) * (a + 1)) : rootZ x = a := by
  obtain ⟨g0, g1, g2⟩ := rootZ_is h
  have h3 := sq_lt h0 (by omega : 0 ≤ rootZ x + 1) (by omega)
  have h4 := sq_lt g0 (by omega : 0 ≤ a + 1) (by omega)
  omega

set_option maxHeartbeats 800000 in
theorem c33 (x : Int) (w : World) (hx : x ≤ 9223372036854775807) : Calls Try.prog 33 #[.int .i64 x] w fun e w' => e = .returned (.int .i64 (rootZ x)) ∧ w' = w := by
  by_cases h0 : x ≤ 0
  · have R := hide (rootZ_neg h0)
    go_enter Try.func33, Try.ntmps33
    go_wp2
    go_ret
    exact ⟨ret_int R.out.symm, rfl⟩
  go_enter Try.func33, Try.ntmps33
  go_wp2
  go_loop [3, 4, 5] (fun lo hi _ => ∃ a b : Int, lo = .int .i64 a ∧ hi = .int .i64 b ∧ 0 ≤ a ∧ a ≤ b ∧ b ≤ 3037000499 ∧ a * a ≤ x ∧ x < (b + 1) * (b + 1)) (fun lo hi _ => (intOf hi - intOf lo).toNat)
  case atStart => exact ⟨0, 3037000499, rfl, rfl, by omega, by omega, by omega, by omega, by omega⟩
  case round =>
    obtain ⟨a, b, rfl, rfl, h1, h2, h3, h4, h5⟩ := hrel
    by_cases hlt : a < b
    · have e0 : IntKind.i64.wrap (a + b) = a + b := wrap_in _ (by omega) (by omega)
      have e1 : IntKind.i64.wrap (a + b + 1) = a + b + 1 := wrap_in _ (by omega) (by omega)
      have e2 : IntKind.i64.wrap ((a + b + 1).tdiv 2) = (a + b + 1) / 2 := by rw [Int.tdiv_eq_ediv_of_nonneg (by omega)]; exact wrap_in _ (by omega) (by omega)
      generalize hm : (a + b + 1) / 2 = m at e2
      have m1 : a < m := by omega
      have m2 : m ≤ b := by omega
      have hmm : m * m ≤ 3037000499 * 3037000499 := Int.mul_le_mul (by omega) (by omega) (by omega) (by omega)
      have hm0 : 0 ≤ m * m := Int.mul_nonneg (by omega) (by omega)
      have e3 : IntKind.i64.wrap (m * m) = m * m := wrap_in _ (by omega) (by omega)
      have e4 : IntKind.i64.wrap (m - 1) = m - 1 := wrap_in _ (by omega) (by omega)
      by_cases hc : m * m ≤ x
      · go_wp2
        go_round
        case rel => exact ⟨m, b, rfl, rfl, by omega, by omega, h3, hc, h5⟩
        case measure => simp [intOf]; omega
      · go_wp2
        go_round
        case rel => exact ⟨a, m - 1, rfl, rfl, h1, by omega, by omega, h4, by rw [Int.sub_add_cancel]; omega⟩
        case measure => simp [intOf]; omega
    · obtain rfl : a = b := by omega
      have R := hide (root_uniq (by omega) h1 h4 h5)
      clear h4 h5
      go_wp2
      go_ret
      exact ⟨ret_int R.out.symm, rfl⟩

theorem tdiv_np {x n : Int} (hn : 0 < n) (h : x < 0) : x.tdiv n ≤ 0 := by
  have e : x = -(-x) := by omega
  rw [e, Int.neg_tdiv]
  have := Int.tdiv_nonneg (a := -x) (b := n) (by omega) (by omega)
  omega
theorem next_iff {x n : Int} (hn : 0 < n) : n ≤ x.tdiv n ↔ n * n ≤ x := by
  by_cases h : 0 ≤ x
  · rw [Int.tdiv_eq_ediv_of_nonneg h]
    exact Int.le_ediv_iff_mul_le hn
  · have h1 := tdiv_np hn (by omega : x < 0)
    have h2 : 0 ≤ n * n := Int.mul_nonneg (by omega) (by omega)
    omega
theorem tdiv_in {x n : Int} (hn : 0 < n) (h1 : -9223372036854775808 ≤ x) (h2 : x ≤ 9223372036854775807) : IntKind.i64.wrap (x.tdiv n) = x.tdiv n := by
  have h := Int.natAbs_tdiv_le_natAbs x n
  by_cases hx : x < 0
  · have := tdiv_np hn hx
    exact wrap_in _ (by omega) (by omega)
  · exact wrap_in _ (by omega) (by omega)

theorem root_start {x : Int} (hx : x ≤ 9223372036854775807) : x < (0 + (2 : Int) ^ 32) * (0 + (2 : Int) ^ 32) := Int.lt_of_le_of_lt hx (by decide)

set_option maxHeartbeats 800000 in
theorem c25 (x : Int) (w : World) (hx0 : -9223372036854775808 ≤ x) (hx : x ≤ 9223372036854775807) : Calls Try.prog 25 #[.int .i64 x] w fun e w' => e = .returned (.int .i64 (rootZ x)) ∧ w' = w := by
  go_enter Try.func25, Try.ntmps25
  go_wp2
  go_loop [3, 4, 5] (fun r bt _ => ∃ (a b : Int) (j : Nat), r = .int .i64 a ∧ bt = .int .i64 b ∧ 0 ≤ a ∧ 0 ≤ b ∧ j ≤ 32 ∧ b = (2 : Int) ^ j / 2 ∧ a + (2 : Int) ^ j ≤ 4294967296 ∧ (a = 0 ∨ a * a ≤ x) ∧ x < (a + (2 : Int) ^ j) * (a + (2 : Int) ^ j)) (fun _ bt _ => (intOf bt).toNat)
  case atStart => exact ⟨0, 2147483648, 32, rfl, rfl, by omega, by omega, by omega, by decide, by decide, .inl rfl, root_start hx⟩
  case round =>
    obtain ⟨a, b, j, rfl, rfl, h1, h2, h3, h4, h5, h6, h7⟩ := hrel
    cases j with
    | zero =>
      have hb : b = 0 := by simpa using h4
      subst hb
      rw [Int.pow_zero] at h7
      have R : Hid (rootZ x = a) := by
        show _ = _
        rcases h6 with rfl | h6
        · by_cases hx1 : x ≤ 0
          · exact rootZ_neg hx1
          · exact root_uniq (by omega) h1 (by omega) h7
        · have : 0 ≤ a * a := Int.mul_nonneg h1 h1
          exact root_uniq (by omega) h1 h6 h7
      clear h6 h7
      go_wp2
      go_ret
      exact ⟨ret_int R.out.symm, rfl⟩
    | succ j =>
      have hp : (2 : Int) ^ (j + 1) = 2 * 2 ^ j := by rw [Int.pow_succ]; omega
      rw [hp] at h4 h5 h7
      have hpos : (0 : Int) < 2 ^ j := Int.pow_pos (by omega)
      have hb : b = 2 ^ j := by omega
      rw [← hb] at h5 h7 hpos
      have e0 : IntKind.i64.wrap (a + b) = a + b := wrap_in _ (by omega) (by omega)
      have e1 := tdiv_in (x := x) (n := a + b) (by omega) hx0 hx
      have hi := next_iff (x := x) (n := a + b) (by omega)
      have eab : a + 2 * b = a + b + b := by omega
      rw [eab] at h5 h7
      have h5 := hide h5
      have h7 := hide h7
      have hB := hide hb
      clear hp hb eab h4
      by_cases hc : a + b ≤ x.tdiv (a + b)
      · have hc' := hide (hi.1 hc)
        clear hi h6
        go_wp2
        go_round
        case rel => exact ⟨a + b, b / 2, j, rfl, rfl, by omega, by omega, by omega, by rw [hB.out], by rw [← hB.out]; exact h5.out, .inr hc'.out, by rw [← hB.out]; exact h7.out⟩
        case measure => simp [intOf]; omega
      · have hc' : Hid (¬ (a + b) * (a + b) ≤ x) := fun h => hc (hi.2 h)
        clear hi
        go_wp2
        go_round
        case rel => exact ⟨a, b / 2, j, rfl, rfl, by omega, by omega, by omega, by rw [hB.out], by rw [← hB.out]; have := h5.out; omega, h6, by rw [← hB.out]; have := hc'.out; omega⟩
        case measure => simp [intOf]; omega

set_option maxHeartbeats 400000 in
theorem walk9 (x : Int) (w : World) (hx0 : -9223372036854775808 ≤ x) (hx : x ≤ 9223372036854775807) : Calls Try.prog 9 #[.int .i64 x] w fun e w' => e = .returned (.bool true) ∧ Below w.heap.size w w' := by
  go_enter Try.func9, Try.ntmps9
  go_wp2_with fail
  refine (c33 x _ hx).mono ?_
  rintro e w1 ⟨rfl, hw⟩
  subst hw
  go_wp2_with fail
  refine (c25 x _ hx0 hx).mono ?_
  rintro e w1 ⟨rfl, hw⟩
  subst hw
  go_wp2
  go_ret
  exact ⟨rfl, Below.refl _ _⟩
end Go.Proofs.Ytnhcmjfmfgoakaa
