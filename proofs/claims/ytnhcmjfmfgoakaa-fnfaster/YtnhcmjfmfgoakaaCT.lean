/- The time of a cell. -/
import Derived.Test.YtnhcmjfmfgoakaaR
namespace Go.Proofs.Ytnhcmjfmfgoakaa
open Go.RowKit

def paceT (u : Int) : Int := if u < 20 then 500 else (10000 + u - 1) / u
/-- The time of a cell by the squares at its borders. -/
def cellT (a b : Int) : Int := if inB a 0 8100 && inB b 0 8100 then paceT (rootZ (100 * a) + rootZ (100 * b)) else -1
theorem cellT_in {a b : Int} (h1 : inB a 0 8100 = true) (h2 : inB b 0 8100 = true) : cellT a b = paceT (rootZ (100 * a) + rootZ (100 * b)) := by simp [cellT, h1, h2]
theorem root81 {a : Int} (h1 : 0 ≤ a) (h2 : a ≤ 8100) : 0 ≤ rootZ (100 * a) ∧ rootZ (100 * a) ≤ 900 := by
  obtain ⟨g0, g1, g2⟩ := rootZ_is (x := 100 * a) (by omega)
  have := sq_lt g0 (by omega : (0 : Int) ≤ 901) (by omega)
  omega
theorem paceT_in (u : Int) (h0 : 0 ≤ u) (h1 : u ≤ 1800) : 0 ≤ paceT u ∧ paceT u ≤ 500 := by
  unfold paceT
  split
  · omega
  · have hu : 0 < u := by omega
    refine ⟨Int.ediv_nonneg (by omega) (by omega), ?_⟩
    have h : 10000 + u - 1 < u * 501 := by omega
    have := Int.ediv_lt_of_lt_mul hu (by rw [Int.mul_comm]; exact h)
    omega
theorem cellT_le (a b : Int) : -1 ≤ cellT a b ∧ cellT a b ≤ 500 := by
  unfold cellT
  split
  · rename_i h
    simp only [Bool.and_eq_true] at h
    obtain ⟨p1, p2⟩ := inB_true h.1
    obtain ⟨q1, q2⟩ := inB_true h.2
    have hr1 := root81 p1 p2
    have hr2 := root81 q1 q2
    have := paceT_in (rootZ (100 * a) + rootZ (100 * b)) (by omega) (by omega)
    omega
  · omega

set_option maxHeartbeats 800000 in
theorem c34 (a b : Int) (w : World) : Calls Try.prog 34 #[.int .i64 a, .int .i64 b] w fun e w' => e = .returned (.int .i64 (cellT a b)) ∧ w' = w := by
  cases h1 : inB a 0 8100
  · have R : Hid (cellT a b = -1) := by show _ = _; simp [cellT, h1]
    go_enter Try.func34, Try.ntmps34
    go_wp2_with fail
    refine (c54 _ _ _ _).mono ?_
    rintro e w1 ⟨rfl, hw⟩
    subst hw
    rw [h1]
    go_wp2
    go_ret
    exact ⟨ret_int R.out.symm, rfl⟩
  cases h2 : inB b 0 8100
  · have R : Hid (cellT a b = -1) := by show _ = _; simp [cellT, h2]
    go_enter Try.func34, Try.ntmps34
    go_wp2_with fail
    refine (c54 _ _ _ _).mono ?_
    rintro e w1 ⟨rfl, hw⟩
    subst hw
    rw [h1]
    go_wp2_with fail
    refine (c54 _ _ _ _).mono ?_
    rintro e w1 ⟨rfl, hw⟩
    subst hw
    rw [h2]
    go_wp2
    go_ret
    exact ⟨ret_int R.out.symm, rfl⟩
  obtain ⟨p1, p2⟩ := inB_true h1
  obtain ⟨q1, q2⟩ := inB_true h2
  have hr1 := root81 p1 p2
  have hr2 := root81 q1 q2
  have R := hide (cellT_in h1 h2)
  generalize hA : rootZ (100 * a) = A at R hr1
  generalize hB : rootZ (100 * b) = B at R hr2
  by_cases hc : A + B < 20
  · have hq : IntKind.i64.wrap ((10000 + (20 : Int) - 1).tdiv 20) = 500 := by decide
    have R2 : Hid (cellT a b = 500) := by show _ = _; rw [R.out, paceT, if_pos hc]
    have hA := hide hA
    have hB := hide hB
    go_enter Try.func34, Try.ntmps34
    go_wp2_with fail
    refine (c54 _ _ _ _).mono ?_
    rintro e w1 ⟨rfl, hw⟩
    subst hw
    rw [h1]
    go_wp2_with fail
    refine (c54 _ _ _ _).mono ?_
    rintro e w1 ⟨rfl, hw⟩
    subst hw
    rw [h2]
    go_wp2_with fail
    refine (c33 _ _ (by omega)).mono ?_
    rintro e w1 ⟨rfl, hw⟩
    subst hw
    rw [hA.out]
    go_wp2_with fail
    refine (c33 _ _ (by omega)).mono ?_
    rintro e w1 ⟨rfl, hw⟩
    subst hw
    rw [hB.out]
    clear h1 h2
    go_wp2
    go_ret
    exact ⟨ret_int R2.out.symm, rfl⟩
  · have hq : IntKind.i64.wrap ((10000 + (A + B) - 1).tdiv (A + B)) = (10000 + (A + B) - 1) / (A + B) := by
      rw [Int.tdiv_eq_ediv_of_nonneg (by omega)]
      exact wrap_in _ (by have := Int.ediv_nonneg (a := 10000 + (A + B) - 1) (b := A + B) (by omega) (by omega); omega) (by have := Int.ediv_le_self (a := 10000 + (A + B) - 1) (A + B) (by omega); omega)
    have R2 : Hid (cellT a b = (10000 + (A + B) - 1) / (A + B)) := by show _ = _; rw [R.out, paceT, if_neg hc]
    generalize hZ : (10000 + (A + B) - 1) / (A + B) = Z at hq R2
    have hZ := hide hZ
    have hA := hide hA
    have hB := hide hB
    go_enter Try.func34, Try.ntmps34
    go_wp2_with fail
    refine (c54 _ _ _ _).mono ?_
    rintro e w1 ⟨rfl, hw⟩
    subst hw
    rw [h1]
    go_wp2_with fail
    refine (c54 _ _ _ _).mono ?_
    rintro e w1 ⟨rfl, hw⟩
    subst hw
    rw [h2]
    go_wp2_with fail
    refine (c33 _ _ (by omega)).mono ?_
    rintro e w1 ⟨rfl, hw⟩
    subst hw
    rw [hA.out]
    go_wp2_with fail
    refine (c33 _ _ (by omega)).mono ?_
    rintro e w1 ⟨rfl, hw⟩
    subst hw
    rw [hB.out]
    clear h1 h2
    go_wp2
    go_ret
    exact ⟨ret_int R2.out.symm, rfl⟩

set_option maxHeartbeats 800000 in
theorem c35 (a b : Int) (w : World) : Calls Try.prog 35 #[.int .i64 a, .int .i64 b] w fun e w' => e = .returned (.int .i64 (cellT a b)) ∧ w' = w := by
  cases h1 : inB a 0 8100
  · have R : Hid (cellT a b = -1) := by show _ = _; simp [cellT, h1]
    go_enter Try.func35, Try.ntmps35
    go_wp2_with fail
    refine (c53 _ _ _ _).mono ?_
    rintro e w1 ⟨rfl, hw⟩
    subst hw
    rw [h1]
    go_wp2
    go_ret
    exact ⟨ret_int R.out.symm, rfl⟩
  cases h2 : inB b 0 8100
  · have R : Hid (cellT a b = -1) := by show _ = _; simp [cellT, h2]
    go_enter Try.func35, Try.ntmps35
    go_wp2_with fail
    refine (c53 _ _ _ _).mono ?_
    rintro e w1 ⟨rfl, hw⟩
    subst hw
    rw [h1]
    go_wp2_with fail
    refine (c53 _ _ _ _).mono ?_
    rintro e w1 ⟨rfl, hw⟩
    subst hw
    rw [h2]
    go_wp2
    go_ret
    exact ⟨ret_int R.out.symm, rfl⟩
  obtain ⟨p1, p2⟩ := inB_true h1
  obtain ⟨q1, q2⟩ := inB_true h2
  have hr1 := root81 p1 p2
  have hr2 := root81 q1 q2
  have R := hide (cellT_in h1 h2)
  generalize hA : rootZ (100 * a) = A at R hr1
  generalize hB : rootZ (100 * b) = B at R hr2
  by_cases hc : A + B < 20
  · have hq : IntKind.i64.wrap ((10000 + (20 : Int) - 1).tdiv 20) = 500 := by decide
    have R2 : Hid (cellT a b = 500) := by show _ = _; rw [R.out, paceT, if_pos hc]
    have hA := hide hA
    have hB := hide hB
    go_enter Try.func35, Try.ntmps35
    go_wp2_with fail
    refine (c53 _ _ _ _).mono ?_
    rintro e w1 ⟨rfl, hw⟩
    subst hw
    rw [h1]
    go_wp2_with fail
    refine (c53 _ _ _ _).mono ?_
    rintro e w1 ⟨rfl, hw⟩
    subst hw
    rw [h2]
    go_wp2_with fail
    refine (c25 _ _ (by omega) (by omega)).mono ?_
    rintro e w1 ⟨rfl, hw⟩
    subst hw
    rw [hA.out]
    go_wp2_with fail
    refine (c25 _ _ (by omega) (by omega)).mono ?_
    rintro e w1 ⟨rfl, hw⟩
    subst hw
    rw [hB.out]
    clear h1 h2
    go_wp2
    go_ret
    exact ⟨ret_int R2.out.symm, rfl⟩
  · have hq : IntKind.i64.wrap ((10000 + (A + B) - 1).tdiv (A + B)) = (10000 + (A + B) - 1) / (A + B) := by
      rw [Int.tdiv_eq_ediv_of_nonneg (by omega)]
      exact wrap_in _ (by have := Int.ediv_nonneg (a := 10000 + (A + B) - 1) (b := A + B) (by omega) (by omega); omega) (by have := Int.ediv_le_self (a := 10000 + (A + B) - 1) (A + B) (by omega); omega)
    have R2 : Hid (cellT a b = (10000 + (A + B) - 1) / (A + B)) := by show _ = _; rw [R.out, paceT, if_neg hc]
    generalize hZ : (10000 + (A + B) - 1) / (A + B) = Z at hq R2
    have hZ := hide hZ
    have hA := hide hA
    have hB := hide hB
    go_enter Try.func35, Try.ntmps35
    go_wp2_with fail
    refine (c53 _ _ _ _).mono ?_
    rintro e w1 ⟨rfl, hw⟩
    subst hw
    rw [h1]
    go_wp2_with fail
    refine (c53 _ _ _ _).mono ?_
    rintro e w1 ⟨rfl, hw⟩
    subst hw
    rw [h2]
    go_wp2_with fail
    refine (c25 _ _ (by omega) (by omega)).mono ?_
    rintro e w1 ⟨rfl, hw⟩
    subst hw
    rw [hA.out]
    go_wp2_with fail
    refine (c25 _ _ (by omega) (by omega)).mono ?_
    rintro e w1 ⟨rfl, hw⟩
    subst hw
    rw [hB.out]
    clear h1 h2
    go_wp2
    go_ret
    exact ⟨ret_int R2.out.symm, rfl⟩

set_option maxHeartbeats 400000 in
theorem walk10 (a b : Int) (w : World) : Calls Try.prog 10 #[.int .i64 a, .int .i64 b] w fun e w' => e = .returned (.bool true) ∧ Below w.heap.size w w' := by
  go_enter Try.func10, Try.ntmps10
  go_wp2_with fail
  refine (c34 a b _).mono ?_
  rintro e w1 ⟨rfl, hw⟩
  subst hw
  go_wp2_with fail
  refine (c35 a b _).mono ?_
  rintro e w1 ⟨rfl, hw⟩
  subst hw
  go_wp2
  go_ret
  exact ⟨rfl, Below.refl _ _⟩
end Go.Proofs.Ytnhcmjfmfgoakaa
