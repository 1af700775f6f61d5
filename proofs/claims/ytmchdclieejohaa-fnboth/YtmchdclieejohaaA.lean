/- Small contracts of the calendar's functions: weekdays, sets of weekdays, ranges. -/
import Derived.Test.YtmchdclieejohaaProg
import Derived.WalkKit
import Derived.Deep.QuietTactic
import Derived.BigQuiet
namespace Go.Proofs.Ytmchdclieejohaa
open Go.RowKit

theorem ret_int {k : IntKind} {a b : Int} (h : a = b) : Ending.returned (.int k a) = .returned (.int k b) := by rw [h]
theorem ret_bool {a b : Bool} (h : a = b) : Ending.returned (.bool a) = .returned (.bool b) := by rw [h]

def inB (x lo hi : Int) : Bool := decide (lo ≤ x ∧ x ≤ hi)

set_option maxHeartbeats 400000 in
theorem c46 (x lo hi : Int) (w : World) : Calls Try.prog 46 #[.int .i64 x, .int .i64 lo, .int .i64 hi] w fun e w' => e = .returned (.bool (inB x lo hi)) ∧ w' = w := by
  have e : inB x lo hi = decide (lo ≤ x ∧ x ≤ hi) := rfl
  have E : Hid (inB x lo hi = decide (lo ≤ x ∧ x ≤ hi)) := e
  clear e
  by_cases h1 : lo ≤ x
  · by_cases h2 : x ≤ hi
    · go_enter Try.func46, Try.ntmps46
      go_wp2
      go_ret
      exact ⟨ret_bool (by rw [E.out]; symm; simp; omega), rfl⟩
    · go_enter Try.func46, Try.ntmps46
      go_wp2
      go_ret
      exact ⟨ret_bool (by rw [E.out]; symm; simp; omega), rfl⟩
  · go_enter Try.func46, Try.ntmps46
    go_wp2
    go_ret
    exact ⟨ret_bool (by rw [E.out]; symm; simp; omega), rfl⟩

theorem tm7 (d : Int) : (0 ≤ d ∧ d.tmod 7 = d % 7) ∨ (d < 0 ∧ d.tmod 7 = -((-d) % 7)) := by
  by_cases h : 0 ≤ d
  · exact .inl ⟨h, Int.tmod_eq_emod_of_nonneg h⟩
  · refine .inr ⟨by omega, ?_⟩
    have h2 : (-(-d)).tmod 7 = -((-d).tmod 7) := Int.neg_tmod (-d) 7
    rw [Int.neg_neg, Int.tmod_eq_emod_of_nonneg (a := -d) (by omega)] at h2
    exact h2

theorem e57 (d : Int) : (wrap64 (d.tmod 7 + 7)).tmod 7 = d % 7 := by
  rcases tm7 d with ⟨h, e⟩ | ⟨h, e⟩ <;> rw [IntWalk.wrap64_in _ (by omega), Int.tmod_eq_emod_of_nonneg (by omega)] <;> omega

theorem e54a (d : Int) (h : d.tmod 7 < 0) : wrap64 (d.tmod 7 + 7) = d % 7 := by
  rcases tm7 d with ⟨h, e⟩ | ⟨h, e⟩ <;> rw [IntWalk.wrap64_in _ (by omega)] <;> omega

theorem e54b (d : Int) (h : 0 ≤ d.tmod 7) : d.tmod 7 = d % 7 := by
  rcases tm7 d with ⟨h, e⟩ | ⟨h, e⟩ <;> omega

set_option maxHeartbeats 400000 in
theorem c57 (d : Int) (w : World) : Calls Try.prog 57 #[.int .i64 d] w fun e w' => e = .returned (.int .i64 (d % 7)) ∧ w' = w := by
  go_enter Try.func57, Try.ntmps57
  go_wp2
  go_ret
  exact ⟨ret_int (e57 d), rfl⟩

set_option maxHeartbeats 400000 in
theorem c54 (d : Int) (w : World) : Calls Try.prog 54 #[.int .i64 d, .int .i64 7] w fun e w' => e = .returned (.int .i64 (d % 7)) ∧ w' = w := by
  go_enter Try.func54, Try.ntmps54
  go_wp2
  · go_ret
    exact ⟨ret_int (e54a d ‹_›), rfl⟩
  · go_ret
    exact ⟨ret_int (e54b d ‹_›), rfl⟩

/-- Is the weekday of day d in the set W? -/
def wkB (W d : Int) : Bool := bits BinOp.and IntKind.i64 (W / 2 ^ (d % 7).toNat) 1 == 1

set_option maxHeartbeats 400000 in
theorem c40 (W d : Int) (w : World) : Calls Try.prog 40 #[.int .i64 W, .int .i64 d] w fun e w' => e = .returned (.bool (wkB W d)) ∧ w' = w := by
  have hm0 : 0 ≤ d % 7 := by omega
  have hm1 : d % 7 < 7 := by omega
  go_enter Try.func40, Try.ntmps40
  go_wp2_with (go_at_call 54; refine (c54 _ _).mono ?_; rintro e w' ⟨rfl, rfl⟩)
  go_ret
  exact ⟨rfl, rfl⟩

set_option maxHeartbeats 400000 in
theorem c36 (W d : Int) (w : World) : Calls Try.prog 36 #[.int .i64 W, .int .i64 d] w fun e w' => e = .returned (.bool (wkB W d)) ∧ w' = w := by
  have hm0 : 0 ≤ d % 7 := by omega
  have hm1 : d % 7 < 7 := by omega
  go_enter Try.func36, Try.ntmps36
  go_wp2_with (go_at_call 57; refine (c57 _ _).mono ?_; rintro e w' ⟨rfl, rfl⟩)
  go_ret
  exact ⟨rfl, rfl⟩
end Go.Proofs.Ytmchdclieejohaa
