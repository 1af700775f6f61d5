/- The walks of the first five laws. -/
import Derived.Test.YtcadgafenbmihaaC
namespace Go.Proofs.Ytcadgafenbmihaa
open Go.RowKit Fl

attribute [local go_sem] run_store_float


set_option maxHeartbeats 400000 in
theorem walk3 (x lo hi : Nat) (w : World) : Calls Try.prog 3 #[.float .f64 x, .float .f64 lo, .float .f64 hi] w fun e w' => e = .returned (.bool true) ∧ Below w.heap.size w w' := by
  go_enter Try.func3, Try.ntmps3
  go_wp2_with fail
  refine (c15 _ _ _ _).mono ?_
  rintro e w1 ⟨rfl, hw⟩
  subst hw
  go_wp2_with fail
  refine (c16 _ _ _ _).mono ?_
  rintro e w2 ⟨rfl, hw⟩
  subst hw
  go_wp2
  go_ret
  exact ⟨rfl, Below.refl _ _⟩

set_option maxHeartbeats 1600000 in
theorem walk4 (q : CarV) (w : World) : Calls Try.prog 4 #[CarV.val q] w fun e w' => e = .returned (.bool true) ∧ Below w.heap.size w w' := by
  obtain ⟨m, a, b, c⟩ := q
  unfold CarV.val
  go_enter Try.func4, Try.ntmps4
  go_wp2_with fail
  refine (c18 ⟨m, a, b, c⟩ _).mono ?_
  rintro e w1 ⟨rfl, hb⟩
  have HB := btrans (balloc _ _) hb
  have X := Bx4.mk hb
  clear hb
  go_wp2_with fail
  refine (c17 _ _).mono ?_
  rintro e w2 ⟨rfl, hb⟩
  have HB2 := btrans HB hb
  have X2 := X.below hb
  clear HB X hb
  obtain ⟨b0, b1, b2, b3⟩ := id X2
  dsimp only at b0 b1 b2 b3
  go_wp2_with fail
  refine (c18 ⟨m, a, b, c⟩ _).mono ?_
  rintro e w3 ⟨rfl, hb⟩
  have HB3 := btrans HB2 hb
  clear HB2 X2 hb b0 b1 b2 b3
  go_wp2_with fail
  refine (c19 _ _).mono ?_
  rintro e w4 ⟨rfl, hb⟩
  have HB4 := btrans HB3 hb
  clear HB3 hb
  go_wp2
  go_ret
  exact ⟨rfl, HB4⟩

set_option maxHeartbeats 1600000 in
theorem walk5 (q : LocoV) (w : World) : Calls Try.prog 5 #[LocoV.val q] w fun e w' => e = .returned (.bool true) ∧ Below w.heap.size w w' := by
  obtain ⟨p, g⟩ := q
  unfold LocoV.val
  go_enter Try.func5, Try.ntmps5
  go_wp2_with fail
  refine (c21 ⟨p, g⟩ _).mono ?_
  rintro e w1 ⟨rfl, hb⟩
  have HB := btrans (balloc _ _) hb
  have X := Bx2.mk hb
  clear hb
  go_wp2_with fail
  refine (c20 _ _).mono ?_
  rintro e w2 ⟨rfl, hb⟩
  have HB2 := btrans HB hb
  have X2 := X.below hb
  clear HB X hb
  obtain ⟨b0, b1⟩ := id X2
  dsimp only at b0 b1
  go_wp2_with fail
  refine (c21 ⟨p, g⟩ _).mono ?_
  rintro e w3 ⟨rfl, hb⟩
  have HB3 := btrans HB2 hb
  clear HB2 X2 hb b0 b1
  go_wp2_with fail
  refine (c22 _ _).mono ?_
  rintro e w4 ⟨rfl, hb⟩
  have HB4 := btrans HB3 hb
  clear HB3 hb
  go_wp2
  go_ret
  exact ⟨rfl, HB4⟩

set_option maxHeartbeats 1600000 in
theorem walk6 (q : CarV) (v : Nat) (w : World) : Calls Try.prog 6 #[CarV.val q, .float .f64 v] w fun e w' => e = .returned (.bool true) ∧ Below w.heap.size w w' := by
  obtain ⟨m, a, b, c⟩ := q
  unfold CarV.val
  go_enter Try.func6, Try.ntmps6
  go_wp2_with fail
  refine (c18 ⟨m, a, b, c⟩ _).mono ?_
  rintro e w1 ⟨rfl, hb⟩
  have HB := btrans (balloc _ _) hb
  have X := Bx4.mk hb
  clear hb
  go_wp2_with fail
  refine (c23 _ _ _).mono ?_
  rintro e w2 ⟨rfl, hb⟩
  have HB2 := btrans HB hb
  have X2 := X.below hb
  clear HB X hb
  obtain ⟨b0, b1, b2, b3⟩ := id X2
  dsimp only at b0 b1 b2 b3
  go_wp2_with fail
  refine (c18 ⟨m, a, b, c⟩ _).mono ?_
  rintro e w3 ⟨rfl, hb⟩
  have HB3 := btrans HB2 hb
  clear HB2 X2 hb b0 b1 b2 b3
  go_wp2_with fail
  refine (c24 _ _ _).mono ?_
  rintro e w4 ⟨rfl, hb⟩
  have HB4 := btrans HB3 hb
  clear HB3 hb
  go_wp2_with fail
  refine (c25 _ _).mono ?_
  rintro e w5 ⟨rfl, hw⟩
  subst hw
  go_wp2
  go_ret
  exact ⟨rfl, HB4⟩

set_option maxHeartbeats 1600000 in
theorem walk7 (q : LocoV) (v : Nat) (w : World) : Calls Try.prog 7 #[LocoV.val q, .float .f64 v] w fun e w' => e = .returned (.bool true) ∧ Below w.heap.size w w' := by
  obtain ⟨p, g⟩ := q
  unfold LocoV.val
  go_enter Try.func7, Try.ntmps7
  go_wp2_with fail
  refine (c21 ⟨p, g⟩ _).mono ?_
  rintro e w1 ⟨rfl, hb⟩
  have HB := btrans (balloc _ _) hb
  have X := Bx2.mk hb
  clear hb
  go_wp2_with fail
  refine (c26 _ _ _).mono ?_
  rintro e w2 ⟨rfl, hb⟩
  have HB2 := btrans HB hb
  have X2 := X.below hb
  clear HB X hb
  obtain ⟨b0, b1⟩ := id X2
  dsimp only at b0 b1
  go_wp2_with fail
  refine (c21 ⟨p, g⟩ _).mono ?_
  rintro e w3 ⟨rfl, hb⟩
  have HB3 := btrans HB2 hb
  clear HB2 X2 hb b0 b1
  go_wp2_with fail
  refine (c27 _ _ _).mono ?_
  rintro e w4 ⟨rfl, hb⟩
  have HB4 := btrans HB3 hb
  clear HB3 hb
  go_wp2_with fail
  refine (c25 _ _).mono ?_
  rintro e w5 ⟨rfl, hw⟩
  subst hw
  go_wp2
  go_ret
  exact ⟨rfl, HB4⟩

end Go.Proofs.Ytcadgafenbmihaa
