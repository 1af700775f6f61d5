/- Motors: both texts' 'is this a motor', the copy of one, the walk of the law on MotorOk. -/
import Derived.Test.YtnhcmjfmfgoakaaM
namespace Go.Proofs.Ytnhcmjfmfgoakaa
open Go.RowKit

set_option maxHeartbeats 800000 in
theorem c26 (m : MotorV) (w : World) : Calls Try.prog 26 #[m.val] w fun e w' => e = .returned (.bool (motorB m)) ∧ Below w.heap.size w w' := by
  obtain ⟨u, d, t⟩ := m
  unfold MotorV.val
  have hW := balloc w (.cells #[.int .i64 u, .int .i64 d, .int .i64 t] 25)
  cases h1 : inB u 1 200
  · have R : Hid (motorB ⟨u, d, t⟩ = false) := by show _ = _; simp only [motorB, h1, Bool.false_and]
    go_enter Try.func26, Try.ntmps26
    go_wp2_with fail
    refine (c54 _ _ _ _).mono ?_
    rintro e w1 ⟨rfl, hw⟩
    subst hw
    rw [h1]
    go_wp2
    go_ret
    first | exact ⟨ret_bool R.out.symm, hW⟩ | exact ⟨ret_bool (by rw [R.out]; simp), hW⟩
  cases h2 : inB d 1 400
  · have R : Hid (motorB ⟨u, d, t⟩ = false) := by show _ = _; simp only [motorB, h2, Bool.false_and, Bool.and_false]
    go_enter Try.func26, Try.ntmps26
    go_wp2_with fail
    refine (c54 _ _ _ _).mono ?_
    rintro e w1 ⟨rfl, hw⟩
    subst hw
    rw [h1]
    go_wp2_with fail
    refine (c54 _ _ _ _).mono ?_
    rintro e w1 ⟨rfl, hw⟩
    subst hw
    rw [h2]
    go_wp2
    go_ret
    first | exact ⟨ret_bool R.out.symm, hW⟩ | exact ⟨ret_bool (by rw [R.out]; simp), hW⟩
  cases h3 : inB t 1 90
  · have R : Hid (motorB ⟨u, d, t⟩ = false) := by show _ = _; simp only [motorB, h3, Bool.and_false]
    go_enter Try.func26, Try.ntmps26
    go_wp2_with fail
    refine (c54 _ _ _ _).mono ?_
    rintro e w1 ⟨rfl, hw⟩
    subst hw
    rw [h1]
    go_wp2_with fail
    refine (c54 _ _ _ _).mono ?_
    rintro e w1 ⟨rfl, hw⟩
    subst hw
    rw [h2]
    go_wp2_with fail
    refine (c54 _ _ _ _).mono ?_
    rintro e w1 ⟨rfl, hw⟩
    subst hw
    rw [h3]
    go_wp2
    go_ret
    first | exact ⟨ret_bool R.out.symm, hW⟩ | exact ⟨ret_bool (by rw [R.out]; simp), hW⟩
  · have R : Hid (motorB ⟨u, d, t⟩ = true) := by show _ = _; simp only [motorB, h1, h2, h3, Bool.true_and]
    go_enter Try.func26, Try.ntmps26
    go_wp2_with fail
    refine (c54 _ _ _ _).mono ?_
    rintro e w1 ⟨rfl, hw⟩
    subst hw
    rw [h1]
    go_wp2_with fail
    refine (c54 _ _ _ _).mono ?_
    rintro e w1 ⟨rfl, hw⟩
    subst hw
    rw [h2]
    go_wp2_with fail
    refine (c54 _ _ _ _).mono ?_
    rintro e w1 ⟨rfl, hw⟩
    subst hw
    rw [h3]
    go_wp2
    go_ret
    first | exact ⟨ret_bool R.out.symm, hW⟩ | exact ⟨ret_bool (by rw [R.out]; simp), hW⟩

set_option maxHeartbeats 800000 in
theorem c28 (m : MotorV) (w : World) : Calls Try.prog 28 #[m.val] w fun e w' => e = .returned (.bool (motorB m)) ∧ Below w.heap.size w w' := by
  obtain ⟨u, d, t⟩ := m
  unfold MotorV.val
  have hW := balloc w (.cells #[.int .i64 u, .int .i64 d, .int .i64 t] 25)
  cases h1 : inB u 1 200
  · have R : Hid (motorB ⟨u, d, t⟩ = false) := by show _ = _; simp only [motorB, h1, Bool.false_and]
    go_enter Try.func28, Try.ntmps28
    go_wp2_with fail
    refine (c53 _ _ _ _).mono ?_
    rintro e w1 ⟨rfl, hw⟩
    subst hw
    rw [h1]
    go_wp2
    go_ret
    first | exact ⟨ret_bool R.out.symm, hW⟩ | exact ⟨ret_bool (by rw [R.out]; simp), hW⟩
  cases h2 : inB d 1 400
  · have R : Hid (motorB ⟨u, d, t⟩ = false) := by show _ = _; simp only [motorB, h2, Bool.false_and, Bool.and_false]
    go_enter Try.func28, Try.ntmps28
    go_wp2_with fail
    refine (c53 _ _ _ _).mono ?_
    rintro e w1 ⟨rfl, hw⟩
    subst hw
    rw [h1]
    go_wp2_with fail
    refine (c53 _ _ _ _).mono ?_
    rintro e w1 ⟨rfl, hw⟩
    subst hw
    rw [h2]
    go_wp2
    go_ret
    first | exact ⟨ret_bool R.out.symm, hW⟩ | exact ⟨ret_bool (by rw [R.out]; simp), hW⟩
  cases h3 : inB t 1 90
  · have R : Hid (motorB ⟨u, d, t⟩ = false) := by show _ = _; simp only [motorB, h3, Bool.and_false]
    go_enter Try.func28, Try.ntmps28
    go_wp2_with fail
    refine (c53 _ _ _ _).mono ?_
    rintro e w1 ⟨rfl, hw⟩
    subst hw
    rw [h1]
    go_wp2_with fail
    refine (c53 _ _ _ _).mono ?_
    rintro e w1 ⟨rfl, hw⟩
    subst hw
    rw [h2]
    go_wp2_with fail
    refine (c53 _ _ _ _).mono ?_
    rintro e w1 ⟨rfl, hw⟩
    subst hw
    rw [h3]
    go_wp2
    go_ret
    first | exact ⟨ret_bool R.out.symm, hW⟩ | exact ⟨ret_bool (by rw [R.out]; simp), hW⟩
  · have R : Hid (motorB ⟨u, d, t⟩ = true) := by show _ = _; simp only [motorB, h1, h2, h3, Bool.true_and]
    go_enter Try.func28, Try.ntmps28
    go_wp2_with fail
    refine (c53 _ _ _ _).mono ?_
    rintro e w1 ⟨rfl, hw⟩
    subst hw
    rw [h1]
    go_wp2_with fail
    refine (c53 _ _ _ _).mono ?_
    rintro e w1 ⟨rfl, hw⟩
    subst hw
    rw [h2]
    go_wp2_with fail
    refine (c53 _ _ _ _).mono ?_
    rintro e w1 ⟨rfl, hw⟩
    subst hw
    rw [h3]
    go_wp2
    go_ret
    first | exact ⟨ret_bool R.out.symm, hW⟩ | exact ⟨ret_bool (by rw [R.out]; simp), hW⟩

theorem two_blocks {w : World} {o1 o2 o3 : Obj} : (((w.alloc o1).alloc o2).alloc o3).heap[w.heap.size]? = some o1 ∧ (((w.alloc o1).alloc o2).alloc o3).heap[w.heap.size + 1]? = some o2 ∧ (((w.alloc o1).alloc o2).alloc o3).heap[w.heap.size + 1 + 1]? = some o3 := by
  refine ⟨?_, ?_, ?_⟩
  · show (((w.heap.push o1).push o2).push o3)[w.heap.size]? = _
    simp [Array.getElem?_push]; omega
  · show (((w.heap.push o1).push o2).push o3)[w.heap.size + 1]? = _
    rw [Array.getElem?_push, if_neg (by simp), Array.getElem?_push, if_pos (by simp)]
  · show (((w.heap.push o1).push o2).push o3)[w.heap.size + 1 + 1]? = _
    rw [Array.getElem?_push, if_pos (by simp)]

set_option maxHeartbeats 800000 in
theorem c27 (m : MotorV) (w : World) : Calls Try.prog 27 #[m.val] w fun e w' => e = .returned m.val ∧ Below w.heap.size w w' := by
  obtain ⟨u, d, t⟩ := m
  unfold MotorV.val
  have hW : Below w.heap.size w (((w.alloc (.cells #[.int .i64 u, .int .i64 d, .int .i64 t] 35)).alloc (.cells #[.int .i64 u, .int .i64 d, .int .i64 t] 25)).alloc (.cells #[.int .i64 u, .int .i64 d, .int .i64 t] 25)) := btrans (btrans (balloc _ _) (balloc _ _)) (balloc _ _)
  go_enter Try.func27, Try.ntmps27
  go_wp2
  obtain ⟨_, k2, _⟩ := two_blocks (w := w) (o1 := .cells #[.int .i64 u, .int .i64 d, .int .i64 t] 35) (o2 := .cells #[.int .i64 u, .int .i64 d, .int .i64 t] 25) (o3 := .cells #[.int .i64 u, .int .i64 d, .int .i64 t] 25)
  have b0 := Go.Joins.cell_of_block k2 0
  have b1 := Go.Joins.cell_of_block k2 1
  have b2 := Go.Joins.cell_of_block k2 2
  refine bodyPost_ret (v := .agg #[.int .i64 u, .int .i64 d, .int .i64 t]) (by simp [results, Try.results27, go_sem, b0, b1, b2]) rfl ⟨rfl, hW⟩

set_option maxHeartbeats 800000 in
theorem walk7 (m : MotorV) (w : World) : Calls Try.prog 7 #[m.val] w fun e w' => e = .returned (.bool true) ∧ Below w.heap.size w w' := by
  obtain ⟨u, d, t⟩ := m
  unfold MotorV.val
  go_enter Try.func7, Try.ntmps7
  go_wp2_with fail
  refine (c27 ⟨u, d, t⟩ _).mono ?_
  rintro e w1 ⟨rfl, hb⟩
  have HB := btrans (balloc _ _) hb
  have X := Bx3.mk hb
  clear hb
  go_wp2_with fail
  refine (c26 _ _).mono ?_
  rintro e w2 ⟨rfl, hb⟩
  have HB2 := btrans HB hb
  have X2 := X.below hb
  clear HB X hb
  obtain ⟨b0, b1, b2⟩ := id X2
  go_wp2_with fail
  refine (c27 ⟨u, d, t⟩ _).mono ?_
  rintro e w3 ⟨rfl, hb⟩
  have HB3 := btrans HB2 hb
  clear HB2 X2 hb b0 b1 b2
  go_wp2_with fail
  refine (c28 _ _).mono ?_
  rintro e w4 ⟨rfl, hb⟩
  have HB4 := btrans HB3 hb
  clear HB3 hb
  go_wp2
  go_ret
  exact ⟨rfl, HB4⟩
end Go.Proofs.Ytnhcmjfmfgoakaa
