/- Cars and locomotives. -/
import Derived.Test.YtcadgafenbmihabA
namespace Go.Proofs.Ytcadgafenbmihab
open Go.RowKit Fl

attribute [local go_sem] run_store_float

abbrev CarV := Fl.Car
abbrev LocoV := Fl.Loco
def CarV.val (c : CarV) : Value := .agg #[.float .f64 c.m, .float .f64 c.a, .float .f64 c.b, .float .f64 c.c]
def LocoV.val (l : LocoV) : Value := .agg #[.float .f64 l.p, .float .f64 l.g]
/-- An operation on floats, as the walk takes it. -/
theorem fop {op : BinOp} {x y r : Nat} (h : floatBits op .f64 x y = some r) : ∀ t w, (binOp op t (.float .f64 x) (.float .f64 y)).run Try.prog w = .ok (.float .f64 r) w :=
  fun t w => run_float_arith w op t .f64 x y r h
theorem two_blocks {w : World} {o1 o2 o3 : Obj} : (((w.alloc o1).alloc o2).alloc o3).heap[w.heap.size]? = some o1 ∧ (((w.alloc o1).alloc o2).alloc o3).heap[w.heap.size + 1]? = some o2 ∧ (((w.alloc o1).alloc o2).alloc o3).heap[w.heap.size + 1 + 1]? = some o3 := by
  refine ⟨?_, ?_, ?_⟩
  · show (((w.heap.push o1).push o2).push o3)[w.heap.size]? = _
    simp [Array.getElem?_push]; omega
  · show (((w.heap.push o1).push o2).push o3)[w.heap.size + 1]? = _
    rw [Array.getElem?_push, if_neg (by simp), Array.getElem?_push, if_pos (by simp)]
  · show (((w.heap.push o1).push o2).push o3)[w.heap.size + 1 + 1]? = _
    rw [Array.getElem?_push, if_pos (by simp)]
/-- Boxed structs of floats. -/
def Bx4 (w : World) (b : Nat) (c : CarV) : Prop := w.cell? ⟨b, 0, none⟩ = some (.float .f64 c.m) ∧ w.cell? ⟨b, 1, none⟩ = some (.float .f64 c.a) ∧ w.cell? ⟨b, 2, none⟩ = some (.float .f64 c.b) ∧ w.cell? ⟨b, 3, none⟩ = some (.float .f64 c.c)
theorem Bx4.below {w w1 : World} {b : Nat} {c : CarV} (h : Bx4 w b c) (hb : Below w.heap.size w w1) : Bx4 w1 b c := ⟨ble hb h.1, ble hb h.2.1, ble hb h.2.2.1, ble hb h.2.2.2⟩
theorem Bx4.mk {w w1 : World} {m a b c : Nat} {t : TypeId} (h : Below (w.alloc (.cells #[.float .f64 m, .float .f64 a, .float .f64 b, .float .f64 c] t)).heap.size (w.alloc (.cells #[.float .f64 m, .float .f64 a, .float .f64 b, .float .f64 c] t)) w1) : Bx4 w1 w.heap.size ⟨m, a, b, c⟩ :=
  Bx4.below (w := w.alloc (.cells #[.float .f64 m, .float .f64 a, .float .f64 b, .float .f64 c] t)) ⟨by simp, by simp, by simp, by simp⟩ h
def Bx2 (w : World) (b : Nat) (l : LocoV) : Prop := w.cell? ⟨b, 0, none⟩ = some (.float .f64 l.p) ∧ w.cell? ⟨b, 1, none⟩ = some (.float .f64 l.g)
theorem Bx2.below {w w1 : World} {b : Nat} {l : LocoV} (h : Bx2 w b l) (hb : Below w.heap.size w w1) : Bx2 w1 b l := ⟨ble hb h.1, ble hb h.2⟩
theorem Bx2.mk {w w1 : World} {p g : Nat} {t : TypeId} (h : Below (w.alloc (.cells #[.float .f64 p, .float .f64 g] t)).heap.size (w.alloc (.cells #[.float .f64 p, .float .f64 g] t)) w1) : Bx2 w1 w.heap.size ⟨p, g⟩ :=
  Bx2.below (w := w.alloc (.cells #[.float .f64 p, .float .f64 g] t)) ⟨by simp, by simp⟩ h

set_option maxHeartbeats 800000 in
theorem c17 (q : CarV) (w : World) : Calls Try.prog 30 #[CarV.val q] w fun e w' => e = .returned (.bool (carOk q)) ∧ Below w.heap.size w w' := by
  obtain ⟨m, a, b, c⟩ := q
  unfold CarV.val
  have hW := balloc w (.cells #[.float .f64 m, .float .f64 a, .float .f64 b, .float .f64 c] 38)
  cases h1 : inR m k1 k5000
  · have R : Hid (carOk ⟨m, a, b, c⟩ = false) := by show _ = _; simp only [carOk, h1, Bool.false_and]
    go_enter Try.func30, Try.ntmps30
    go_wp2_with fail
    refine (c15 _ _ _ _).mono ?_
    rintro e w1 ⟨rfl, hw⟩
    subst hw
    rw [h1]
    go_wp2
    go_ret
    exact ⟨ret_bool R.out.symm, hW⟩
  cases h2 : inR a 0 k1000
  · have R : Hid (carOk ⟨m, a, b, c⟩ = false) := by show _ = _; simp only [carOk, h2, Bool.false_and, Bool.and_false]
    go_enter Try.func30, Try.ntmps30
    go_wp2_with fail
    refine (c15 _ _ _ _).mono ?_
    rintro e w1 ⟨rfl, hw⟩
    subst hw
    rw [h1]
    go_wp2_with fail
    refine (c15 _ _ _ _).mono ?_
    rintro e w1 ⟨rfl, hw⟩
    subst hw
    rw [h2]
    go_wp2
    go_ret
    exact ⟨ret_bool R.out.symm, hW⟩
  cases h3 : inR b 0 k100
  · have R : Hid (carOk ⟨m, a, b, c⟩ = false) := by show _ = _; simp only [carOk, h3, Bool.false_and, Bool.and_false]
    go_enter Try.func30, Try.ntmps30
    go_wp2_with fail
    refine (c15 _ _ _ _).mono ?_
    rintro e w1 ⟨rfl, hw⟩
    subst hw
    rw [h1]
    go_wp2_with fail
    refine (c15 _ _ _ _).mono ?_
    rintro e w1 ⟨rfl, hw⟩
    subst hw
    rw [h2]
    go_wp2_with fail
    refine (c15 _ _ _ _).mono ?_
    rintro e w1 ⟨rfl, hw⟩
    subst hw
    rw [h3]
    go_wp2
    go_ret
    exact ⟨ret_bool R.out.symm, hW⟩
  cases h4 : inR c 0 k100
  · have R : Hid (carOk ⟨m, a, b, c⟩ = false) := by show _ = _; simp only [carOk, h4, Bool.and_false]
    go_enter Try.func30, Try.ntmps30
    go_wp2_with fail
    refine (c15 _ _ _ _).mono ?_
    rintro e w1 ⟨rfl, hw⟩
    subst hw
    rw [h1]
    go_wp2_with fail
    refine (c15 _ _ _ _).mono ?_
    rintro e w1 ⟨rfl, hw⟩
    subst hw
    rw [h2]
    go_wp2_with fail
    refine (c15 _ _ _ _).mono ?_
    rintro e w1 ⟨rfl, hw⟩
    subst hw
    rw [h3]
    go_wp2_with fail
    refine (c15 _ _ _ _).mono ?_
    rintro e w1 ⟨rfl, hw⟩
    subst hw
    rw [h4]
    go_wp2
    go_ret
    exact ⟨ret_bool R.out.symm, hW⟩
  have R : Hid (carOk ⟨m, a, b, c⟩ = true) := by show _ = _; simp only [carOk, h1, h2, h3, h4, Bool.true_and]
  go_enter Try.func30, Try.ntmps30
  go_wp2_with fail
  refine (c15 _ _ _ _).mono ?_
  rintro e w1 ⟨rfl, hw⟩
  subst hw
  rw [h1]
  go_wp2_with fail
  refine (c15 _ _ _ _).mono ?_
  rintro e w1 ⟨rfl, hw⟩
  subst hw
  rw [h2]
  go_wp2_with fail
  refine (c15 _ _ _ _).mono ?_
  rintro e w1 ⟨rfl, hw⟩
  subst hw
  rw [h3]
  go_wp2_with fail
  refine (c15 _ _ _ _).mono ?_
  rintro e w1 ⟨rfl, hw⟩
  subst hw
  rw [h4]
  go_wp2
  go_ret
  exact ⟨ret_bool R.out.symm, hW⟩

set_option maxHeartbeats 800000 in
theorem c19 (q : CarV) (w : World) : Calls Try.prog 29 #[CarV.val q] w fun e w' => e = .returned (.bool (carOk q)) ∧ Below w.heap.size w w' := by
  obtain ⟨m, a, b, c⟩ := q
  unfold CarV.val
  have hW := balloc w (.cells #[.float .f64 m, .float .f64 a, .float .f64 b, .float .f64 c] 38)
  cases h1 : inR m k1 k5000
  · have R : Hid (carOk ⟨m, a, b, c⟩ = false) := by show _ = _; simp only [carOk, h1, Bool.false_and]
    go_enter Try.func29, Try.ntmps29
    go_wp2_with fail
    refine (c16 _ _ _ _).mono ?_
    rintro e w1 ⟨rfl, hw⟩
    subst hw
    rw [h1]
    go_wp2
    go_ret
    exact ⟨ret_bool R.out.symm, hW⟩
  cases h2 : inR a 0 k1000
  · have R : Hid (carOk ⟨m, a, b, c⟩ = false) := by show _ = _; simp only [carOk, h2, Bool.false_and, Bool.and_false]
    go_enter Try.func29, Try.ntmps29
    go_wp2_with fail
    refine (c16 _ _ _ _).mono ?_
    rintro e w1 ⟨rfl, hw⟩
    subst hw
    rw [h1]
    go_wp2_with fail
    refine (c16 _ _ _ _).mono ?_
    rintro e w1 ⟨rfl, hw⟩
    subst hw
    rw [h2]
    go_wp2
    go_ret
    exact ⟨ret_bool R.out.symm, hW⟩
  cases h3 : inR b 0 k100
  · have R : Hid (carOk ⟨m, a, b, c⟩ = false) := by show _ = _; simp only [carOk, h3, Bool.false_and, Bool.and_false]
    go_enter Try.func29, Try.ntmps29
    go_wp2_with fail
    refine (c16 _ _ _ _).mono ?_
    rintro e w1 ⟨rfl, hw⟩
    subst hw
    rw [h1]
    go_wp2_with fail
    refine (c16 _ _ _ _).mono ?_
    rintro e w1 ⟨rfl, hw⟩
    subst hw
    rw [h2]
    go_wp2_with fail
    refine (c16 _ _ _ _).mono ?_
    rintro e w1 ⟨rfl, hw⟩
    subst hw
    rw [h3]
    go_wp2
    go_ret
    exact ⟨ret_bool R.out.symm, hW⟩
  cases h4 : inR c 0 k100
  · have R : Hid (carOk ⟨m, a, b, c⟩ = false) := by show _ = _; simp only [carOk, h4, Bool.and_false]
    go_enter Try.func29, Try.ntmps29
    go_wp2_with fail
    refine (c16 _ _ _ _).mono ?_
    rintro e w1 ⟨rfl, hw⟩
    subst hw
    rw [h1]
    go_wp2_with fail
    refine (c16 _ _ _ _).mono ?_
    rintro e w1 ⟨rfl, hw⟩
    subst hw
    rw [h2]
    go_wp2_with fail
    refine (c16 _ _ _ _).mono ?_
    rintro e w1 ⟨rfl, hw⟩
    subst hw
    rw [h3]
    go_wp2_with fail
    refine (c16 _ _ _ _).mono ?_
    rintro e w1 ⟨rfl, hw⟩
    subst hw
    rw [h4]
    go_wp2
    go_ret
    exact ⟨ret_bool R.out.symm, hW⟩
  have R : Hid (carOk ⟨m, a, b, c⟩ = true) := by show _ = _; simp only [carOk, h1, h2, h3, h4, Bool.true_and]
  go_enter Try.func29, Try.ntmps29
  go_wp2_with fail
  refine (c16 _ _ _ _).mono ?_
  rintro e w1 ⟨rfl, hw⟩
  subst hw
  rw [h1]
  go_wp2_with fail
  refine (c16 _ _ _ _).mono ?_
  rintro e w1 ⟨rfl, hw⟩
  subst hw
  rw [h2]
  go_wp2_with fail
  refine (c16 _ _ _ _).mono ?_
  rintro e w1 ⟨rfl, hw⟩
  subst hw
  rw [h3]
  go_wp2_with fail
  refine (c16 _ _ _ _).mono ?_
  rintro e w1 ⟨rfl, hw⟩
  subst hw
  rw [h4]
  go_wp2
  go_ret
  exact ⟨ret_bool R.out.symm, hW⟩

set_option maxHeartbeats 800000 in
theorem c20 (q : LocoV) (w : World) : Calls Try.prog 20 #[LocoV.val q] w fun e w' => e = .returned (.bool (locoOk q)) ∧ Below w.heap.size w w' := by
  obtain ⟨p, g⟩ := q
  unfold LocoV.val
  have hW := balloc w (.cells #[.float .f64 p, .float .f64 g] 26)
  cases h1 : inR p k1 k100000
  · have R : Hid (locoOk ⟨p, g⟩ = false) := by show _ = _; simp only [locoOk, h1, Bool.false_and]
    go_enter Try.func20, Try.ntmps20
    go_wp2_with fail
    refine (c15 _ _ _ _).mono ?_
    rintro e w1 ⟨rfl, hw⟩
    subst hw
    rw [h1]
    go_wp2
    go_ret
    exact ⟨ret_bool R.out.symm, hW⟩
  cases h2 : inR g k1 k10000
  · have R : Hid (locoOk ⟨p, g⟩ = false) := by show _ = _; simp only [locoOk, h2, Bool.and_false]
    go_enter Try.func20, Try.ntmps20
    go_wp2_with fail
    refine (c15 _ _ _ _).mono ?_
    rintro e w1 ⟨rfl, hw⟩
    subst hw
    rw [h1]
    go_wp2_with fail
    refine (c15 _ _ _ _).mono ?_
    rintro e w1 ⟨rfl, hw⟩
    subst hw
    rw [h2]
    go_wp2
    go_ret
    exact ⟨ret_bool R.out.symm, hW⟩
  have R : Hid (locoOk ⟨p, g⟩ = true) := by show _ = _; simp only [locoOk, h1, h2, Bool.true_and]
  go_enter Try.func20, Try.ntmps20
  go_wp2_with fail
  refine (c15 _ _ _ _).mono ?_
  rintro e w1 ⟨rfl, hw⟩
  subst hw
  rw [h1]
  go_wp2_with fail
  refine (c15 _ _ _ _).mono ?_
  rintro e w1 ⟨rfl, hw⟩
  subst hw
  rw [h2]
  go_wp2
  go_ret
  exact ⟨ret_bool R.out.symm, hW⟩

set_option maxHeartbeats 800000 in
theorem c22 (q : LocoV) (w : World) : Calls Try.prog 14 #[LocoV.val q] w fun e w' => e = .returned (.bool (locoOk q)) ∧ Below w.heap.size w w' := by
  obtain ⟨p, g⟩ := q
  unfold LocoV.val
  have hW := balloc w (.cells #[.float .f64 p, .float .f64 g] 26)
  cases h1 : inR p k1 k100000
  · have R : Hid (locoOk ⟨p, g⟩ = false) := by show _ = _; simp only [locoOk, h1, Bool.false_and]
    go_enter Try.func14, Try.ntmps14
    go_wp2_with fail
    refine (c16 _ _ _ _).mono ?_
    rintro e w1 ⟨rfl, hw⟩
    subst hw
    rw [h1]
    go_wp2
    go_ret
    exact ⟨ret_bool R.out.symm, hW⟩
  cases h2 : inR g k1 k10000
  · have R : Hid (locoOk ⟨p, g⟩ = false) := by show _ = _; simp only [locoOk, h2, Bool.and_false]
    go_enter Try.func14, Try.ntmps14
    go_wp2_with fail
    refine (c16 _ _ _ _).mono ?_
    rintro e w1 ⟨rfl, hw⟩
    subst hw
    rw [h1]
    go_wp2_with fail
    refine (c16 _ _ _ _).mono ?_
    rintro e w1 ⟨rfl, hw⟩
    subst hw
    rw [h2]
    go_wp2
    go_ret
    exact ⟨ret_bool R.out.symm, hW⟩
  have R : Hid (locoOk ⟨p, g⟩ = true) := by show _ = _; simp only [locoOk, h1, h2, Bool.true_and]
  go_enter Try.func14, Try.ntmps14
  go_wp2_with fail
  refine (c16 _ _ _ _).mono ?_
  rintro e w1 ⟨rfl, hw⟩
  subst hw
  rw [h1]
  go_wp2_with fail
  refine (c16 _ _ _ _).mono ?_
  rintro e w1 ⟨rfl, hw⟩
  subst hw
  rw [h2]
  go_wp2
  go_ret
  exact ⟨ret_bool R.out.symm, hW⟩

set_option maxHeartbeats 400000 in
theorem c52 (v : Nat) (w : World) : Calls Try.prog 32 #[.float .f64 v] w fun e w' => e = .returned (.bool (spd v)) ∧ w' = w := by
  unfold spd
  go_enter Try.func32, Try.ntmps32
  go_wp2_with fail
  refine (c15 _ _ _ _).mono ?_
  rintro e w1 ⟨rfl, hw⟩
  subst hw
  go_wp2
  go_ret
  exact ⟨rfl, rfl⟩

set_option maxHeartbeats 400000 in
theorem c53 (v : Nat) (w : World) : Calls Try.prog 17 #[.float .f64 v] w fun e w' => e = .returned (.bool (spd v)) ∧ w' = w := by
  unfold spd
  go_enter Try.func17, Try.ntmps17
  go_wp2_with fail
  refine (c16 _ _ _ _).mono ?_
  rintro e w1 ⟨rfl, hw⟩
  subst hw
  go_wp2
  go_ret
  exact ⟨rfl, rfl⟩

set_option maxHeartbeats 400000 in
theorem c58 (v : Nat) (w : World) : Calls Try.prog 16 #[.float .f64 v] w fun e w' => e = .returned (.bool (slp v)) ∧ w' = w := by
  unfold slp
  go_enter Try.func16, Try.ntmps16
  go_wp2_with fail
  refine (c16 _ _ _ _).mono ?_
  rintro e w1 ⟨rfl, hw⟩
  subst hw
  go_wp2
  go_ret
  exact ⟨rfl, rfl⟩

set_option maxHeartbeats 400000 in
theorem c54 (x y r : Nat) (w : World) (h : floatBits .mul .f64 x y = some r) : Calls Try.prog 19 #[.float .f64 x, .float .f64 y] w fun e w' => e = .returned (.float .f64 r) ∧ w' = w := by
  have hop := fop h
  clear h
  go_enter Try.func19, Try.ntmps19
  go_wp2
  go_ret
  exact ⟨rfl, rfl⟩

end Go.Proofs.Ytcadgafenbmihab
