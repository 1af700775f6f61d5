/- Resistance, effort. -/
import Derived.Test.YtcadgafenbmihabB
namespace Go.Proofs.Ytcadgafenbmihab
open Go.RowKit Fl

attribute [local go_sem] run_store_float

theorem self_order (x : Nat) : FloatKind.f64.format.order x x = none ∨ FloatKind.f64.format.order x x = some .eq := by
  show Ieee.double.order x x = none ∨ Ieee.double.order x x = some .eq
  by_cases h1 : rg x < 2047 * 2 ^ 52
  · right
    rw [order_eq h1 h1]
    show some (compareOfLessAndEq (fv x) (fv x)) = _
    simp [compareOfLessAndEq]
  · by_cases h2 : rg x = 2047 * 2 ^ 52
    · right
      unfold Ieee.Format.order
      rw [read_inf h2]
      cases sg x <;> rfl
    · left
      exact order_nl (by omega)

theorem zero_div {x : Nat} (h : FloatKind.f64.format.order x 0 = some .eq) : ∃ r, floatBits .quo .f64 k1 x = some r := by
  have h : Ieee.double.order x 0 = some .eq := h
  have hx : fin x := by
    apply Nat.lt_of_not_le
    intro hge
    by_cases h2 : rg x = 2047 * 2 ^ 52
    · rw [order_if h2 fin0] at h
      cases hs : sg x <;> simp [hs] at h
    · rw [order_nl (by omega)] at h
      cases h
  have h0 : fv x = 0 := by
    have := feq_eq hx fin0
    unfold feq at this
    rw [ford_eq, h, fv0] at this
    simpa using this.symm
  have hr : mg (rg x) = 0 := by rw [← fv_abs, h0]; rfl
  obtain ⟨m, k, e, f⟩ := read_fin hx
  obtain ⟨n, j, g, i⟩ := read_fin fin1
  have hm : m = 0 := by
    rw [hr] at f
    exact (Nat.mul_eq_zero.1 f).resolve_right (Nat.ne_of_gt (Nat.two_pow_pos k))
  have hn : n ≠ 0 := by
    rintro rfl
    rw [Nat.zero_mul] at i
    have h9 := fv_abs k1
    rw [fv1, ← i] at h9
    have := one_pos
    omega
  show ∃ r, Ieee.double.div k1 x = some r
  unfold Ieee.Format.div
  rw [g, e]
  unfold Ieee.Datum.quotient
  simp only [hm, if_true, hn, if_false, Option.map_some]
  exact ⟨_, rfl⟩

set_option maxHeartbeats 3200000 in
theorem c23 (q : CarV) (v : Nat) (w : World) : Calls Try.prog 33 #[CarV.val q, .float .f64 v] w fun e w' => e = .returned (.float .f64 (resist q v)) ∧ Below w.heap.size w w' := by
  have R : Hid (resist q v = if (carOk q && spd v) = true then fadd (fadd q.a (fmul q.b v)) (fmul (fmul q.c v) v) else 0) := rfl
  have RV : carOk q = true → spd v = true → _ := fun h1 h2 => resist_v (c := q) (v := v) h1 h2
  generalize resist q v = r at *
  obtain ⟨m, a, b, c⟩ := q
  unfold CarV.val
  have hW := balloc w (.cells #[.float .f64 m, .float .f64 a, .float .f64 b, .float .f64 c] 38)
  cases h1 : carOk ⟨m, a, b, c⟩
  · rw [h1] at R
    go_enter Try.func33, Try.ntmps33
    go_wp2_with fail
    refine (c17 ⟨m, a, b, c⟩ _).mono ?_
    rintro e w1 ⟨rfl, hb⟩
    rw [h1]
    have HB := btrans hW hb
    clear hW hb
    go_wp2
    go_ret
    exact ⟨ret_fl R.out.symm, HB⟩
  cases h2 : spd v
  · rw [h1, h2] at R
    go_enter Try.func33, Try.ntmps33
    go_wp2_with fail
    refine (c17 ⟨m, a, b, c⟩ _).mono ?_
    rintro e w1 ⟨rfl, hb⟩
    rw [h1]
    have HB := btrans hW hb
    clear hW hb
    go_wp2_with fail
    refine (c52 _ _).mono ?_
    rintro e w2 ⟨rfl, hw⟩
    subst hw
    rw [h2]
    go_wp2
    go_ret
    exact ⟨ret_fl R.out.symm, HB⟩
  rw [h1, h2] at R
  obtain ⟨v1, v2, v3, v4, v5, -⟩ := RV h1 h2
  have R : Hid (r = fadd (fadd a (fmul b v)) (fmul (fmul c v) v)) := R
  dsimp only at v1 v2 v3 v4 v5
  generalize fadd (fadd a (fmul b v)) (fmul (fmul c v) v) = s5 at *
  generalize fadd a (fmul b v) = s4 at *
  generalize fmul (fmul c v) v = s3 at *
  generalize fmul c v = s2 at *
  generalize fmul b v = s1 at *
  have o4 := fop v4
  have o5 := fop v5
  have o1 := fop v1
  have o2 := fop v2
  have o3 := fop v3
  clear v1 v2 v3
  clear v4 v5 RV
  go_enter Try.func33, Try.ntmps33
  go_wp2_with fail
  refine (c17 ⟨m, a, b, c⟩ _).mono ?_
  rintro e w1 ⟨rfl, hb⟩
  rw [h1]
  have HB := btrans hW hb
  have X := Bx4.mk hb
  clear hW hb
  go_wp2_with fail
  refine (c52 _ _).mono ?_
  rintro e w2 ⟨rfl, hw⟩
  subst hw
  rw [h2]
  obtain ⟨b0, b1, b2, b3⟩ := X
  dsimp only at b0 b1 b2 b3
  go_wp2
  go_ret
  exact ⟨ret_fl R.out.symm, HB⟩

set_option maxHeartbeats 3200000 in
theorem c24 (q : CarV) (v : Nat) (w : World) : Calls Try.prog 18 #[CarV.val q, .float .f64 v] w fun e w' => e = .returned (.float .f64 (resist q v)) ∧ Below w.heap.size w w' := by
  have R : Hid (resist q v = if (carOk q && spd v) = true then fadd (fadd q.a (fmul q.b v)) (fmul (fmul q.c v) v) else 0) := rfl
  have RV : carOk q = true → spd v = true → _ := fun h1 h2 => resist_v (c := q) (v := v) h1 h2
  generalize resist q v = r at *
  obtain ⟨m, a, b, c⟩ := q
  unfold CarV.val
  have hW := balloc w (.cells #[.float .f64 m, .float .f64 a, .float .f64 b, .float .f64 c] 38)
  cases h1 : carOk ⟨m, a, b, c⟩
  · rw [h1] at R
    go_enter Try.func18, Try.ntmps18
    go_wp2_with fail
    refine (c19 ⟨m, a, b, c⟩ _).mono ?_
    rintro e w1 ⟨rfl, hb⟩
    rw [h1]
    have HB := btrans hW hb
    clear hW hb
    go_wp2
    go_ret
    exact ⟨ret_fl R.out.symm, HB⟩
  cases h2 : spd v
  · rw [h1, h2] at R
    go_enter Try.func18, Try.ntmps18
    go_wp2_with fail
    refine (c19 ⟨m, a, b, c⟩ _).mono ?_
    rintro e w1 ⟨rfl, hb⟩
    rw [h1]
    have HB := btrans hW hb
    clear hW hb
    go_wp2_with fail
    refine (c53 _ _).mono ?_
    rintro e w2 ⟨rfl, hw⟩
    subst hw
    rw [h2]
    go_wp2
    go_ret
    exact ⟨ret_fl R.out.symm, HB⟩
  rw [h1, h2] at R
  obtain ⟨v1, v2, v3, v4, v5, -⟩ := RV h1 h2
  have R : Hid (r = fadd (fadd a (fmul b v)) (fmul (fmul c v) v)) := R
  dsimp only at v1 v2 v3 v4 v5
  generalize fadd (fadd a (fmul b v)) (fmul (fmul c v) v) = s5 at *
  generalize fadd a (fmul b v) = s4 at *
  generalize fmul (fmul c v) v = s3 at *
  generalize fmul c v = s2 at *
  generalize fmul b v = s1 at *
  have o4 := fop v4
  have o5 := fop v5
  clear v4 v5 RV
  go_enter Try.func18, Try.ntmps18
  go_wp2_with fail
  refine (c19 ⟨m, a, b, c⟩ _).mono ?_
  rintro e w1 ⟨rfl, hb⟩
  rw [h1]
  have HB := btrans hW hb
  have X := Bx4.mk hb
  clear hW hb
  go_wp2_with fail
  refine (c53 _ _).mono ?_
  rintro e w2 ⟨rfl, hw⟩
  subst hw
  rw [h2]
  obtain ⟨b0, b1, b2, b3⟩ := X
  dsimp only at b0 b1 b2 b3
  go_wp2_with fail
  go_quiet (first | (go_at_call 19; first | exact Calls.quiet_of_same (c54 _ _ _ _ v1) | exact Calls.quiet_of_same (c54 _ _ _ _ v2) | exact Calls.quiet_of_same (c54 _ _ _ _ v3)))
  go_wp2
  go_ret
  exact ⟨ret_fl R.out.symm, bdraw HB _⟩

set_option maxHeartbeats 3200000 in
theorem c26 (q : LocoV) (v : Nat) (w : World) : Calls Try.prog 23 #[LocoV.val q, .float .f64 v] w fun e w' => e = .returned (.float .f64 (effort q v)) ∧ Below w.heap.size w w' := by
  have R : Hid (effort q v = if (locoOk q && spd v) = true then (if (feq v 0 || fgt (fdiv q.p v) q.g) = true then q.g else fdiv q.p v) else 0) := rfl
  have RV : locoOk q = true → spd v = true → feq v 0 = false → _ := fun h1 h2 h3 => (effort_v (l := q) (v := v) h1 h2 h3).1
  generalize effort q v = r at *
  obtain ⟨p, g⟩ := q
  unfold LocoV.val
  have hW := balloc w (.cells #[.float .f64 p, .float .f64 g] 26)
  cases h1 : locoOk ⟨p, g⟩
  · rw [h1] at R
    go_enter Try.func23, Try.ntmps23
    go_wp2_with fail
    refine (c20 ⟨p, g⟩ _).mono ?_
    rintro e w1 ⟨rfl, hb⟩
    rw [h1]
    have HB := btrans hW hb
    have X := Bx2.mk hb
    clear hW hb
    obtain ⟨b0, b1⟩ := X
    dsimp only at b0 b1
    go_wp2
    go_ret
    exact ⟨ret_fl R.out.symm, HB⟩
  cases h2 : spd v
  · rw [h1, h2] at R
    go_enter Try.func23, Try.ntmps23
    go_wp2_with fail
    refine (c20 ⟨p, g⟩ _).mono ?_
    rintro e w1 ⟨rfl, hb⟩
    rw [h1]
    have HB := btrans hW hb
    have X := Bx2.mk hb
    clear hW hb
    obtain ⟨b0, b1⟩ := X
    dsimp only at b0 b1
    go_wp2_with fail
    refine (c52 _ _).mono ?_
    rintro e w2 ⟨rfl, hw⟩
    subst hw
    rw [h2]
    go_wp2
    go_ret
    exact ⟨ret_fl R.out.symm, HB⟩
  rw [h1, h2] at R
  have R0 : Hid (r = if (feq v 0 || fgt (fdiv p v) g) = true then g else fdiv p v) := R
  clear R
  by_cases h3 : FloatKind.f64.format.order v 0 = some .eq
  · have R : Hid (r = g) := by
      have h4 : feq v 0 = true := by unfold feq ford; rw [h3]; rfl
      rw [h4] at R0; exact R0
    clear RV R0
    go_enter Try.func23, Try.ntmps23
    go_wp2_with fail
    refine (c20 ⟨p, g⟩ _).mono ?_
    rintro e w1 ⟨rfl, hb⟩
    rw [h1]
    have HB := btrans hW hb
    have X := Bx2.mk hb
    clear hW hb
    obtain ⟨b0, b1⟩ := X
    dsimp only at b0 b1
    go_wp2_with fail
    refine (c52 _ _).mono ?_
    rintro e w2 ⟨rfl, hw⟩
    subst hw
    rw [h2]
    go_wp2
    go_ret
    exact ⟨ret_fl R.out.symm, HB⟩
  have h5 : (FloatKind.f64.format.order v 0 == some .eq) = false := by simpa using h3
  have v1 := RV h1 h2 h5
  have R1 : Hid (r = if fgt (fdiv p v) g = true then g else fdiv p v) := by
    have h6 : feq v 0 = false := h5
    rw [h6] at R0; exact R0
  clear R0
  dsimp only at v1
  generalize fdiv p v = s1 at *
  have o1 := fop v1
  clear v1 RV h3
  by_cases h3 : FloatKind.f64.format.order s1 g = some .gt
  · have R : Hid (r = g) := by
      have h4 : fgt s1 g = true := by unfold fgt ford; rw [h3]; rfl
      rw [h4] at R1; exact R1
    clear R1
    go_enter Try.func23, Try.ntmps23
    go_wp2_with fail
    refine (c20 ⟨p, g⟩ _).mono ?_
    rintro e w1 ⟨rfl, hb⟩
    rw [h1]
    have HB := btrans hW hb
    have X := Bx2.mk hb
    clear hW hb
    obtain ⟨b0, b1⟩ := X
    dsimp only at b0 b1
    go_wp2_with fail
    refine (c52 _ _).mono ?_
    rintro e w2 ⟨rfl, hw⟩
    subst hw
    rw [h2]
    go_wp2
    go_ret
    exact ⟨ret_fl R.out.symm, HB⟩
  have h6 : (FloatKind.f64.format.order s1 g == some .gt) = false := by simpa using h3
  have R : Hid (r = s1) := by
    have h7 : fgt s1 g = false := h6
    rw [h7] at R1; exact R1
  clear R1
  clear h3
  go_enter Try.func23, Try.ntmps23
  go_wp2_with fail
  refine (c20 ⟨p, g⟩ _).mono ?_
  rintro e w1 ⟨rfl, hb⟩
  rw [h1]
  have HB := btrans hW hb
  have X := Bx2.mk hb
  clear hW hb
  obtain ⟨b0, b1⟩ := X
  dsimp only at b0 b1
  go_wp2_with fail
  refine (c52 _ _).mono ?_
  rintro e w2 ⟨rfl, hw⟩
  subst hw
  rw [h2]
  go_wp2
  go_ret
  exact ⟨ret_fl R.out.symm, HB⟩

set_option maxHeartbeats 3200000 in
theorem c27 (q : LocoV) (v : Nat) (w : World) : Calls Try.prog 8 #[LocoV.val q, .float .f64 v] w fun e w' => e = .returned (.float .f64 (effort q v)) ∧ Below w.heap.size w w' := by
  have R : Hid (effort q v = if (locoOk q && spd v) = true then (if (feq v 0 || fgt (fdiv q.p v) q.g) = true then q.g else fdiv q.p v) else 0) := rfl
  have RV : locoOk q = true → spd v = true → feq v 0 = false → _ := fun h1 h2 h3 => (effort_v (l := q) (v := v) h1 h2 h3).1
  generalize effort q v = r at *
  obtain ⟨p, g⟩ := q
  unfold LocoV.val
  have hW := balloc w (.cells #[.float .f64 p, .float .f64 g] 26)
  cases h1 : locoOk ⟨p, g⟩
  · rw [h1] at R
    go_enter Try.func8, Try.ntmps8
    go_wp2_with fail
    refine (c22 ⟨p, g⟩ _).mono ?_
    rintro e w1 ⟨rfl, hb⟩
    rw [h1]
    have HB := btrans hW hb
    have X := Bx2.mk hb
    clear hW hb
    obtain ⟨b0, b1⟩ := X
    dsimp only at b0 b1
    go_wp2
    go_ret
    exact ⟨ret_fl R.out.symm, HB⟩
  cases h2 : spd v
  · rw [h1, h2] at R
    go_enter Try.func8, Try.ntmps8
    go_wp2_with fail
    refine (c22 ⟨p, g⟩ _).mono ?_
    rintro e w1 ⟨rfl, hb⟩
    rw [h1]
    have HB := btrans hW hb
    have X := Bx2.mk hb
    clear hW hb
    obtain ⟨b0, b1⟩ := X
    dsimp only at b0 b1
    go_wp2_with fail
    refine (c53 _ _).mono ?_
    rintro e w2 ⟨rfl, hw⟩
    subst hw
    rw [h2]
    go_wp2
    go_ret
    exact ⟨ret_fl R.out.symm, HB⟩
  rw [h1, h2] at R
  have R0 : Hid (r = if (feq v 0 || fgt (fdiv p v) g) = true then g else fdiv p v) := R
  clear R
  by_cases h3 : FloatKind.f64.format.order v 0 = some .eq
  · have R : Hid (r = g) := by
      have h4 : feq v 0 = true := by unfold feq ford; rw [h3]; rfl
      rw [h4] at R0; exact R0
    clear RV R0
    go_enter Try.func8, Try.ntmps8
    go_wp2_with fail
    refine (c22 ⟨p, g⟩ _).mono ?_
    rintro e w1 ⟨rfl, hb⟩
    rw [h1]
    have HB := btrans hW hb
    have X := Bx2.mk hb
    clear hW hb
    obtain ⟨b0, b1⟩ := X
    dsimp only at b0 b1
    go_wp2_with fail
    refine (c53 _ _).mono ?_
    rintro e w2 ⟨rfl, hw⟩
    subst hw
    rw [h2]
    go_wp2
    go_ret
    exact ⟨ret_fl R.out.symm, HB⟩
  have h5 : (FloatKind.f64.format.order v 0 == some .eq) = false := by simpa using h3
  have v1 := RV h1 h2 h5
  have R1 : Hid (r = if fgt (fdiv p v) g = true then g else fdiv p v) := by
    have h6 : feq v 0 = false := h5
    rw [h6] at R0; exact R0
  clear R0
  dsimp only at v1
  generalize fdiv p v = s1 at *
  have o1 := fop v1
  clear v1 RV h3
  by_cases h3 : FloatKind.f64.format.order s1 g = some .gt
  · have R : Hid (r = g) := by
      have h4 : fgt s1 g = true := by unfold fgt ford; rw [h3]; rfl
      rw [h4] at R1; exact R1
    clear R1
    go_enter Try.func8, Try.ntmps8
    go_wp2_with fail
    refine (c22 ⟨p, g⟩ _).mono ?_
    rintro e w1 ⟨rfl, hb⟩
    rw [h1]
    have HB := btrans hW hb
    have X := Bx2.mk hb
    clear hW hb
    obtain ⟨b0, b1⟩ := X
    dsimp only at b0 b1
    go_wp2_with fail
    refine (c53 _ _).mono ?_
    rintro e w2 ⟨rfl, hw⟩
    subst hw
    rw [h2]
    go_wp2
    go_ret
    exact ⟨ret_fl R.out.symm, HB⟩
  have h6 : (FloatKind.f64.format.order s1 g == some .gt) = false := by simpa using h3
  have R : Hid (r = s1) := by
    have h7 : fgt s1 g = false := h6
    rw [h7] at R1; exact R1
  clear R1
  clear h3
  go_enter Try.func8, Try.ntmps8
  go_wp2_with fail
  refine (c22 ⟨p, g⟩ _).mono ?_
  rintro e w1 ⟨rfl, hb⟩
  rw [h1]
  have HB := btrans hW hb
  have X := Bx2.mk hb
  clear hW hb
  obtain ⟨b0, b1⟩ := X
  dsimp only at b0 b1
  go_wp2_with fail
  refine (c53 _ _).mono ?_
  rintro e w2 ⟨rfl, hw⟩
  subst hw
  rw [h2]
  go_wp2
  go_ret
  exact ⟨ret_fl R.out.symm, HB⟩

end Go.Proofs.Ytcadgafenbmihab
