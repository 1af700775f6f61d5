/- Products, sizes, quotients, sums of program and model. -/
import Derived.Test.YtapnidhokpkmdaaZA
namespace Go.Proofs.Ytapnidhokpkmdaa
open Go.RowKit Fl
attribute [local go_sem] run_store_float

set_option maxHeartbeats 1600000 in
theorem cProduct (x y : ZV) (w : World) : Calls Try.prog 62 #[x.cx, y.cx] w fun e w' => ∃ z : ZV, ∃ m, e = .returned z.cx ∧ z.c = zmul x.c y.c ∧ w' = w.drewN m := by
  obtain ⟨a, b⟩ := x
  obtain ⟨c, d⟩ := y
  unfold ZV.cx
  have M := fsub_run
  have N := fadd_run
  go_enter Try.func62, Try.ntmps62
  go_wp2_with fail
  refine (cTimes a c _).mono ?_
  rintro e w1 ⟨r1, m1, rfl, h1, hw1⟩
  subst w1
  go_wp2_with fail
  refine (cTimes b d _).mono ?_
  rintro e w2 ⟨r2, m2, rfl, h2, hw2⟩
  subst w2
  go_wp2_with fail
  refine (cTimes a d _).mono ?_
  rintro e w3 ⟨r3, m3, rfl, h3, hw3⟩
  subst w3
  go_wp2_with fail
  refine (cTimes b c _).mono ?_
  rintro e w4 ⟨r4, m4, rfl, h4, hw4⟩
  subst w4
  go_wp2
  go_ret
  refine ⟨⟨fr _ _ _ _, fr _ _ _ _⟩, _, rfl, ?_, rfl⟩
  simp only [ZV.c, zmul, cl_fr, h1, h2, h3, h4]

set_option maxHeartbeats 800000 in
theorem cSize (x : ZV) (w : World) : Calls Try.prog 63 #[x.cx] w fun e w' => ∃ r m, e = .returned (.float .f64 r) ∧ cl r = zsize x.c ∧ w' = w.drewN m := by
  obtain ⟨a, b⟩ := x
  unfold ZV.cx
  have N := fadd_run
  go_enter Try.func63, Try.ntmps63
  go_wp2_with fail
  refine (cTimes a a _).mono ?_
  rintro e w1 ⟨r1, m1, rfl, h1, hw1⟩
  subst w1
  go_wp2_with fail
  refine (cTimes b b _).mono ?_
  rintro e w2 ⟨r2, m2, rfl, h2, hw2⟩
  subst w2
  go_wp2
  go_ret
  refine ⟨_, _, rfl, ?_, rfl⟩
  simp only [ZV.c, zsize, cl_fr, h1, h2]

set_option maxHeartbeats 1600000 in
theorem cQuotient (x y : ZV) (w : World) : Calls Try.prog 68 #[x.cx, y.cx] w fun e w' => ∃ z : ZV, ∃ m, e = .returned z.cx ∧ z.c = zdiv x.c y.c ∧ w' = w.drewN m := by
  obtain ⟨a, b⟩ := x
  obtain ⟨c, d⟩ := y
  unfold ZV.cx
  have M := fsub_run
  have N := fadd_run
  have Q := fquo_run
  go_enter Try.func68, Try.ntmps68
  go_wp2_with fail
  refine (cTimes a c _).mono ?_
  rintro e w1 ⟨r1, m1, rfl, h1, hw1⟩
  subst w1
  go_wp2_with fail
  refine (cTimes b d _).mono ?_
  rintro e w2 ⟨r2, m2, rfl, h2, hw2⟩
  subst w2
  go_wp2_with fail
  refine (cTimes b c _).mono ?_
  rintro e w3 ⟨r3, m3, rfl, h3, hw3⟩
  subst w3
  go_wp2_with fail
  refine (cTimes a d _).mono ?_
  rintro e w4 ⟨r4, m4, rfl, h4, hw4⟩
  subst w4
  go_wp2_with fail
  refine (cSize ⟨c, d⟩ _).mono ?_
  rintro e w5 ⟨r5, m5, rfl, h5, hw5⟩
  subst w5
  go_wp2_with fail
  refine (cSize ⟨c, d⟩ _).mono ?_
  rintro e w6 ⟨r6, m6, rfl, h6, hw6⟩
  subst w6
  go_wp2
  go_ret
  refine ⟨⟨fr _ _ _ _, fr _ _ _ _⟩, _, rfl, ?_, rfl⟩
  simp only [ZV.c, zdiv, cl_fr, h1, h2, h3, h4, h5, h6]

set_option maxHeartbeats 1600000 in
theorem cZAddS (x y : ZV) (w : World) : Calls Try.prog 33 #[x.val, y.val] w fun e w' => ∃ z : ZV, e = .returned z.val ∧ z.c = zadd x.c y.c ∧ Below w.heap.size w w' := by
  obtain ⟨a, b⟩ := x
  obtain ⟨c, d⟩ := y
  unfold ZV.val
  have M := fsub_run
  have N := fadd_run
  have Q := fmul_run
  have hW := btrans (btrans (balloc w (.cells #[.float .f64 a, .float .f64 b] 26)) (balloc _ (.cells #[.float .f64 c, .float .f64 d] 26))) (balloc _ (.cells #[.float .f64 0, .float .f64 0] 26))
  go_enter Try.func33, Try.ntmps33
  go_wp2
  generalize hp : fr .add a c _ = p
  generalize hq : fr .add b d _ = q
  refine bodyPost_ret (v := .agg #[.float .f64 p, .float .f64 q]) (by simp [results, Try.results33, go_sem]) rfl ⟨⟨p, q⟩, rfl, ?_, ?_⟩
  · rw [← hp, ← hq]; simp only [ZV.c, zadd, cl_fr]
  · exact below_set (by omega) (below_set (by omega) (bdraw hW _))

set_option maxHeartbeats 1600000 in
theorem cZMulS (x y : ZV) (w : World) : Calls Try.prog 36 #[x.val, y.val] w fun e w' => ∃ z : ZV, e = .returned z.val ∧ z.c = zmul x.c y.c ∧ Below w.heap.size w w' := by
  obtain ⟨a, b⟩ := x
  obtain ⟨c, d⟩ := y
  unfold ZV.val
  have M := fsub_run
  have N := fadd_run
  have Q := fmul_run
  have hW := btrans (btrans (balloc w (.cells #[.float .f64 a, .float .f64 b] 26)) (balloc _ (.cells #[.float .f64 c, .float .f64 d] 26))) (balloc _ (.cells #[.float .f64 0, .float .f64 0] 26))
  go_enter Try.func36, Try.ntmps36
  go_wp2
  generalize hp : fr .sub _ _ _ = p
  generalize hq : fr .add _ _ _ = q
  refine bodyPost_ret (v := .agg #[.float .f64 p, .float .f64 q]) (by simp [results, Try.results36, go_sem]) rfl ⟨⟨p, q⟩, rfl, ?_, ?_⟩
  · rw [← hp, ← hq]; simp only [ZV.c, zmul, cl_fr]
  · exact below_set (by omega) (below_set (by omega) (bdraw hW _))

set_option maxHeartbeats 800000 in
theorem cZSizeS (x : ZV) (w : World) : Calls Try.prog 37 #[x.val] w fun e w' => ∃ r, e = .returned (.float .f64 r) ∧ cl r = zsize x.c ∧ Below w.heap.size w w' := by
  obtain ⟨a, b⟩ := x
  unfold ZV.val
  have N := fadd_run
  have Q := fmul_run
  have hW := balloc w (.cells #[.float .f64 a, .float .f64 b] 26)
  go_enter Try.func37, Try.ntmps37
  go_wp2
  go_ret
  refine ⟨_, rfl, ?_, bdraw hW _⟩
  simp only [ZV.c, zsize, cl_fr]

set_option maxHeartbeats 1600000 in
theorem cZSizeI (x : ZV) (w : World) : Calls Try.prog 23 #[x.val] w fun e w' => ∃ r, e = .returned (.float .f64 r) ∧ cl r = zsize x.c ∧ Below w.heap.size w w' := by
  obtain ⟨a, b⟩ := x
  unfold ZV.val
  have hW := balloc w (.cells #[.float .f64 a, .float .f64 b] 26)
  go_enter Try.func23, Try.ntmps23
  go_wp2_with fail
  refine (cNumber ⟨a, b⟩ _).mono ?_
  rintro e w1 ⟨rfl, hb⟩
  have HB := btrans hW hb
  clear hW hb
  go_wp2_with fail
  refine (cSize ⟨a, b⟩ _).mono ?_
  rintro e w2 ⟨r, m, rfl, h, hw⟩
  subst w2
  go_wp2
  go_ret
  exact ⟨_, rfl, h, bdraw HB _⟩

set_option maxHeartbeats 1600000 in
theorem cZDivS (x y : ZV) (w : World) : Calls Try.prog 39 #[x.val, y.val] w fun e w' => ∃ z : ZV, e = .returned z.val ∧ z.c = zdiv x.c y.c ∧ Below w.heap.size w w' := by
  obtain ⟨a, b⟩ := x
  obtain ⟨c, d⟩ := y
  unfold ZV.val
  have M := fsub_run
  have N := fadd_run
  have Q := fmul_run
  have R := fquo_run
  have hW := btrans (btrans (balloc w (.cells #[.float .f64 a, .float .f64 b] 26)) (balloc _ (.cells #[.float .f64 c, .float .f64 d] 26))) (balloc _ (.cells #[.float .f64 0, .float .f64 0] 26))
  obtain ⟨-, -, hB⟩ := threeB w (.cells #[.float .f64 a, .float .f64 b] 26) (.cells #[.float .f64 c, .float .f64 d] 26) (.cells #[.float .f64 0, .float .f64 0] 26)
  go_enter Try.func39, Try.ntmps39
  go_wp2_with fail
  generalize h1 : fr .mul a c _ = r1
  generalize h2 : fr .mul b d _ = r2
  generalize h3 : fr .mul b c _ = r3
  generalize h4 : fr .mul a d _ = r4
  replace h1 := h1 ▸ cl_fr .mul a c _
  replace h2 := h2 ▸ cl_fr .mul b d _
  replace h3 := h3 ▸ cl_fr .mul b c _
  replace h4 := h4 ▸ cl_fr .mul a d _
  generalize (((w.alloc (.cells #[.float .f64 a, .float .f64 b] 26)).alloc (.cells #[.float .f64 c, .float .f64 d] 26)).alloc (.cells #[.float .f64 0, .float .f64 0] 26)) = v at *
  refine (cZSizeS ⟨c, d⟩ _).mono ?_
  rintro e w5 ⟨r5, rfl, h5, hb⟩
  have hb := undrewN hb
  have HB := btrans hW hb
  obtain ⟨⟨c0, c1⟩, f0, f1⟩ := twoC (keepB hb hB)
  clear hB hb hW
  go_wp2
  generalize hp : fr .quo _ _ _ = p
  generalize hq : fr .quo _ _ _ = q
  refine bodyPost_ret (v := .agg #[.float .f64 p, .float .f64 q]) (by simp [results, Try.results39, go_sem, *]) rfl ⟨⟨p, q⟩, rfl, ?_, ?_⟩
  · rw [← hp, ← hq]; simp only [ZV.c, zdiv, cl_fr, h1, h2, h3, h4, h5]
  · exact below_set (by omega) (below_set (by omega) (bdraw HB _))

end Go.Proofs.Ytapnidhokpkmdaa
