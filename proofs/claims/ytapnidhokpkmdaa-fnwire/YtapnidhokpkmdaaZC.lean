/- The program's operations on pairs; copies and comparisons of the laws. -/
import Derived.Test.YtapnidhokpkmdaaZB
namespace Go.Proofs.Ytapnidhokpkmdaa
open Go.RowKit Fl
attribute [local go_sem] run_store_float

theorem cNumber2 (a b : Nat) (w : World) : Calls Try.prog 61 #[.agg #[.float .f64 a, .float .f64 b]] w fun e w' => e = .returned (.complex .f64 a b) ∧ Below w.heap.size w w' := cNumber ⟨a, b⟩ w
theorem cZOf2 (a b : Nat) (w : World) : Calls Try.prog 59 #[.complex .f64 a b] w fun e w' => e = .returned (.agg #[.float .f64 a, .float .f64 b]) ∧ Below w.heap.size w w' := cZOf ⟨a, b⟩ w
theorem cProduct2 (a b c d : Nat) (w : World) : Calls Try.prog 62 #[.complex .f64 a b, .complex .f64 c d] w fun e w' => ∃ x y m, e = .returned (.complex .f64 x y) ∧ ZV.c ⟨x, y⟩ = zmul (ZV.c ⟨a, b⟩) (ZV.c ⟨c, d⟩) ∧ w' = w.drewN m :=
  (cProduct ⟨a, b⟩ ⟨c, d⟩ w).mono (fun _ _ ⟨z, m, h1, h2, h3⟩ => ⟨z.re, z.im, m, h1, h2, h3⟩)
theorem cQuotient2 (a b c d : Nat) (w : World) : Calls Try.prog 68 #[.complex .f64 a b, .complex .f64 c d] w fun e w' => ∃ x y m, e = .returned (.complex .f64 x y) ∧ ZV.c ⟨x, y⟩ = zdiv (ZV.c ⟨a, b⟩) (ZV.c ⟨c, d⟩) ∧ w' = w.drewN m :=
  (cQuotient ⟨a, b⟩ ⟨c, d⟩ w).mono (fun _ _ ⟨z, m, h1, h2, h3⟩ => ⟨z.re, z.im, m, h1, h2, h3⟩)

set_option maxHeartbeats 3200000 in
theorem cZAddI (x y : ZV) (w : World) : Calls Try.prog 22 #[x.val, y.val] w fun e w' => ∃ z : ZV, e = .returned z.val ∧ z.c = zadd x.c y.c ∧ Below w.heap.size w w' := by
  obtain ⟨a, b⟩ := x
  obtain ⟨c, d⟩ := y
  unfold ZV.val
  have N := cadd_run
  have hW := btrans (btrans (balloc w (.cells #[.float .f64 a, .float .f64 b] 26)) (balloc _ (.cells #[.float .f64 c, .float .f64 d] 26))) (balloc _ (.cells #[.float .f64 0, .float .f64 0] 26))
  obtain ⟨h1, h2, h3⟩ := threeB w (.cells #[.float .f64 a, .float .f64 b] 26) (.cells #[.float .f64 c, .float .f64 d] 26) (.cells #[.float .f64 0, .float .f64 0] 26)
  go_enter Try.func22, Try.ntmps22
  go_wp2_with fail
  generalize (((w.alloc (.cells #[.float .f64 a, .float .f64 b] 26)).alloc (.cells #[.float .f64 c, .float .f64 d] 26)).alloc (.cells #[.float .f64 0, .float .f64 0] 26)) = v at *
  obtain ⟨⟨u0, u1⟩, -⟩ := twoC h1
  obtain ⟨⟨u2, u3⟩, -⟩ := twoC h2
  have n1 : w.heap.size + 1 + 1 ≠ w.heap.size := by omega
  have n2 : w.heap.size + 1 + 1 ≠ w.heap.size + 1 := by omega
  have n3 : w.heap.size ≠ w.heap.size + 1 + 1 := by omega
  have n4 : w.heap.size + 1 ≠ w.heap.size + 1 + 1 := by omega
  go_region_with (first
    | (go_at_call 59; with_reducible refine (cZOf2 _ _ _).mono ?_; rintro e w4 ⟨rfl, hb4⟩; have B4 := btrans (bdraw B2 _) hb4; obtain ⟨⟨v0, v1⟩, -⟩ := twoC (keepB B4 h1); obtain ⟨⟨v2, v3⟩, -⟩ := twoC (keepB B4 h2); obtain ⟨⟨v4, v5⟩, v6, v7⟩ := twoC (keepB B4 h3))
    | (go_at_call 61; with_reducible refine (cNumber2 c d _).mono ?_; rintro e w2 ⟨rfl, hb2⟩; have B2 := btrans B1 hb2; obtain ⟨⟨v0, v1⟩, -⟩ := twoC (keepB B2 h1); obtain ⟨⟨v2, v3⟩, -⟩ := twoC (keepB B2 h2); obtain ⟨⟨v4, v5⟩, v6, v7⟩ := twoC (keepB B2 h3))
    | (go_at_call 61; with_reducible refine (cNumber2 a b _).mono ?_; rintro e w1 ⟨rfl, hb1⟩; have B1 := undrew hb1; obtain ⟨⟨v0, v1⟩, -⟩ := twoC (keepB B1 h1); obtain ⟨⟨v2, v3⟩, -⟩ := twoC (keepB B1 h2); obtain ⟨⟨v4, v5⟩, v6, v7⟩ := twoC (keepB B1 h3)))
  all_goals replace B4 := btrans hW B4
  all_goals go_wp2
  all_goals (
    generalize hp : fr .add a c _ = p
    generalize hq : fr .add b d _ = q
    refine bodyPost_ret (v := .agg #[.float .f64 p, .float .f64 q]) (by simp [results, Try.results22, go_sem, *]) rfl ⟨⟨p, q⟩, rfl, ?_, ?_⟩
    · rw [← hp, ← hq]; simp only [ZV.c, zadd, cl_fr]
    · exact below_set (by omega) (below_set (by omega) B4))

set_option maxHeartbeats 3200000 in
theorem cZMulI (x y : ZV) (w : World) : Calls Try.prog 21 #[x.val, y.val] w fun e w' => ∃ z : ZV, e = .returned z.val ∧ z.c = zmul x.c y.c ∧ Below w.heap.size w w' := by
  obtain ⟨a, b⟩ := x
  obtain ⟨c, d⟩ := y
  unfold ZV.val
  have N := cadd_run
  have hW := btrans (btrans (balloc w (.cells #[.float .f64 a, .float .f64 b] 26)) (balloc _ (.cells #[.float .f64 c, .float .f64 d] 26))) (balloc _ (.cells #[.float .f64 0, .float .f64 0] 26))
  obtain ⟨h1, h2, h3⟩ := threeB w (.cells #[.float .f64 a, .float .f64 b] 26) (.cells #[.float .f64 c, .float .f64 d] 26) (.cells #[.float .f64 0, .float .f64 0] 26)
  go_enter Try.func21, Try.ntmps21
  go_wp2_with fail
  generalize (((w.alloc (.cells #[.float .f64 a, .float .f64 b] 26)).alloc (.cells #[.float .f64 c, .float .f64 d] 26)).alloc (.cells #[.float .f64 0, .float .f64 0] 26)) = v at *
  obtain ⟨⟨u0, u1⟩, -⟩ := twoC h1
  obtain ⟨⟨u2, u3⟩, -⟩ := twoC h2
  have n1 : w.heap.size + 1 + 1 ≠ w.heap.size := by omega
  have n2 : w.heap.size + 1 + 1 ≠ w.heap.size + 1 := by omega
  have n3 : w.heap.size ≠ w.heap.size + 1 + 1 := by omega
  have n4 : w.heap.size + 1 ≠ w.heap.size + 1 + 1 := by omega
  go_region_held3 (fun w' => w'.cell? ⟨w.heap.size, 0, none⟩ = some (.float .f64 a) ∧ w'.cell? ⟨w.heap.size, 1, none⟩ = some (.float .f64 b) ∧ w'.cell? ⟨w.heap.size + 1, 0, none⟩ = some (.float .f64 c) ∧ w'.cell? ⟨w.heap.size + 1, 1, none⟩ = some (.float .f64 d)) (go_keep) (first
    | (go_at_call 59; with_reducible refine (cZOf2 p q _).mono ?_; rintro e w4 ⟨rfl, hb4⟩; have B4 := btrans B3 hb4; obtain ⟨⟨v0, v1⟩, -⟩ := twoC (keepB B4 h1); obtain ⟨⟨v2, v3⟩, -⟩ := twoC (keepB B4 h2); obtain ⟨⟨v4, v5⟩, v6, v7⟩ := twoC (keepB B4 h3))
    | (go_at_call 62; with_reducible refine (cProduct2 a b c d _).mono ?_; rintro e w3 ⟨p, q, m, rfl, hz, hw3⟩; subst w3; have B3 := bdraw B2 m)
    | (go_at_call 61; with_reducible refine (cNumber2 c d _).mono ?_; rintro e w2 ⟨rfl, hb2⟩; have B2 := btrans B1 hb2; obtain ⟨⟨v0, v1⟩, -⟩ := twoC (keepB B2 h1); obtain ⟨⟨v2, v3⟩, -⟩ := twoC (keepB B2 h2); obtain ⟨⟨v4, v5⟩, v6, v7⟩ := twoC (keepB B2 h3))
    | (go_at_call 61; with_reducible refine (cNumber2 a b _).mono ?_; rintro e w1 ⟨rfl, hb1⟩; have B1 := undrew hb1; obtain ⟨⟨v0, v1⟩, -⟩ := twoC (keepB B1 h1); obtain ⟨⟨v2, v3⟩, -⟩ := twoC (keepB B1 h2); obtain ⟨⟨v4, v5⟩, v6, v7⟩ := twoC (keepB B1 h3)))
  replace B4 := btrans hW B4
  go_wp2
  refine bodyPost_ret (v := .agg #[.float .f64 p, .float .f64 q]) (by simp [results, Try.results21, go_sem, *]) rfl ⟨⟨p, q⟩, rfl, hz, ?_⟩
  exact below_set (by omega) (below_set (by omega) B4)

set_option maxHeartbeats 3200000 in
theorem cZDivI (x y : ZV) (w : World) : Calls Try.prog 29 #[x.val, y.val] w fun e w' => ∃ z : ZV, e = .returned z.val ∧ z.c = zdiv x.c y.c ∧ Below w.heap.size w w' := by
  obtain ⟨a, b⟩ := x
  obtain ⟨c, d⟩ := y
  unfold ZV.val
  have N := cadd_run
  have hW := btrans (btrans (balloc w (.cells #[.float .f64 a, .float .f64 b] 26)) (balloc _ (.cells #[.float .f64 c, .float .f64 d] 26))) (balloc _ (.cells #[.float .f64 0, .float .f64 0] 26))
  obtain ⟨h1, h2, h3⟩ := threeB w (.cells #[.float .f64 a, .float .f64 b] 26) (.cells #[.float .f64 c, .float .f64 d] 26) (.cells #[.float .f64 0, .float .f64 0] 26)
  go_enter Try.func29, Try.ntmps29
  go_wp2_with fail
  generalize (((w.alloc (.cells #[.float .f64 a, .float .f64 b] 26)).alloc (.cells #[.float .f64 c, .float .f64 d] 26)).alloc (.cells #[.float .f64 0, .float .f64 0] 26)) = v at *
  obtain ⟨⟨u0, u1⟩, -⟩ := twoC h1
  obtain ⟨⟨u2, u3⟩, -⟩ := twoC h2
  have n1 : w.heap.size + 1 + 1 ≠ w.heap.size := by omega
  have n2 : w.heap.size + 1 + 1 ≠ w.heap.size + 1 := by omega
  have n3 : w.heap.size ≠ w.heap.size + 1 + 1 := by omega
  have n4 : w.heap.size + 1 ≠ w.heap.size + 1 + 1 := by omega
  go_region_held3 (fun w' => w'.cell? ⟨w.heap.size, 0, none⟩ = some (.float .f64 a) ∧ w'.cell? ⟨w.heap.size, 1, none⟩ = some (.float .f64 b) ∧ w'.cell? ⟨w.heap.size + 1, 0, none⟩ = some (.float .f64 c) ∧ w'.cell? ⟨w.heap.size + 1, 1, none⟩ = some (.float .f64 d)) (go_keep) (first
    | (go_at_call 59; with_reducible refine (cZOf2 p q _).mono ?_; rintro e w4 ⟨rfl, hb4⟩; have B4 := btrans B3 hb4; obtain ⟨⟨v0, v1⟩, -⟩ := twoC (keepB B4 h1); obtain ⟨⟨v2, v3⟩, -⟩ := twoC (keepB B4 h2); obtain ⟨⟨v4, v5⟩, v6, v7⟩ := twoC (keepB B4 h3))
    | (go_at_call 68; with_reducible refine (cQuotient2 a b c d _).mono ?_; rintro e w3 ⟨p, q, m, rfl, hz, hw3⟩; subst w3; have B3 := bdraw B2 m)
    | (go_at_call 61; with_reducible refine (cNumber2 c d _).mono ?_; rintro e w2 ⟨rfl, hb2⟩; have B2 := btrans B1 hb2; obtain ⟨⟨v0, v1⟩, -⟩ := twoC (keepB B2 h1); obtain ⟨⟨v2, v3⟩, -⟩ := twoC (keepB B2 h2); obtain ⟨⟨v4, v5⟩, v6, v7⟩ := twoC (keepB B2 h3))
    | (go_at_call 61; with_reducible refine (cNumber2 a b _).mono ?_; rintro e w1 ⟨rfl, hb1⟩; have B1 := undrew hb1; obtain ⟨⟨v0, v1⟩, -⟩ := twoC (keepB B1 h1); obtain ⟨⟨v2, v3⟩, -⟩ := twoC (keepB B1 h2); obtain ⟨⟨v4, v5⟩, v6, v7⟩ := twoC (keepB B1 h3)))
  replace B4 := btrans hW B4
  go_wp2
  refine bodyPost_ret (v := .agg #[.float .f64 p, .float .f64 q]) (by simp [results, Try.results29, go_sem, *]) rfl ⟨⟨p, q⟩, rfl, hz, ?_⟩
  exact below_set (by omega) (below_set (by omega) B4)

set_option maxHeartbeats 800000 in
theorem cToZ (z : ZV) (w : World) : Calls Try.prog 34 #[z.val] w fun e w' => e = .returned z.val ∧ Below w.heap.size w w' := by
  obtain ⟨a, b⟩ := z
  unfold ZV.val
  go_enter Try.func34, Try.ntmps34
  go_wp2
  refine bodyPost_ret (v := .agg #[.float .f64 a, .float .f64 b]) (by simp [results, Try.results34, go_sem]) rfl ⟨rfl, ?_⟩
  exact btrans (btrans (balloc _ _) (balloc _ _)) (balloc _ _)

end Go.Proofs.Ytapnidhokpkmdaa
