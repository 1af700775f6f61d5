/- One value: equal with the sign of zero, or both no number. -/
import Derived.Test.YtapnidhokpkmdaaZC
namespace Go.Proofs.Ytapnidhokpkmdaa
open Go.RowKit Fl
attribute [local go_sem] run_store_float

theorem self_order (x : Nat) : FloatKind.f64.format.order x x = none ∨ FloatKind.f64.format.order x x = some .eq := by
  show Ieee.double.order x x = none ∨ Ieee.double.order x x = some .eq
  by_cases h1 : rg x < 2047 * 2 ^ 52
  · right
    rw [order_eq h1 h1]
    show some (compareOfLessAndEq (fv x) (fv x)) = _
    simp [compareOfLessAndEq]
  · by_cases h2 : rg x = 2047 * 2 ^ 52
    · right
      unfold Ieee.Format.order
      rw [read_inf h2]
      cases sg x <;> rfl
    · left
      exact order_nl (by omega)
theorem cl_none {x : Nat} (h : cl x = none) : isN x = true := by
  cases hx : isN x with
  | true => rfl
  | false => simp [cl, hx] at h
theorem cl_some {x y : Nat} (h : cl x = some y) : x = y ∧ isN x = false := by
  cases hx : isN x with
  | true => simp [cl, hx] at h
  | false => simp [cl, hx] at h; exact ⟨h, rfl⟩
theorem order_none {x : Nat} (h : cl x = none) (y : Nat) : FloatKind.f64.format.order x y = none := by rw [order_cl, h]; rfl

set_option maxHeartbeats 1600000 in
theorem cSameF (x y : Nat) (w : World) (h : cl x = cl y) : Calls Try.prog 38 #[.float .f64 x, .float .f64 y] w fun e w' => ∃ m, e = .returned (.bool true) ∧ w' = w.drewN m := by
  have R := fquo_run
  cases hx : cl x with
  | none =>
    rw [hx] at h
    have h1 := order_none hx x
    have h2 := order_none h.symm y
    clear h hx
    go_enter Try.func38, Try.ntmps38
    go_wp2
    go_ret
    exact ⟨0, rfl, rfl⟩
  | some z =>
    rw [hx] at h
    obtain ⟨rfl, hn⟩ := cl_some hx
    obtain ⟨rfl, -⟩ := cl_some h.symm
    have h1 : FloatKind.f64.format.order y y = some .eq := by
      rcases self_order y with h9 | h9
      · exfalso
        rw [order_cl, hx] at h9
        have h8 : FloatKind.f64.format.order y y = none := h9
        unfold isN at hn
        simp only [decide_eq_false_iff_not] at hn
        have h8 : Ieee.double.order y y = none := h8
        by_cases h7 : rg y < 2047 * 2 ^ 52
        · rw [order_eq h7 h7] at h8; cases h8
        · unfold Ieee.Format.order at h8
          rw [read_inf (by omega)] at h8
          cases sg y <;> cases h8
      · exact h9
    clear hx h hn
    cases h0 : FloatKind.f64.format.order y 0 == some .eq with
    | true =>
      have h2 := eq_of_beq h0
      clear h0
      go_enter Try.func38, Try.ntmps38
      go_wp2
      go_ret
      refine ⟨_, ret_bool ?_, rfl⟩
      simp only [order_cl, cl_fr, beq_self_eq_true]
    | false =>
      go_enter Try.func38, Try.ntmps38
      go_wp2
      go_ret
      exact ⟨0, rfl, rfl⟩

set_option maxHeartbeats 1600000 in
theorem cEqZ (x y : ZV) (w : World) (h : x.c = y.c) : Calls Try.prog 35 #[x.val, y.val] w fun e w' => e = .returned (.bool true) ∧ Below w.heap.size w w' := by
  obtain ⟨a, b⟩ := x
  obtain ⟨c, d⟩ := y
  simp only [ZV.c, Prod.mk.injEq] at h
  obtain ⟨h1, h2⟩ := h
  unfold ZV.val
  have hW := btrans (balloc w (.cells #[.float .f64 a, .float .f64 b] 26)) (balloc _ (.cells #[.float .f64 c, .float .f64 d] 26))
  go_enter Try.func35, Try.ntmps35
  go_wp2_with fail
  refine (cSameF a c _ h1).mono ?_
  rintro e w1 ⟨m1, rfl, hw⟩
  subst w1
  go_wp2_with fail
  refine (cSameF b d _ h2).mono ?_
  rintro e w1 ⟨m2, rfl, hw⟩
  subst w1
  go_wp2
  go_ret
  exact ⟨rfl, bdraw hW _⟩
theorem cEqZ2 (a b c d : Nat) (w : World) (h : ZV.c ⟨a, b⟩ = ZV.c ⟨c, d⟩) : Calls Try.prog 35 #[.agg #[.float .f64 a, .float .f64 b], .agg #[.float .f64 c, .float .f64 d]] w fun e w' => e = .returned (.bool true) ∧ Below w.heap.size w w' := cEqZ ⟨a, b⟩ ⟨c, d⟩ w h
theorem cToZ2 (a b : Nat) (w : World) : Calls Try.prog 34 #[.agg #[.float .f64 a, .float .f64 b]] w fun e w' => e = .returned (.agg #[.float .f64 a, .float .f64 b]) ∧ Below w.heap.size w w' := cToZ ⟨a, b⟩ w
end Go.Proofs.Ytapnidhokpkmdaa
