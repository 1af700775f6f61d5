/- Bits compared; what the walk of FnWire takes. -/
import Derived.Test.YtapnidhokpkmdaaMW
import Derived.Test.YtapnidhokpkmdaaWZ
namespace Go.Proofs.Ytapnidhokpkmdaa
open Go.RowKit Fl
attribute [local go_sem] run_store_float

theorem zero_div {x : Nat} (h : FloatKind.f64.format.order x 0 = some .eq) : ∃ r, floatBits .quo .f64 4607182418800017408 x = some r := by
  have h : Ieee.double.order x 0 = some .eq := h
  have hf0 : Fl.fin 0 := (Dq.zero 0).1
  have hv0 : fv 0 = 0 := by have := (Dq.zero 0).2; rwa [Int.zero_mul] at this
  have hx : Fl.fin x := by
    apply Nat.lt_of_not_le
    intro hge
    by_cases h2 : rg x = 2047 * 2 ^ 52
    · rw [order_if h2 hf0] at h
      cases hs : Fl.sg x <;> simp [hs] at h
    · rw [order_nl (by omega)] at h
      cases h
  have h0 : fv x = 0 := by
    have := feq_eq hx hf0
    unfold feq at this
    rw [ford_eq, h, hv0] at this
    simpa using this.symm
  have hr : Fl.mg (rg x) = 0 := by rw [← fv_abs, h0]; rfl
  obtain ⟨m, k, e, f⟩ := read_fin hx
  have e1 := read_pow (y := 4607182418800017408) (s := 0) (by unfold rg; decide) (by unfold Fl.sg; decide) (by decide)
  have hm : m = 0 := by
    rw [hr] at f
    exact (Nat.mul_eq_zero.1 f).resolve_right (Nat.ne_of_gt (Nat.two_pow_pos k))
  show ∃ r, Ieee.double.div 4607182418800017408 x = some r
  unfold Ieee.Format.div
  rw [e1, e]
  unfold Ieee.Datum.quotient
  simp only [hm, if_true]
  rw [if_neg (by decide)]
  exact ⟨_, rfl⟩

set_option maxHeartbeats 1600000 in
theorem cSameB (x y : Nat) (w : World) (h : cl x = cl y) : Calls Try.prog 20 #[.float .f64 x, .float .f64 y] w fun e w' => e = .returned (.bool true) ∧ ∃ m, w' = w.drewN m := by
  cases hx : cl x with
  | none =>
    rw [hx] at h
    have h1 := order_none hx x
    have h2 := order_none h.symm y
    clear h hx
    go_enter Try.func20, Try.ntmps20
    go_wp2
    go_ret
    exact ⟨rfl, 0, rfl⟩
  | some z =>
    have hs := self_eq y
    rw [hx] at h
    rw [← h] at hs
    obtain ⟨rfl, hn⟩ := cl_some hx
    obtain ⟨rfl, -⟩ := cl_some h.symm
    have h1 : FloatKind.f64.format.order y y = some .eq := eq_of_beq hs
    clear hx h hn hs
    cases h0 : FloatKind.f64.format.order y 0 == some .eq with
    | true =>
      have h2 := eq_of_beq h0
      obtain ⟨r, hr⟩ := zero_div h2
      have hop := fopD hr
      have h3 := self_eq r
      have hcr : cl r = some r := by have := bits_not hr; simp [cl, this]
      rw [hcr] at h3
      have h4 : FloatKind.f64.format.order r r = some .eq := eq_of_beq h3
      clear h0 hr h3 hcr
      go_enter Try.func20, Try.ntmps20
      go_wp2
      go_ret
      exact ⟨rfl, 0, rfl⟩
    | false =>
      go_enter Try.func20, Try.ntmps20
      go_wp2
      go_ret
      exact ⟨rfl, 0, rfl⟩
theorem volts_at {v : ZV} {ls ds us : List ZV} (h : cs us = voltsC v.c (cs ls) (cs ds)) (h1 : ls.length = ds.length) (h40 : ls.length ≤ 40) : us.length = ls.length ∧ ∀ k, k < ls.length → (us.getD k ZV.zero).c = vAt v.c (cs ls) (cs ds) (k + 1) := by
  rw [voltsC_yes (wireB_yes h1 h40), cs_len] at h
  have hl : us.length = ls.length := by have := congrArg List.length h; simpa [cs] using this
  refine ⟨hl, fun k hk => ?_⟩
  have h2 := congrArg (fun l => l[k]?) h
  have hk2 : k < us.length := by omega
  simpa [cs, hk, hk2, List.getD] using h2
end Go.Proofs.Ytapnidhokpkmdaa
