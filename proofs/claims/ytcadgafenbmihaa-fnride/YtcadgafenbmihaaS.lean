/- What the law on rides asks: a ride in two parts, a ride of no span. -/
import Derived.Test.YtcadgafenbmihaaDP
namespace Go.Proofs.Ytcadgafenbmihaa
open Go.RowKit Fl

attribute [local go_sem] run_store_float

theorem vAt_drop (l : LocoV) (es : List CarV) (sp v : Nat) (zs : List Nat) (k i : Nat) : vAt l es sp (vAt l es sp v zs k) (zs.drop k) i = vAt l es sp v zs (k + i) := by
  unfold vAt; rw [List.take_add, List.foldl_append]
theorem vAt_take (l : LocoV) (es : List CarV) (sp v : Nat) (zs : List Nat) {k i : Nat} (h : i ≤ k) : vAt l es sp v (zs.take k) i = vAt l es sp v zs i := by
  unfold vAt; rw [List.take_take, Nat.min_eq_left h]
theorem rides_get (l : LocoV) (es : List CarV) (sp v : Nat) (zs : List Nat) {k i : Nat} (h : i < k) : (rides l es sp v zs k).getD i 0 = vAt l es sp v zs (i + 1) := by
  simp [rides, List.getD, h]

theorem slope_in {n : Int} (h0 : 0 ≤ n) (h1 : n < 64) : floatBits .quo .f64 (floatOfInt .f64 (n - 30)) k256 = some (fdiv (floatOfInt .f64 (n - 30)) k256) ∧ slp (fdiv (floatOfInt .f64 (n - 30)) k256) = true := by
  have hb := conv_any (n - 30) 6 (by omega) (by omega)
  have hY : fin k256 := by unfold fin rg; decide
  obtain ⟨q1, q2, q3, q4, q5⟩ := vquo (hb.fin (by omega)) hY (by unfold rg; decide)
  have g := mg_P2 (x := k256) (e := 1031) (by unfold rg; decide) (by omega)
  rw [show 51 + 1031 = 1074 + 8 by omega] at g
  have b := q4 (1023 + 6) 8 (by omega) (by omega) (P2_mg hb (by omega)) g
  generalize fdiv (floatOfInt .f64 (n - 30)) k256 = q at *
  refine ⟨q1, ?_⟩
  have hf := b.fin (by omega)
  have hm1 : fin km1 := by unfold fin rg; decide
  unfold slp inR
  rw [fle_eq hm1 hf, fle_eq hf fin1]
  have h1 := mg_mono (Nat.le_trans b (show (1023 + 6 - 8) * 2 ^ 52 ≤ rg k1 by unfold rg; decide))
  have h2 : fv k1 = mg (rg k1) := fv_nn (by unfold sg; decide)
  have h3 : fv km1 = -(mg (rg k1) : Int) := by
    unfold fv; rw [show sg km1 = true by unfold sg; decide, show rg km1 = rg k1 by unfold rg; decide]; rfl
  have h4 := fv_abs q
  rw [h2, h3]
  simp
  omega

theorem spn0 : spn 0 = true := by
  unfold spn inR
  have h10 : fin k10 := by unfold fin rg; decide
  rw [fle_eq fin0 fin0, fle_eq fin0 h10, fv0, fv_nn (x := k10) (by unfold sg; decide)]
  simp
/-- Without a span the speed stays. -/
theorem pull_none {l : LocoV} {es : List CarV} {v sl : Nat} (h1 : locoOk l = true) (h2 : trainOk es = true) (h3 : spd v = true) (h4 : slp sl = true) : feq (pull l es v sl 0) v = true := by
  rw [pull_yes h1 h2 h3 h4 spn0]
  obtain ⟨-, -, -, -, b, ba, e⟩ := next_v (l := l) (sl := sl) h2 h3 spn0
  have hfa := ba.fin (by decide)
  have hm : fv (fmul (accel l es v sl) 0) = 0 := by
    have := mul_eq hfa fin0
    unfold fmul
    rw [this]
    have hz : mg (rg 0) = 0 := by rw [show rg 0 = 0 by unfold rg; omega, mg_zero]
    rw [hz, Nat.mul_zero]
    have h0 : rr 1074 0 = 0 := by unfold rr; rw [if_pos rfl]
    rw [h0]
    show fv (Ieee.double.word _ 0) = 0
    unfold fv
    rw [rg_word _ (by decide), mg_zero]; simp
  obtain ⟨hv, hv0, hv1⟩ := inR_fin fin0 fin200 h3
  have hn := b.fin (by decide)
  rw [hm, Int.add_zero, rv_fv hv] at e
  rw [fv0] at hv0
  generalize next l es v sl 0 = x at *
  unfold held
  rw [fle_eq hn fin0, flt_eq fin200 hn, fv0, e]
  by_cases h : fv v ≤ 0
  · simp only [h, decide_true, if_true]
    rw [feq_eq fin0 hv, fv0]; simp; omega
  · simp only [h, decide_false, Bool.false_eq_true, if_false]
    rw [if_neg (by simp; omega), feq_eq hn hv, e]; simp

theorem zero_div2 {x : Nat} (h : FloatKind.f64.format.order x 0 = some .eq) : ∃ r, floatBits .quo .f64 k1 x = some r ∧ FloatKind.f64.format.order r r = some .eq := by
  have h : Ieee.double.order x 0 = some .eq := h
  have hx : fin x := by
    apply Nat.lt_of_not_le
    intro hge
    by_cases h2 : rg x = 2047 * 2 ^ 52
    · rw [order_if h2 fin0] at h
      cases hs : sg x <;> simp [hs] at h
    · rw [order_nl (by omega)] at h
      cases h
  have h0 : fv x = 0 := by
    have := feq_eq hx fin0
    unfold feq at this
    rw [ford_eq, h, fv0] at this
    simpa using this.symm
  have hr : mg (rg x) = 0 := by rw [← fv_abs, h0]; rfl
  obtain ⟨m, k, e, f⟩ := read_fin hx
  obtain ⟨n, j, g, i⟩ := read_fin fin1
  have hm : m = 0 := by
    rw [hr] at f
    exact (Nat.mul_eq_zero.1 f).resolve_right (Nat.ne_of_gt (Nat.two_pow_pos k))
  have hn : n ≠ 0 := by
    rintro rfl
    rw [Nat.zero_mul] at i
    have h9 := fv_abs k1
    rw [fv1, ← i] at h9
    have := one_pos
    omega
  show ∃ r, Ieee.double.div k1 x = some r ∧ Ieee.double.order r r = some .eq
  unfold Ieee.Format.div
  rw [g, e]
  unfold Ieee.Datum.quotient
  simp only [hm, if_true, hn, if_false, Option.map_some]
  refine ⟨_, rfl, ?_⟩
  show Ieee.double.order (Ieee.double.word (sg k1 ^^ sg x) Ieee.double.infRung) (Ieee.double.word (sg k1 ^^ sg x) Ieee.double.infRung) = _
  generalize hq : Ieee.double.word (sg k1 ^^ sg x) Ieee.double.infRung = q
  have hr : rg q = 2047 * 2 ^ 52 := by rw [← hq, rg_word _ (by decide)]; rfl
  show Ieee.double.order q q = _
  unfold Ieee.Format.order
  rw [read_inf hr]
  cases sg q <;> rfl


set_option maxHeartbeats 1600000 in
theorem c51 (x : Nat) (w : World) : Calls Try.prog 51 #[.float .f64 x, .float .f64 x] w fun e w' => e = .returned (.bool true) ∧ w' = w := by
  rcases self_order x with h | h
  · go_enter Try.func51, Try.ntmps51
    go_wp2
    go_ret
    exact ⟨rfl, rfl⟩
  · by_cases h0 : FloatKind.f64.format.order x 0 = some .eq
    · obtain ⟨r, hr, hr2⟩ := zero_div2 h0
      have hop := fop hr
      clear hr
      go_enter Try.func51, Try.ntmps51
      go_wp2
      go_ret
      exact ⟨ret_bool (by simp), rfl⟩
    · have h1 : (FloatKind.f64.format.order x 0 == some .eq) = false := by simpa using h0
      go_enter Try.func51, Try.ntmps51
      go_wp2
      go_ret
      exact ⟨rfl, rfl⟩

end Go.Proofs.Ytcadgafenbmihaa
