/- The program's peak. -/
import Derived.Test.YteklmeekapegpaaMQ
namespace Go.Proofs.Yteklmeekapegpaa
open Go.RowKit

def peakV (ss : List StayV) (g : Int) : Int := if staysB ss = true ∧ gapB g = true then (peakTo ss g ss.length ss.length : Int) else 0
theorem peakV_ok {ss : List StayV} {g : Int} (h : staysB ss = true) (h2 : gapB g = true) : peakV ss g = (peakTo ss g ss.length ss.length : Int) := by unfold peakV; rw [if_pos ⟨h, h2⟩]
theorem peakV_s {ss : List StayV} {g : Int} (h : staysB ss = false) : peakV ss g = 0 := by unfold peakV; rw [if_neg (fun x => by rw [h] at x; cases x.1)]
theorem peakV_g {ss : List StayV} {g : Int} (h : gapB g = false) : peakV ss g = 0 := by unfold peakV; rw [if_neg (fun x => by rw [h] at x; cases x.2)]
theorem fine_of {ss : List StayV} (h : staysB ss = true) : Fine ss ss.length := fun _ hk => (stays_get h hk).2.1
theorem nowJ_succ (es : List PassV) {j : Nat} (hj : j < es.length) : nowJ es (j + 1) = nowJ es j + (if (es.getD j PassV.zero).k = 1 then 1 else 0) - (if (es.getD j PassV.zero).k = 0 then 1 else 0) := by
  have e0 : es.getD j PassV.zero = es[j] := by simp [List.getD, hj]
  unfold nowJ
  rw [e0, List.take_succ_eq_append_getElem hj, List.countP_append, List.countP_append]
  simp only [List.countP_cons, List.countP_nil, isC, isL, decide_eq_true_eq]
  split <;> split <;> omega
theorem nowJ_bound (es : List PassV) (j : Nat) : -(es.length : Int) ≤ nowJ es j ∧ nowJ es j ≤ es.length := by
  unfold nowJ
  have h1 := List.countP_le_length (p := isC) (l := es.take j)
  have h2 := List.countP_le_length (p := isL) (l := es.take j)
  rw [List.length_take] at h1 h2
  omega
theorem Found.leave {es : List PassV} {j : Nat} {r : Int} (h : Found es j r) (hk : (es.getD j PassV.zero).k = 0) : Found es (j + 1) r := by
  obtain ⟨h1, h2, h3⟩ := h
  refine ⟨fun i hi hki => ?_, ?_, h3⟩
  · by_cases e : i = j
    · subst e; rw [hk] at hki; cases hki
    · exact h1 i (by omega) hki
  · rcases h2 with h2 | ⟨i, hi, h2⟩
    · exact .inl h2
    · exact .inr ⟨i, by omega, h2⟩
theorem Found.come {es : List PassV} {j : Nat} {r : Int} (h : Found es j r) (hk : (es.getD j PassV.zero).k = 1) : Found es (j + 1) (max r (nowJ es (j + 1))) := by
  obtain ⟨h1, h2, h3⟩ := h
  refine ⟨fun i hi hki => ?_, ?_, by omega⟩
  · by_cases e : i = j
    · subst e; omega
    · have := h1 i (by omega) hki; omega
  · by_cases hm : r ≤ nowJ es (j + 1)
    · exact .inr ⟨j, by omega, hk, by omega⟩
    · rw [show max r (nowJ es (j + 1)) = r by omega]
      rcases h2 with h2 | ⟨i, hi, h2⟩
      · exact .inl h2
      · exact .inr ⟨i, by omega, h2⟩
theorem ite_max (r n : Int) : (if r < n then n else r) = max r n := by split <;> omega
theorem pass_kind {ss : List StayV} {g : Int} {n : Nat} {es : List PassV} (h : IsPass ss g n es) {j : Nat} (hj : j < es.length) : (es.getD j PassV.zero).k = 1 ∨ (es.getD j PassV.zero).k = 0 := by
  have e0 : es.getD j PassV.zero = es[j] := by simp [List.getD, hj]
  rw [e0]
  obtain ⟨i, hi, e | e⟩ := (h.mem es[j]).1 (List.getElem_mem hj)
  · left; rw [e]; rfl
  · right; rw [e]; rfl

set_option maxRecDepth 20000 in
set_option maxHeartbeats 1600000 in
theorem cPeakI (a : Option Addr) (cap : Nat) (ss : List StayV) (g : Int) (w : World) (hz : Stays w a ss) (hl : ss.length ≤ 1048576) :
    Calls Try.prog 14 #[.slice a ss.length cap, .int .i64 g] w fun e w' => e = .returned (.int .i64 (peakV ss g)) ∧ Below w.heap.size w w' := by
  go_enter Try.func14, Try.ntmps14
  go_wp2_with fail
  refine (cStaysI a cap ss _ hz hl).mono ?_
  rintro e w1 ⟨rfl, hb1⟩
  cases hS : staysB ss
  · have hf := hide (peakV_s (g := g) hS)
    clear hS
    go_wp2
    go_ret
    exact ⟨ret_int hf.out.symm, hb1⟩
  go_wp2_with fail
  refine (cGapI g _).mono ?_
  rintro e w2 ⟨rfl, hw⟩
  subst w2
  cases hG : gapB g
  · have hf := hide (peakV_g (ss := ss) hG)
    clear hS hG
    go_wp2
    go_ret
    exact ⟨ret_int hf.out.symm, hb1⟩
  have hP := cPassages a cap ss g w1 (hz.below hb1) hS hG
  have hV := hide (peakV_ok hS hG)
  have hF := hide (fine_of hS)
  have h60 := stays_len hS
  have hg1 := (inB_true hG).1
  clear hS hG
  go_wp2_with fail
  refine hP.mono ?_
  rintro e w2 ⟨v, es, rfl, ho, hI, hb2⟩
  clear hP
  obtain ⟨va, vc, rfl⟩ := own_form ho
  replace hb1 := btrans hb1 hb2
  have hes : es.length ≤ 120 := by rw [hI.len]; omega
  clear hb2
  have hN0 : Hid (nowJ es 0 = 0) := hide (by simp [nowJ])
  have hE : Passes w2 va es := Passes.own ho
  go_wp2
  go_loopw [5, 6, 21] (fun p n i wr => ∃ j : Nat, ∃ r : Int, j ≤ es.length ∧ p = .int .i64 r ∧ n = .int .i64 (nowJ es j) ∧ i = .int .i64 j ∧ Hid (Found es j r) ∧ r ≤ 120 ∧ 0 ≤ r ∧ Below w2.heap.size w2 wr) (fun _ _ i _ => es.length - (intOf i).toNat)
  case atStart => exact ⟨0, 0, Nat.zero_le _, rfl, by rw [hN0.out], rfl, hide ⟨fun i h => by omega, .inl rfl, Int.le_refl _⟩, by omega, by omega, Below.refl _ _⟩
  case round =>
    obtain ⟨j, r, hj, rfl, rfl, rfl, hFo, hr1, hr0, hb⟩ := hrel
    clear hN0
    by_cases hlt : j < es.length
    · have hK := pass_kind hI hlt
      have hSu := hide (nowJ_succ es hlt)
      have hB0 := nowJ_bound es j
      have hB1 := nowJ_bound es (j + 1)
      have FL := fun h => hide (hFo.out.leave (j := j) h)
      have FC := fun h => hide (hFo.out.come (j := j) h)
      rcases hE with h | ⟨b, off, rfl, hc⟩
      · simp [h] at hlt
      obtain ⟨q0, q1, q2⟩ := hc j hlt
      replace q0 := ble hb q0
      replace q1 := ble hb q1
      replace q2 := ble hb q2
      clear hc hFo
      generalize es.getD j PassV.zero = y at *
      obtain ⟨ym, yk, yp⟩ := y
      dsimp only at *
      obtain ⟨n1, hn1⟩ : ∃ n1, n1 = nowJ es (j + 1) := ⟨_, rfl⟩
      rw [← hn1] at hSu FC hB1
      generalize nowJ es j = n0 at *
      have hb2 := btrans hb (balloc wr (.cells #[.int .i64 ym, .int .i64 yk, .int .i64 yp] 60))
      rcases hK with rfl | rfl
      · have hS2 : Hid (n0 + 1 = n1) := by rw [hSu.out]; exact hide (by simp)
        have hF2 := FC rfl
        have hw : IntKind.i64.wrap (n0 + 1) = n1 := by rw [hS2.out]; exact wrap_in _ (by omega) (by omega)
        clear FL FC hSu
        go_wp2
        go_roundw
        case rel => exact ⟨j + 1, max r n1, by omega, by rw [hn1, ite_max], rfl, by go_num, hF2, by omega, by omega, hb2⟩
        case measure => simp [intOf]; omega
      · have hS2 : Hid (n0 - 1 = n1) := by rw [hSu.out]; exact hide (by simp)
        have hF2 := FL rfl
        have hw : IntKind.i64.wrap (n0 - 1) = n1 := by rw [hS2.out]; exact wrap_in _ (by omega) (by omega)
        clear FL FC hSu
        go_wp2
        go_roundw
        case rel => exact ⟨j + 1, r, by omega, rfl, by rw [← hn1], by go_num, hF2, hr1, hr0, hb2⟩
        case measure => simp [intOf]; omega
    · obtain rfl : j = es.length := by omega
      have hR := hide (hV.out.trans (hFo.out.peak hg1 hF.out hI).symm)
      clear hE hFo
      go_wp2
      go_ret
      exact ⟨ret_int hR.out.symm, btrans hb1 hb⟩
end Go.Proofs.Yteklmeekapegpaa
