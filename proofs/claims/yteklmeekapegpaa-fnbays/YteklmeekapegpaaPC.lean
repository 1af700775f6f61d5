/- The model's peak. -/
import Derived.Test.YteklmeekapegpaaPB
namespace Go.Proofs.Yteklmeekapegpaa
open Go.RowKit

def holdsB (s : StayV) (g m : Int) : Bool := inB m s.f (s.t + g - 1)
set_option maxHeartbeats 800000 in
theorem cHolds (s : StayV) (g m : Int) (w : World) (h1 : s.t ≤ 100000) (h0 : 0 ≤ s.t) (g0 : 1 ≤ g) (g1 : g ≤ 60) : Calls Try.prog 46 #[s.val, .int .i64 g, .int .i64 m] w fun e w' => e = .returned (.bool (holdsB s g m)) ∧ Below w.heap.size w w' := by
  obtain ⟨f, t, l⟩ := s
  unfold StayV.val
  dsimp only at *
  have hW := balloc w (.cells #[.int .i64 f, .int .i64 t, .int .i64 l] 37)
  have hw1 : IntKind.i64.wrap (t + g) = t + g := wrap_in _ (by omega) (by omega)
  have hw2 : IntKind.i64.wrap (t + g - 1) = t + g - 1 := wrap_in _ (by omega) (by omega)
  go_enter Try.func46, Try.ntmps46
  go_wp2_with fail
  refine (cIn m f (t + g - 1) _).mono ?_
  rintro e w1 ⟨rfl, hw⟩
  subst w1
  go_wp2
  go_ret
  exact ⟨rfl, hW⟩
/-- How many of the first k hold a bay in the minute m. -/
def cntTo (ss : List StayV) (g m : Int) (k : Nat) : Nat := (List.range k).countP (fun i => decide (fA ss i ≤ m ∧ m < tA ss i + g))
theorem holds_eq (ss : List StayV) (g m : Int) (k : Nat) : holdsB (ss.getD k StayV.zero) g m = decide (fA ss k ≤ m ∧ m < tA ss k + g) := by
  rw [Bool.eq_iff_iff, holdsB, inB, decide_eq_true_eq, decide_eq_true_eq]; unfold fA tA; omega
theorem cntTo_succ (ss : List StayV) (g m : Int) (k : Nat) : cntTo ss g m (k + 1) = cntTo ss g m k + (if holdsB (ss.getD k StayV.zero) g m = true then 1 else 0) := by
  unfold cntTo
  rw [List.range_succ, List.countP_append, List.countP_cons, List.countP_nil, holds_eq, Nat.zero_add]
theorem cntTo_le (ss : List StayV) (g m : Int) (k : Nat) : cntTo ss g m k ≤ k := by
  have := List.countP_le_length (p := fun i => decide (fA ss i ≤ m ∧ m < tA ss i + g)) (l := List.range k)
  simpa [cntTo] using this
theorem peakTo_le (ss : List StayV) (g : Int) (n : Nat) : ∀ k, peakTo ss g n k ≤ n
  | 0 => Nat.zero_le _
  | k + 1 => by
    have h1 := peakTo_le ss g n k
    have h2 := cntTo_le ss g (fA ss k) n
    unfold peakTo
    split
    · exact h2
    · exact h1

set_option maxRecDepth 20000 in
set_option maxHeartbeats 1600000 in
theorem cPeakS (a : Option Addr) (cap : Nat) (ss : List StayV) (g : Int) (w : World) (hz : Stays w a ss) (hl : ss.length ≤ 1048576) :
    Calls Try.prog 15 #[.slice a ss.length cap, .int .i64 g] w fun e w' => e = .returned (.int .i64 (peakV ss g)) ∧ Below w.heap.size w w' := by
  go_enter Try.func15, Try.ntmps15
  go_wp2_with fail
  refine (cStaysS a cap ss _ hz hl).mono ?_
  rintro e w1 ⟨rfl, hb1⟩
  cases hS : staysB ss
  · have hf := hide (peakV_s (g := g) hS)
    clear hS
    go_wp2
    go_ret
    exact ⟨ret_int hf.out.symm, hb1⟩
  go_wp2_with fail
  refine (cGapS g _).mono ?_
  rintro e w2 ⟨rfl, hw⟩
  subst w2
  cases hG : gapB g
  · have hf := hide (peakV_g (ss := ss) hG)
    clear hS hG
    go_wp2
    go_ret
    exact ⟨ret_int hf.out.symm, hb1⟩
  have hV := hide (peakV_ok hS hG)
  have h60 := stays_len hS
  obtain ⟨hg1, hg2⟩ := inB_true hG
  replace hS := hide hS
  clear hG
  go_wp2
  go_loopw [5, 6] (fun p i wr => ∃ k : Nat, k ≤ ss.length ∧ p = .int .i64 (peakTo ss g ss.length k) ∧ i = .int .i64 k ∧ Below w.heap.size w wr) (fun _ i _ => ss.length - (intOf i).toNat)
  case atStart => exact ⟨0, Nat.zero_le _, rfl, rfl, hb1⟩
  case round =>
    obtain ⟨k, hk, rfl, rfl, hbo⟩ := hrel
    clear hb1
    by_cases hlt : k < ss.length
    · obtain ⟨wo, rfl⟩ : ∃ wo, wo = wr := ⟨wr, rfl⟩
      have hp60 := peakTo_le ss g ss.length k
      have hPs : Hid (peakTo ss g ss.length (k + 1) = if peakTo ss g ss.length k < cntTo ss g (fA ss k) ss.length then cntTo ss g (fA ss k) ss.length else peakTo ss g ss.length k) := rfl
      have hfa : Hid (fA ss k = (ss.getD k StayV.zero).f) := rfl
      generalize hpk : peakTo ss g ss.length k = pk at *
      replace hpk := hide hpk
      rcases hz with h | ⟨b, off, rfl, hc⟩
      · simp [h] at hlt
      have qk := (hc k hlt).1
      rw [← hfa.out] at qk
      generalize fA ss k = m at *
      go_wp2
      go_loopw [7, 8] (fun n i wr => ∃ j : Nat, j ≤ ss.length ∧ n = .int .i64 (cntTo ss g m j) ∧ i = .int .i64 j ∧ Below w.heap.size w wr) (fun _ i _ => ss.length - (intOf i).toNat)
      case atStart => exact ⟨0, Nat.zero_le _, rfl, rfl, hbo⟩
      case round =>
        obtain ⟨j, hj, rfl, rfl, hb⟩ := hrel
        by_cases hjl : j < ss.length
        · obtain ⟨q0, q1, q2⟩ := hc j hjl
          replace q0 := ble hb q0
          replace q1 := ble hb q1
          replace q2 := ble hb q2
          replace qk := ble hb qk
          obtain ⟨y0, y1, y2⟩ := stays_get hS.out hjl
          have hSu := hide (cntTo_succ ss g m j)
          have hcl := cntTo_le ss g m j
          obtain ⟨n1, hn1⟩ : ∃ n1, n1 = cntTo ss g m (j + 1) := ⟨_, rfl⟩
          rw [← hn1] at hSu
          generalize cntTo ss g m j = n0 at *
          have CH := fun V => cHolds (ss.getD j StayV.zero) g m V (by omega) (by omega) hg1 hg2
          generalize ss.getD j StayV.zero = y at *
          obtain ⟨f, t, l⟩ := y
          unfold StayV.val at CH
          dsimp only at *
          have hbs : b < wr.heap.size := cell_lt q0
          have hc' := hide hc
          clear hc
          go_wp2
          go_region_held3 (fun w' => w'.cell? ⟨b, off + j * 3, none⟩ = some (.int .i64 f) ∧ w'.cell? ⟨b, off + j * 3 + 1, none⟩ = some (.int .i64 t) ∧ w'.cell? ⟨b, off + j * 3 + 2, none⟩ = some (.int .i64 l) ∧ w'.cell? ⟨b, off + k * 3, none⟩ = some (.int .i64 m)) (go_keep) (first
            | (go_at_call 46; with_reducible refine (CH _).mono ?_; rintro e wq ⟨rfl, hbq⟩; replace hbq := undrew hbq; have v0 := ble hbq q0; have v1 := ble hbq q1; have v2 := ble hbq q2; have v3 := ble hbq qk))
          have hb2 := btrans hb hbq
          cases hH : holdsB ⟨f, t, l⟩ g m
          · have hS2 : Hid (n1 = n0) := by rw [hSu.out, hH]; exact hide (by simp)
            clear hSu hH CH v0 v1 v2 v3 q0 q1 q2
            go_wp2
            go_roundw
            case rel => exact ⟨j + 1, by omega, by rw [← hn1, hS2.out], by go_num, hb2⟩
            case measure => simp [intOf]; omega
          · have hS2 : Hid ((n0 : Int) + 1 = n1) := by rw [hSu.out, hH]; exact hide (by simp)
            have hw : IntKind.i64.wrap ((n0 : Int) + 1) = (n1 : Int) := by rw [← hS2.out]; exact wrap_in _ (by omega) (by omega)
            clear hSu hH CH v0 v1 v2 v3 q0 q1 q2
            go_wp2
            go_roundw
            case rel => exact ⟨j + 1, by omega, by rw [← hn1], by go_num, hb2⟩
            case measure => simp [intOf]; omega
        · obtain rfl : j = ss.length := by omega
          generalize cntTo ss g m ss.length = c at *
          by_cases hlc : pk < c
          · have hf := hide (hPs.out.trans (if_pos hlc))
            have hlc' : (pk : Int) < (c : Int) := by omega
            go_wp2
            go_roundw
            case rel => exact ⟨k + 1, by omega, by rw [hf.out], by go_num, hb⟩
            case measure => simp [intOf]; omega
          · have hf := hide (hPs.out.trans (if_neg hlc))
            have hlc' : ¬ ((pk : Int) < (c : Int)) := by omega
            go_wp2
            go_roundw
            case rel => exact ⟨k + 1, by omega, by rw [hf.out], by go_num, hb⟩
            case measure => simp [intOf]; omega
    · obtain rfl : k = ss.length := by omega
      go_wp2
      go_ret
      exact ⟨ret_int hV.out.symm, hbo⟩
end Go.Proofs.Yteklmeekapegpaa
