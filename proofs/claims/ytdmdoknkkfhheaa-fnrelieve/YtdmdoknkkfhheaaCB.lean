/- Rules; who is among numbers; of program and model. -/
import Derived.Test.YtdmdoknkkfhheaaMC
import Derived.Test.YtdmdoknkkfhheaaCA
namespace Go.Proofs.Ytdmdoknkkfhheaa
open Go.RowKit

theorem has_drop {zs : List Int} {x : Int} {k : Nat} (hk : k < zs.length) : decide (x ∈ zs.drop k) = (decide (zs[k] = x) || decide (x ∈ zs.drop (k + 1))) := by
  rw [List.drop_eq_getElem_cons hk, Bool.eq_iff_iff]
  simp only [Bool.or_eq_true, decide_eq_true_eq, List.mem_cons]
  constructor
  · rintro (h | h)
    · exact .inl h.symm
    · exact .inr h
  · rintro (h | h)
    · exact .inl h.symm
    · exact .inr h

set_option maxHeartbeats 800000 in
theorem cHas (a : Option Addr) (cap : Nat) (zs : List Int) (x : Int) (w : World) (hz : Ints w a zs) (hl : zs.length ≤ 1048576) :
    Calls Try.prog 59 #[.slice a zs.length cap, .int .i64 x] w fun e w' => e = .returned (.bool (decide (x ∈ zs))) ∧ w' = w := by
  generalize hr : decide (x ∈ zs) = res
  have hr0 : Hid (decide (x ∈ zs.drop 0) = res) := hr
  clear hr
  go_enter Try.func59, Try.ntmps59
  go_wp2
  go_loop [5] (fun i => ∃ k : Nat, k ≤ zs.length ∧ i = .int .i64 k ∧ Hid (decide (x ∈ zs.drop k) = res)) (fun i => zs.length - (intOf i).toNat)
  case atStart => exact ⟨0, Nat.zero_le _, rfl, hr0⟩
  case round =>
    obtain ⟨k, hk, rfl, hres⟩ := hrel
    clear hr0
    by_cases hlt : k < zs.length
    · rcases hz with h | ⟨b, off, rfl, hc⟩
      · simp [h] at hlt
      have q0 := hc k hlt
      have e0 : zs.getD k 0 = zs[k] := by simp [List.getD, hlt]
      rw [e0] at q0
      have hd := hide ((has_drop (x := x) hlt).symm.trans hres.out)
      generalize zs[k] = y at *
      clear hc e0 hres
      by_cases hy : y = x
      · have hf := hide (show res = true by rw [← hd.out]; simp [hy])
        clear hd
        subst hy
        go_wp2
        go_ret
        exact ⟨ret_bool hf.out.symm, rfl⟩
      · have hf := hide (show decide (x ∈ zs.drop (k + 1)) = res by rw [← hd.out]; simp [hy])
        clear hd
        go_wp2
        go_round
        case rel => exact ⟨k + 1, by omega, by go_num, hf⟩
        case measure => simp [intOf]; omega
    · obtain rfl : k = zs.length := by omega
      have hf := hide (show res = false by rw [← hres.out, List.drop_length]; simp)
      clear hz
      go_wp2
      go_ret
      exact ⟨ret_bool hf.out.symm, rfl⟩

set_option maxHeartbeats 800000 in
theorem cIndexInts (a : Option Addr) (cap : Nat) (zs : List Int) (x : Int) (w : World) (hz : Ints w a zs) (hl : zs.length ≤ 1048576) :
    Calls Try.prog 67 #[.slice a zs.length cap, .int .i64 x] w fun e w' => ∃ r : Int, e = .returned (.int .i64 r) ∧ decide (0 ≤ r) = decide (x ∈ zs) ∧ w' = w := by
  generalize hr : decide (x ∈ zs) = res
  have hr0 : Hid (decide (x ∈ zs.drop 0) = res) := hr
  clear hr
  go_enter Try.func67, Try.ntmps67
  go_wp2
  go_loop [8] (fun i => ∃ k : Nat, k ≤ zs.length ∧ i = .int .i64 k ∧ Hid (decide (x ∈ zs.drop k) = res)) (fun i => zs.length - (intOf i).toNat)
  case atStart => exact ⟨0, Nat.zero_le _, rfl, hr0⟩
  case round =>
    obtain ⟨k, hk, rfl, hres⟩ := hrel
    clear hr0
    by_cases hlt : k < zs.length
    · rcases hz with h | ⟨b, off, rfl, hc⟩
      · simp [h] at hlt
      have q0 := hc k hlt
      have e0 : zs.getD k 0 = zs[k] := by simp [List.getD, hlt]
      rw [e0] at q0
      have hd := hide (List.drop_eq_getElem_cons hlt)
      generalize zs[k] = y at *
      clear hc e0
      by_cases hxy : x = y
      · subst hxy
        have hf := hide (show res = true by rw [← hres.out, hd.out]; simp)
        clear hd hres
        go_wp2
        go_ret
        exact ⟨_, rfl, by rw [hf.out]; simp, rfl⟩
      · have hf := hide (show decide (x ∈ zs.drop (k + 1)) = res by
          rw [← hres.out, hd.out]
          simp [hxy])
        clear hd hres
        go_wp2
        go_round
        case rel => exact ⟨k + 1, by omega, by go_num, hf⟩
        case measure => simp [intOf]; omega
    · obtain rfl : k = zs.length := by omega
      have hf := hide (show res = false by rw [← hres.out, List.drop_length]; simp)
      clear hz
      go_wp2
      go_ret
      exact ⟨_, rfl, by rw [hf.out]; rfl, rfl⟩
set_option maxHeartbeats 800000 in
theorem cContainsInts (a : Option Addr) (cap : Nat) (zs : List Int) (x : Int) (w : World) (hz : Ints w a zs) (hl : zs.length ≤ 1048576) :
    Calls Try.prog 56 #[.slice a zs.length cap, .int .i64 x] w fun e w' => e = .returned (.bool (decide (x ∈ zs))) ∧ w' = w := by
  go_enter Try.func56, Try.ntmps56
  go_wp2_with fail
  refine (cIndexInts a cap zs x _ hz hl).mono ?_
  rintro e w1 ⟨r, rfl, hr, hw⟩
  subst w1
  replace hr := hide hr
  go_wp2
  go_ret
  exact ⟨ret_bool hr.out, rfl⟩


def RuleV.val (r : RuleV) : Value := .agg #[.int .i64 r.p, .int .i64 r.d, .int .i64 r.r, .int .i64 r.s]

set_option maxHeartbeats 400000 in
theorem cMins (x : Int) (w : World) : Calls Try.prog 42 #[.int .i64 x] w fun e w' => e = .returned (.bool (inB x 1 1440)) ∧ w' = w := by
  go_enter Try.func42, Try.ntmps42
  go_wp2_with fail
  refine (cWithin x 1 1440 _).mono ?_
  rintro e w1 ⟨rfl, hw⟩
  subst w1
  go_wp2
  go_ret
  exact ⟨rfl, rfl⟩

set_option maxHeartbeats 1600000 in
theorem cRuleI (s : RuleV) (w : World) : Calls Try.prog 15 #[s.val] w fun e w' => e = .returned (.bool (ruleB s)) ∧ Below w.heap.size w w' := by
  obtain ⟨e, d, f, t⟩ := s
  unfold RuleV.val
  have hW := balloc w (.cells #[.int .i64 e, .int .i64 d, .int .i64 f, .int .i64 t] 27)
  have E := hide (show ruleB ⟨e, d, f, t⟩ = (inB e 1 1440 && (inB d 1 1440 && (inB f 1 1440 && inB t 1 1440))) from rfl)
  cases g0 : inB e 1 1440
  · have R := hide (show ruleB ⟨e, d, f, t⟩ = false by rw [E.out]; simp [g0])
    clear E
    go_enter Try.func15, Try.ntmps15
    go_wp2_with (go_at_call 42; refine (cMins _ _).mono ?_; rintro e w' ⟨rfl, rfl⟩)
    go_ret
    exact ⟨ret_bool R.out.symm, hW⟩
  cases g1 : inB d 1 1440
  · have R := hide (show ruleB ⟨e, d, f, t⟩ = false by rw [E.out]; simp [g0, g1])
    clear E
    go_enter Try.func15, Try.ntmps15
    go_wp2_with (go_at_call 42; refine (cMins _ _).mono ?_; rintro e w' ⟨rfl, rfl⟩)
    go_ret
    exact ⟨ret_bool R.out.symm, hW⟩
  cases g2 : inB f 1 1440
  · have R := hide (show ruleB ⟨e, d, f, t⟩ = false by rw [E.out]; simp [g0, g1, g2])
    clear E
    go_enter Try.func15, Try.ntmps15
    go_wp2_with (go_at_call 42; refine (cMins _ _).mono ?_; rintro e w' ⟨rfl, rfl⟩)
    go_ret
    exact ⟨ret_bool R.out.symm, hW⟩
  cases g3 : inB t 1 1440
  · have R := hide (show ruleB ⟨e, d, f, t⟩ = false by rw [E.out]; simp [g0, g1, g2, g3])
    clear E
    go_enter Try.func15, Try.ntmps15
    go_wp2_with (go_at_call 42; refine (cMins _ _).mono ?_; rintro e w' ⟨rfl, rfl⟩)
    go_ret
    exact ⟨ret_bool R.out.symm, hW⟩
  · have R := hide (show ruleB ⟨e, d, f, t⟩ = true by rw [E.out]; simp [g0, g1, g2, g3])
    clear E
    go_enter Try.func15, Try.ntmps15
    go_wp2_with (go_at_call 42; refine (cMins _ _).mono ?_; rintro e w' ⟨rfl, rfl⟩)
    go_ret
    exact ⟨ret_bool R.out.symm, hW⟩

set_option maxHeartbeats 1600000 in
theorem cRuleS (s : RuleV) (w : World) : Calls Try.prog 24 #[s.val] w fun e w' => e = .returned (.bool (ruleB s)) ∧ Below w.heap.size w w' := by
  obtain ⟨e, d, f, t⟩ := s
  unfold RuleV.val
  have hW := balloc w (.cells #[.int .i64 e, .int .i64 d, .int .i64 f, .int .i64 t] 27)
  have E := hide (show ruleB ⟨e, d, f, t⟩ = (inB e 1 1440 && (inB d 1 1440 && (inB f 1 1440 && inB t 1 1440))) from rfl)
  cases g0 : inB e 1 1440
  · have R := hide (show ruleB ⟨e, d, f, t⟩ = false by rw [E.out]; simp [g0])
    clear E
    go_enter Try.func24, Try.ntmps24
    go_wp2_with (go_at_call 48; refine (cIn _ _ _ _).mono ?_; rintro e w' ⟨rfl, rfl⟩)
    go_ret
    exact ⟨ret_bool R.out.symm, hW⟩
  cases g1 : inB d 1 1440
  · have R := hide (show ruleB ⟨e, d, f, t⟩ = false by rw [E.out]; simp [g0, g1])
    clear E
    go_enter Try.func24, Try.ntmps24
    go_wp2_with (go_at_call 48; refine (cIn _ _ _ _).mono ?_; rintro e w' ⟨rfl, rfl⟩)
    go_ret
    exact ⟨ret_bool R.out.symm, hW⟩
  cases g2 : inB f 1 1440
  · have R := hide (show ruleB ⟨e, d, f, t⟩ = false by rw [E.out]; simp [g0, g1, g2])
    clear E
    go_enter Try.func24, Try.ntmps24
    go_wp2_with (go_at_call 48; refine (cIn _ _ _ _).mono ?_; rintro e w' ⟨rfl, rfl⟩)
    go_ret
    exact ⟨ret_bool R.out.symm, hW⟩
  cases g3 : inB t 1 1440
  · have R := hide (show ruleB ⟨e, d, f, t⟩ = false by rw [E.out]; simp [g0, g1, g2, g3])
    clear E
    go_enter Try.func24, Try.ntmps24
    go_wp2_with (go_at_call 48; refine (cIn _ _ _ _).mono ?_; rintro e w' ⟨rfl, rfl⟩)
    go_ret
    exact ⟨ret_bool R.out.symm, hW⟩
  · have R := hide (show ruleB ⟨e, d, f, t⟩ = true by rw [E.out]; simp [g0, g1, g2, g3])
    clear E
    go_enter Try.func24, Try.ntmps24
    go_wp2_with (go_at_call 48; refine (cIn _ _ _ _).mono ?_; rintro e w' ⟨rfl, rfl⟩)
    go_ret
    exact ⟨ret_bool R.out.symm, hW⟩

set_option maxHeartbeats 800000 in
theorem cToRule (e : RuleV) (w : World) : Calls Try.prog 25 #[e.val] w fun r w' => r = .returned e.val ∧ Below w.heap.size w w' := by
  obtain ⟨x0, x1, x2, x3⟩ := e
  unfold RuleV.val
  go_enter Try.func25, Try.ntmps25
  go_wp2
  refine bodyPost_ret (v := .agg #[.int .i64 x0, .int .i64 x1, .int .i64 x2, .int .i64 x3]) (by simp [results, Try.results25, go_sem]) rfl ⟨rfl, ?_⟩
  exact btrans (btrans (balloc _ _) (balloc _ _)) (balloc _ _)
end Go.Proofs.Ytdmdoknkkfhheaa
