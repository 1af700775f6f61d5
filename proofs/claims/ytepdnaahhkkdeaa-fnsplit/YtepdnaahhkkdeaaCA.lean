/- Right tariffs, program and model; down to a multiple. -/
import Derived.Test.YtepdnaahhkkdeaaMA
import Derived.BigQuiet
namespace Go.Proofs.Ytepdnaahhkkdeaa
open Go.RowKit
set_option maxHeartbeats 400000 in
theorem cFee (x : Int) (w : World) : Calls Try.prog 44 #[.int .i64 x] w fun e w' => e = .returned (.bool (feeB x)) ∧ w' = w := by
  go_enter Try.func44, Try.ntmps44
  go_wp2_with fail
  refine (cWithin x 0 100000 _).mono ?_
  rintro e w1 ⟨rfl, hw⟩
  subst w1
  go_wp2
  go_ret
  exact ⟨rfl, rfl⟩

set_option maxHeartbeats 400000 in
theorem cZon (x : Int) (w : World) : Calls Try.prog 47 #[.int .i64 x] w fun e w' => e = .returned (.bool (zonB x)) ∧ w' = w := by
  go_enter Try.func47, Try.ntmps47
  go_wp2_with fail
  refine (cWithin x 0 19 _).mono ?_
  rintro e w1 ⟨rfl, hw⟩
  subst w1
  go_wp2
  go_ret
  exact ⟨rfl, rfl⟩

set_option maxHeartbeats 400000 in
theorem cPay (x : Int) (w : World) : Calls Try.prog 53 #[.int .i64 x] w fun e w' => e = .returned (.bool (payB x)) ∧ w' = w := by
  go_enter Try.func53, Try.ntmps53
  go_wp2_with fail
  refine (cWithin x 0 10000000 _).mono ?_
  rintro e w1 ⟨rfl, hw⟩
  subst w1
  go_wp2
  go_ret
  exact ⟨rfl, rfl⟩

set_option maxHeartbeats 400000 in
theorem cMin (x : Int) (w : World) : Calls Try.prog 54 #[.int .i64 x] w fun e w' => e = .returned (.bool (minB x)) ∧ w' = w := by
  go_enter Try.func54, Try.ntmps54
  go_wp2_with fail
  refine (cWithin x 0 100000 _).mono ?_
  rintro e w1 ⟨rfl, hw⟩
  subst w1
  go_wp2
  go_ret
  exact ⟨rfl, rfl⟩

set_option maxHeartbeats 800000 in
theorem cDown (b s r x : Int) (js : List Int) (a : Option Addr) (c : Nat) (w : World) (hr : 1 ≤ r) (hr1 : r ≤ 100) (h0 : 0 ≤ x) (h1 : x ≤ 1000000000) :
    Calls Try.prog 48 #[.agg #[.int .i64 b, .int .i64 s, .slice a js.length c, .int .i64 r], .int .i64 x] w fun e w' => e = .returned (.int .i64 (dn r x)) ∧ Below w.heap.size w w' := by
  have hW := balloc w (.cells #[.int .i64 b, .int .i64 s, .slice a js.length c, .int .i64 r] 27)
  have hd := dn_in (r := r) hr h0
  have hne : r ≠ 0 := by omega
  have hne1 : r ≠ -1 := by omega
  have em : x.tmod r = x % r := Int.tmod_eq_emod_of_nonneg h0
  have R := hide (show x - x % r = dn r x by unfold dn; rw [em])
  rw [em] at hd
  have v1 : IntKind.i64.wrap (x % r) = x % r := wrap_in _ (by omega) (by omega)
  have v2 : IntKind.i64.wrap (x - x % r) = x - x % r := wrap_in _ (by omega) (by omega)
  generalize x % r = q at *
  go_enter Try.func48, Try.ntmps48
  go_wp2
  go_ret
  exact ⟨ret_int R.out, hW⟩

set_option maxHeartbeats 800000 in
theorem cAllFee (a : Option Addr) (cap : Nat) (zs : List Int) (w : World) (hz : Ints w a zs) (hl : zs.length ≤ 1048576) :
    Calls Try.prog 46 #[.slice a zs.length cap, .func (.func 44) #[] #[]] w fun e w' => e = .returned (.bool (zs.all feeB)) ∧ w' = w := by
  generalize hr : zs.all feeB = res
  have hr0 : Hid ((zs.drop 0).all feeB = res) := hr
  clear hr
  go_enter Try.func46, Try.ntmps46
  go_wp2
  go_loop [9] (fun i => ∃ k : Nat, k ≤ zs.length ∧ i = .int .i64 k ∧ Hid ((zs.drop k).all feeB = res)) (fun i => zs.length - (intOf i).toNat)
  case atStart => exact ⟨0, Nat.zero_le _, rfl, hr0⟩
  case round =>
    obtain ⟨k, hk, rfl, hres⟩ := hrel
    clear hr0
    by_cases hlt : k < zs.length
    · rcases hz with h | ⟨bb, off, rfl, hc⟩
      · simp [h] at hlt
      have q0 := hc k hlt
      have e0 : zs.getD k 0 = zs[k] := by simp [List.getD, hlt]
      rw [e0] at q0
      have hd := hide ((all_drop (P := feeB) hlt).symm.trans hres.out)
      generalize zs[k] = y at *
      clear hc e0 hres
      go_wp2_with fail
      refine (cFee y _).mono ?_
      rintro e w1 ⟨rfl, hw⟩
      subst w1
      cases hy : feeB y
      · have hf := hide (show res = false by rw [← hd.out, hy]; rfl)
        clear hd hy
        go_wp2
        go_ret
        exact ⟨ret_bool hf.out.symm, rfl⟩
      · have hf := hide (show (zs.drop (k + 1)).all feeB = res by rw [← hd.out, hy]; rfl)
        clear hd hy
        go_wp2
        go_round
        case rel => exact ⟨k + 1, by omega, by go_num, hf⟩
        case measure => simp [intOf]; omega
    · obtain rfl : k = zs.length := by omega
      have hf := hide (show res = true by rw [← hres.out, List.drop_length]; rfl)
      clear hz
      go_wp2
      go_ret
      exact ⟨ret_bool hf.out.symm, rfl⟩

set_option maxHeartbeats 800000 in
theorem cAllZon (a : Option Addr) (cap : Nat) (zs : List Int) (w : World) (hz : Ints w a zs) (hl : zs.length ≤ 1048576) :
    Calls Try.prog 46 #[.slice a zs.length cap, .func (.func 47) #[] #[]] w fun e w' => e = .returned (.bool (zs.all zonB)) ∧ w' = w := by
  generalize hr : zs.all zonB = res
  have hr0 : Hid ((zs.drop 0).all zonB = res) := hr
  clear hr
  go_enter Try.func46, Try.ntmps46
  go_wp2
  go_loop [9] (fun i => ∃ k : Nat, k ≤ zs.length ∧ i = .int .i64 k ∧ Hid ((zs.drop k).all zonB = res)) (fun i => zs.length - (intOf i).toNat)
  case atStart => exact ⟨0, Nat.zero_le _, rfl, hr0⟩
  case round =>
    obtain ⟨k, hk, rfl, hres⟩ := hrel
    clear hr0
    by_cases hlt : k < zs.length
    · rcases hz with h | ⟨bb, off, rfl, hc⟩
      · simp [h] at hlt
      have q0 := hc k hlt
      have e0 : zs.getD k 0 = zs[k] := by simp [List.getD, hlt]
      rw [e0] at q0
      have hd := hide ((all_drop (P := zonB) hlt).symm.trans hres.out)
      generalize zs[k] = y at *
      clear hc e0 hres
      go_wp2_with fail
      refine (cZon y _).mono ?_
      rintro e w1 ⟨rfl, hw⟩
      subst w1
      cases hy : zonB y
      · have hf := hide (show res = false by rw [← hd.out, hy]; rfl)
        clear hd hy
        go_wp2
        go_ret
        exact ⟨ret_bool hf.out.symm, rfl⟩
      · have hf := hide (show (zs.drop (k + 1)).all zonB = res by rw [← hd.out, hy]; rfl)
        clear hd hy
        go_wp2
        go_round
        case rel => exact ⟨k + 1, by omega, by go_num, hf⟩
        case measure => simp [intOf]; omega
    · obtain rfl : k = zs.length := by omega
      have hf := hide (show res = true by rw [← hres.out, List.drop_length]; rfl)
      clear hz
      go_wp2
      go_ret
      exact ⟨ret_bool hf.out.symm, rfl⟩

set_option maxHeartbeats 1600000 in
theorem cTfI (b s r : Int) (js : List Int) (a : Option Addr) (c : Nat) (w : World) (hz : Ints w a js) (hl : js.length ≤ 1048576) :
    Calls Try.prog 15 #[.agg #[.int .i64 b, .int .i64 s, .slice a js.length c, .int .i64 r]] w fun e w' => e = .returned (.bool (tfB b s js r)) ∧ Below w.heap.size w w' := by
  have hW := balloc w (.cells #[.int .i64 b, .int .i64 s, .slice a js.length c, .int .i64 r] 27)
  cases h0 : feeB b
  · have R := hide (tf_b (s := s) (r := r) (js := js) h0)
    go_enter Try.func15, Try.ntmps15
    go_wp2_with (go_at_call 44; refine (cFee _ _).mono ?_; rintro e w' ⟨rfl, rfl⟩)
    go_ret
    exact ⟨ret_bool R.out.symm, hW⟩
  cases h1 : feeB s
  · have R := hide (tf_s (b := b) (r := r) (js := js) h1)
    go_enter Try.func15, Try.ntmps15
    go_wp2_with (go_at_call 44; refine (cFee _ _).mono ?_; rintro e w' ⟨rfl, rfl⟩)
    go_ret
    exact ⟨ret_bool R.out.symm, hW⟩
  cases h2 : inB r 1 100
  · have R := hide (tf_r (b := b) (s := s) (js := js) h2)
    go_enter Try.func15, Try.ntmps15
    go_wp2_with (first | (go_at_call 44; refine (cFee _ _).mono ?_; rintro e w' ⟨rfl, rfl⟩) | (go_at_call 45; refine (cWithin _ _ _ _).mono ?_; rintro e w' ⟨rfl, rfl⟩))
    go_ret
    exact ⟨ret_bool R.out.symm, hW⟩
  by_cases h3 : js.length ≤ 20
  · have R := hide (tf_j h0 h1 h2 h3)
    go_enter Try.func15, Try.ntmps15
    go_wp2_with (first | (go_at_call 44; refine (cFee _ _).mono ?_; rintro e w' ⟨rfl, rfl⟩) | (go_at_call 45; refine (cWithin _ _ _ _).mono ?_; rintro e w' ⟨rfl, rfl⟩) | (go_at_call 46; refine (cAllFee _ _ js _ (hz.below hW) hl).mono ?_; rintro e w' ⟨rfl, rfl⟩))
    go_ret
    exact ⟨ret_bool R.out.symm, hW⟩
  · have R := hide (tf_n (b := b) (s := s) (r := r) h3)
    have h4 : 20 < js.length := by omega
    go_enter Try.func15, Try.ntmps15
    go_wp2_with (first | (go_at_call 44; refine (cFee _ _).mono ?_; rintro e w' ⟨rfl, rfl⟩) | (go_at_call 45; refine (cWithin _ _ _ _).mono ?_; rintro e w' ⟨rfl, rfl⟩))
    go_ret
    exact ⟨ret_bool R.out.symm, hW⟩

set_option maxHeartbeats 1600000 in
theorem cTfS (b s r : Int) (js : List Int) (a : Option Addr) (c : Nat) (w : World) (hz : Ints w a js) (hl : js.length ≤ 1048576) :
    Calls Try.prog 13 #[.agg #[.int .i64 b, .int .i64 s, .slice a js.length c, .int .i64 r]] w fun e w' => e = .returned (.bool (tfB b s js r)) ∧ Below w.heap.size w w' := by
  have hW := balloc w (.cells #[.int .i64 b, .int .i64 s, .slice a js.length c, .int .i64 r] 27)
  cases h0 : inB b 0 100000
  · have R := hide (tf_b (s := s) (r := r) (js := js) h0)
    go_enter Try.func13, Try.ntmps13
    go_wp2_with (go_at_call 43; refine (cIn _ _ _ _).mono ?_; rintro e w' ⟨rfl, rfl⟩)
    go_ret
    exact ⟨ret_bool R.out.symm, hW⟩
  cases h1 : inB s 0 100000
  · have R := hide (tf_s (b := b) (r := r) (js := js) h1)
    go_enter Try.func13, Try.ntmps13
    go_wp2_with (go_at_call 43; refine (cIn _ _ _ _).mono ?_; rintro e w' ⟨rfl, rfl⟩)
    go_ret
    exact ⟨ret_bool R.out.symm, hW⟩
  by_cases h3 : 20 < js.length
  · have R := hide (tf_n (b := b) (s := s) (r := r) (js := js) (by omega))
    go_enter Try.func13, Try.ntmps13
    go_wp2_with (go_at_call 43; refine (cIn _ _ _ _).mono ?_; rintro e w' ⟨rfl, rfl⟩)
    go_ret
    exact ⟨ret_bool R.out.symm, hW⟩
  cases h2 : inB r 1 100
  · have R := hide (tf_r (b := b) (s := s) (js := js) h2)
    go_enter Try.func13, Try.ntmps13
    go_wp2_with (go_at_call 43; refine (cIn _ _ _ _).mono ?_; rintro e w' ⟨rfl, rfl⟩)
    go_ret
    exact ⟨ret_bool R.out.symm, hW⟩
  have R := hide (tf_j (js := js) h0 h1 h2 (by omega))
  go_enter Try.func13, Try.ntmps13
  go_wp2_with (go_at_call 43; refine (cIn _ _ _ _).mono ?_; rintro e w' ⟨rfl, rfl⟩)
  go_loop [3] (fun i => ∃ k : Nat, k ≤ js.length ∧ i = .int .i64 k ∧ Hid ((js.drop k).all feeB = js.all feeB)) (fun i => js.length - (intOf i).toNat)
  case atStart => exact ⟨0, Nat.zero_le _, rfl, hide rfl⟩
  case round =>
    obtain ⟨k, hk, rfl, hres⟩ := hrel
    by_cases hlt : k < js.length
    · rcases hz with h | ⟨bb, off, rfl, hc⟩
      · simp [h] at hlt
      have q0 := ble hW (hc k hlt)
      have e0 : js.getD k 0 = js[k] := by simp [List.getD, hlt]
      rw [e0] at q0
      have hd := hide ((all_drop (P := feeB) hlt).symm.trans hres.out)
      clear hc e0 hres
      generalize js[k] = y at *
      cases hy : inB y 0 100000
      · have hf := hide (show tfB b s js r = false by rw [R.out, ← hd.out, show feeB y = false from hy]; rfl)
        clear hd R
        go_wp2_with (go_at_call 43; refine (cIn _ _ _ _).mono ?_; rintro e w' ⟨rfl, rfl⟩)
        go_ret
        exact ⟨ret_bool hf.out.symm, hW⟩
      · have hf := hide (show (js.drop (k + 1)).all feeB = js.all feeB by rw [← hd.out, show feeB y = true from hy]; rfl)
        clear hd
        go_wp2_with (go_at_call 43; refine (cIn _ _ _ _).mono ?_; rintro e w' ⟨rfl, rfl⟩)
        go_round
        case rel => exact ⟨k + 1, by omega, by go_num, hf⟩
        case measure => simp [intOf]; omega
    · obtain rfl : k = js.length := by omega
      have hf := hide (show tfB b s js r = true by rw [R.out, ← hres.out, List.drop_length]; rfl)
      clear hres
      go_wp2
      go_ret
      exact ⟨ret_bool hf.out.symm, hW⟩
end Go.Proofs.Ytepdnaahhkkdeaa
