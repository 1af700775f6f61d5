/- slices.Contains. -/
import Derived.Test.YtdjambejppanoaaBM
import Derived.Laws.StructEq
namespace Go.Proofs.Ytdjambejppanoaa
open Go.RowKit

set_option maxHeartbeats 800000 in
theorem cIndexInts (a : Option Addr) (cap : Nat) (zs : List Int) (x : Int) (w : World) (hz : Ints w a zs) (hl : zs.length ≤ 1048576) :
    Calls Try.prog 61 #[.slice a zs.length cap, .int .i64 x] w fun e w' => ∃ r : Int, e = .returned (.int .i64 r) ∧ decide (0 ≤ r) = decide (x ∈ zs) ∧ w' = w := by
  generalize hr : decide (x ∈ zs) = res
  have hr0 : Hid (decide (x ∈ zs.drop 0) = res) := hr
  clear hr
  go_enter Try.func61, Try.ntmps61
  go_wp2
  go_loop [8] (fun i => ∃ k : Nat, k ≤ zs.length ∧ i = .int .i64 k ∧ Hid (decide (x ∈ zs.drop k) = res)) (fun i => zs.length - (intOf i).toNat)
  case atStart => exact ⟨0, Nat.zero_le _, rfl, hr0⟩
  case round =>
    obtain ⟨k, hk, rfl, hres⟩ := hrel
    clear hr0
    by_cases hlt : k < zs.length
    · rcases hz with h | ⟨b, off, rfl, hc⟩
      · simp [h] at hlt
      have q0 := hc k hlt
      have e0 : zs.getD k 0 = zs[k] := by simp [List.getD, hlt]
      rw [e0] at q0
      have hd := hide (List.drop_eq_getElem_cons hlt)
      generalize zs[k] = y at *
      clear hc e0
      by_cases hxy : x = y
      · subst hxy
        have hf := hide (show res = true by rw [← hres.out, hd.out]; simp)
        clear hd hres
        go_wp2
        go_ret
        exact ⟨_, rfl, by rw [hf.out]; simp, rfl⟩
      · have hf := hide (show decide (x ∈ zs.drop (k + 1)) = res by
          rw [← hres.out, hd.out]
          simp [hxy])
        clear hd hres
        go_wp2
        go_round
        case rel => exact ⟨k + 1, by omega, by go_num, hf⟩
        case measure => simp [intOf]; omega
    · obtain rfl : k = zs.length := by omega
      have hf := hide (show res = false by rw [← hres.out, List.drop_length]; simp)
      clear hz
      go_wp2
      go_ret
      exact ⟨_, rfl, by rw [hf.out]; rfl, rfl⟩
set_option maxHeartbeats 800000 in
theorem cContainsInts (a : Option Addr) (cap : Nat) (zs : List Int) (x : Int) (w : World) (hz : Ints w a zs) (hl : zs.length ≤ 1048576) :
    Calls Try.prog 45 #[.slice a zs.length cap, .int .i64 x] w fun e w' => e = .returned (.bool (decide (x ∈ zs))) ∧ w' = w := by
  go_enter Try.func45, Try.ntmps45
  go_wp2_with fail
  refine (cIndexInts a cap zs x _ hz hl).mono ?_
  rintro e w1 ⟨r, rfl, hr, hw⟩
  subst w1
  replace hr := hide hr
  go_wp2
  go_ret
  exact ⟨ret_bool hr.out, rfl⟩

end Go.Proofs.Ytdjambejppanoaa
