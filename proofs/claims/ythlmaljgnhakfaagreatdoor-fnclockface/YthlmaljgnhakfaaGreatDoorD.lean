/- Calls and trips that are right: the program's. -/
import Derived.Test.YthlmaljgnhakfaaGreatDoorC
namespace Go.Proofs.YthlmaljgnhakfaaGreatDoor
open Go.RowKit

set_option maxHeartbeats 800000 in
theorem cCallOk (c : HaltV) (w : World) : Calls Tryz.prog 31 #[c.val] w fun e w' => e = .returned (.bool (callB c)) ∧ Below w.heap.size w w' := by
  obtain ⟨n, a, d⟩ := c
  unfold HaltV.val
  have hb := balloc w (.cells #[.int .i64 n, .int .i64 a, .int .i64 d] 33)
  have E : Hid (callB ⟨n, a, d⟩ = (inB n 0 29 && inB d 0 100000 && inB a 0 d)) := rfl
  generalize callB ⟨n, a, d⟩ = res at *
  dsimp only
  cases g : inB n 0 29
  · have hq := hide (show res = false by rw [E.out, g]; rfl)
    go_enter Tryz.func31, Tryz.ntmps31
    go_wp2_with fail
    refine (cWithin n 0 29 _).mono ?_
    rintro e w1 ⟨rfl, hw⟩
    subst w1
    rw [g]
    clear E g
    go_wp2
    go_ret
    exact ⟨ret_bool hq.out.symm, hb⟩
  rw [g] at E
  by_cases h1 : 0 ≤ a
  · by_cases h2 : a ≤ d
    · by_cases h3 : d ≤ 100000
      · have hq := hide (show res = true by rw [E.out]; simp [inB]; omega)
        go_enter Tryz.func31, Tryz.ntmps31
        go_wp2_with fail
        refine (cWithin n 0 29 _).mono ?_
        rintro e w1 ⟨rfl, hw⟩
        subst w1
        rw [g]
        clear E g
        go_wp2
        go_ret
        exact ⟨ret_bool hq.out.symm, hb⟩
      · have hq := hide (show res = false by rw [E.out]; simp [inB]; omega)
        go_enter Tryz.func31, Tryz.ntmps31
        go_wp2_with fail
        refine (cWithin n 0 29 _).mono ?_
        rintro e w1 ⟨rfl, hw⟩
        subst w1
        rw [g]
        clear E g
        go_wp2
        go_ret
        exact ⟨ret_bool (by rw [hq.out]; simp; omega), hb⟩
    · have hq := hide (show res = false by rw [E.out]; simp [inB]; omega)
      go_enter Tryz.func31, Tryz.ntmps31
      go_wp2_with fail
      refine (cWithin n 0 29 _).mono ?_
      rintro e w1 ⟨rfl, hw⟩
      subst w1
      rw [g]
      clear E g
      go_wp2
      go_ret
      exact ⟨ret_bool hq.out.symm, hb⟩
  · have hq := hide (show res = false by rw [E.out]; simp [inB]; omega)
    go_enter Tryz.func31, Tryz.ntmps31
    go_wp2_with fail
    refine (cWithin n 0 29 _).mono ?_
    rintro e w1 ⟨rfl, hw⟩
    subst w1
    rw [g]
    clear E g
    go_wp2
    go_ret
    exact ⟨ret_bool hq.out.symm, hb⟩

set_option maxHeartbeats 800000 in
theorem cAllCalls (a : Option Addr) (cap : Nat) (cs : List HaltV) (w : World) (hz : Halts w a cs) (hl : cs.length ≤ 1048576) :
    Calls Tryz.prog 30 #[.slice a cs.length cap, .func (.func 31) #[] #[]] w fun e w' => e = .returned (.bool (cs.all callB)) ∧ Below w.heap.size w w' := by
  generalize hr : cs.all callB = res
  have hr0 : Hid ((cs.drop 0).all callB = res) := hr
  clear hr
  go_enter Tryz.func30, Tryz.ntmps30
  go_wp2
  go_loopw [9] (fun i wr => ∃ k : Nat, k ≤ cs.length ∧ i = .int .i64 k ∧ Hid ((cs.drop k).all callB = res) ∧ Below w.heap.size w wr) (fun i _ => cs.length - (intOf i).toNat)
  case atStart => exact ⟨0, Nat.zero_le _, rfl, hr0, Below.refl _ _⟩
  case round =>
    obtain ⟨k, hk, rfl, hres, hb⟩ := hrel
    clear hr0
    by_cases hlt : k < cs.length
    · rcases hz with h | ⟨b, off, rfl, hc⟩
      · simp [h] at hlt
      obtain ⟨q0, q1, q2⟩ := hc k hlt
      replace q0 := ble hb q0
      replace q1 := ble hb q1
      replace q2 := ble hb q2
      have e0 : cs.getD k HaltV.zero = cs[k] := by simp [List.getD, hlt]
      rw [e0] at q0 q1 q2
      have hd := hide ((all_drop (P := callB) hlt).symm.trans hres.out)
      generalize cs[k] = y at *
      clear hc e0 hres
      have hcon := cCallOk y
      obtain ⟨n, a, d⟩ := y
      unfold HaltV.val at hcon
      dsimp only at *
      have hb1 := btrans hb (balloc wr (.cells #[.int .i64 n, .int .i64 a, .int .i64 d] 33))
      go_wp2_with fail
      refine (hcon _).mono ?_
      rintro e w1 ⟨rfl, hw⟩
      have hb2 := btrans hb1 hw
      clear hw hb1 hcon
      cases hy : callB ⟨n, a, d⟩
      · have hf := hide (show res = false by rw [← hd.out, hy]; rfl)
        clear hd hy
        go_wp2
        go_ret
        exact ⟨ret_bool hf.out.symm, hb2⟩
      · have hf := hide (show (cs.drop (k + 1)).all callB = res by rw [← hd.out, hy]; rfl)
        clear hd hy
        go_wp2
        go_roundw
        case rel => exact ⟨k + 1, by omega, by go_num, hf, hb2⟩
        case measure => simp [intOf]; omega
    · obtain rfl : k = cs.length := by omega
      have hf := hide (show res = true by rw [← hres.out, List.drop_length]; rfl)
      clear hz
      go_wp2
      go_ret
      exact ⟨ret_bool hf.out.symm, hb⟩
end Go.Proofs.YthlmaljgnhakfaaGreatDoor
