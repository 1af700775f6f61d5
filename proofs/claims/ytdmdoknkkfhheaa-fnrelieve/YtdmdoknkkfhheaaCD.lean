/- The program's shifts: minutes, what is driven and stretched, the spread. -/
import Derived.Test.YtdmdoknkkfhheaaCC
namespace Go.Proofs.Ytdmdoknkkfhheaa
open Go.RowKit

set_option maxHeartbeats 800000 in
theorem cMinutes (x : TaskV) (hx : taskB x = true) (w : World) : Calls Try.prog 64 #[x.val] w fun e w' => e = .returned (.int .i64 (mn x)) ∧ Below w.heap.size w w' := by
  have k1 := taskB_iff.1 hx
  have E : Hid (mn x = x.t - x.f) := rfl
  generalize mn x = m at *
  obtain ⟨xe, xd, xf, xt, xp⟩ := x
  unfold TaskV.val
  dsimp only at *
  have hW := balloc w (.cells #[.int .i64 xe, .int .i64 xd, .int .i64 xf, .int .i64 xt, .int .i64 xp] 37)
  have e1 : IntKind.i64.wrap (xt - xf) = xt - xf := wrap_in _ (by omega) (by omega)
  clear hx k1
  go_enter Try.func64, Try.ntmps64
  go_wp2
  go_ret
  exact ⟨ret_int E.out.symm, hW⟩

theorem maxif (a b : Int) : (if a < b then b else a) = max a b := by
  by_cases h : a < b
  · rw [if_pos h]; omega
  · rw [if_neg h]; omega
theorem tkA_get {s : List TaskV} {k : Nat} : tkA s k = s.getD k TaskV.zero := rfl

set_option maxHeartbeats 1600000 in
theorem cDrv (a : Option Addr) (cap : Nat) (s : List TaskV) (w : World) (hz : Tasks w a s) (hs : s.all taskB = true) (hl : s.length ≤ 40) :
    Calls Try.prog 45 #[.slice a s.length cap] w fun e w' => e = .returned (.int .i64 (drv s)) ∧ Below w.heap.size w w' := by
  have hR := hide (fun k (hk : k ≤ s.length) => pre_bound hs hk)
  have hS := hide (fun k (hk : k < s.length) => pre_succ hk)
  have hM := hide (fun k (hk : k < s.length) => tkA_ok hs hk)
  have hF : Hid (pre s s.length = drv s) := rfl
  clear hs
  go_enter Try.func45, Try.ntmps45
  go_wp2
  go_loopw [3, 8] (fun v i wr => ∃ k : Nat, k ≤ s.length ∧ v = .int .i64 (pre s k) ∧ i = .int .i64 k ∧ Below w.heap.size w wr) (fun _ i _ => s.length - (intOf i).toNat)
  case atStart => exact ⟨0, Nat.zero_le _, by rw [pre_zero], rfl, Below.refl _ _⟩
  case round =>
    obtain ⟨k, hk, rfl, rfl, hb⟩ := hrel
    by_cases hlt : k < s.length
    · have hlt' : (k : Int) < (s.length : Int) := by omega
      rcases hz with h | ⟨b, off, rfl, hc⟩
      · simp [h] at hlt
      obtain ⟨q0, q1, q2, q3, q4⟩ := hc k hlt
      replace q0 := ble hb q0
      replace q1 := ble hb q1
      replace q2 := ble hb q2
      replace q3 := ble hb q3
      replace q4 := ble hb q4
      rw [← tkA_get] at q0 q1 q2 q3 q4
      have hT := hide (hS.out k hlt)
      have hb1 := hR.out k hk
      have hy := hM.out k hlt
      have hb2 := mn_pos hy
      have CM := fun w => cMinutes (tkA s k) hy w
      generalize tkA s k = y at *
      generalize mn y = m at *
      generalize pre s k = q at *
      obtain ⟨ye, yd, yf, yt, yp⟩ := y
      unfold TaskV.val at CM
      dsimp only at *
      have hb3 := btrans hb (balloc wr (.cells #[.int .i64 ye, .int .i64 yd, .int .i64 yf, .int .i64 yt, .int .i64 yp] 37))
      have hw : IntKind.i64.wrap (q + m) = q + m := wrap_in _ (by omega) (by omega)
      clear hc hy
      go_wp2_with fail
      refine (CM _).mono ?_
      rintro e w1 ⟨rfl, hb4⟩
      have hb5 := btrans hb3 hb4
      clear CM
      go_wp2
      go_roundw
      case rel => exact ⟨k + 1, by omega, by rw [hT.out], by go_num, hb5⟩
      case measure => simp [intOf]; omega
    · obtain rfl : k = s.length := by omega
      clear hz
      go_wp2
      go_ret
      exact ⟨ret_int hF.out, hb⟩

set_option maxHeartbeats 800000 in
theorem cSpd (a : Option Addr) (cap : Nat) (s : List TaskV) (w : World) (hz : Tasks w a s) (hs : s.all taskB = true) (h0 : 0 < s.length) (hl : s.length ≤ 40) :
    Calls Try.prog 50 #[.slice a s.length cap] w fun e w' => e = .returned (.int .i64 (spd s)) ∧ ∃ n, w' = w.drewN n := by
  have E : Hid (spd s = (tkA s (s.length - 1)).t - (tkA s 0).f) := rfl
  rcases hz with h | ⟨b, off, rfl, hc⟩
  · simp [h] at h0
  obtain ⟨L, hL⟩ : ∃ L, L = s.length - 1 := ⟨_, rfl⟩
  have q3 := (hc L (by omega)).2.2.2.1
  have p2 := (hc 0 h0).2.2.1
  rw [← tkA_get] at q3 p2
  have k1 := taskB_iff.1 (tkA_ok hs (i := L) (by omega))
  have k2 := taskB_iff.1 (tkA_ok hs h0)
  rw [← hL] at E
  generalize spd s = r at *
  generalize (tkA s L).t = x at *
  generalize (tkA s 0).f = y at *
  have e1 : IntKind.i64.wrap ((s.length : Int) - 1) = (L : Int) := (wrap_in _ (by omega) (by omega)).trans (by omega)
  have e2 : (L : Int) < (s.length : Int) := by omega
  have e3 : (0 : Int) < (s.length : Int) := by omega
  have e5 : 0 < s.length := h0
  have e4 : IntKind.i64.wrap (x - y) = x - y := wrap_in _ (by omega) (by omega)
  have hbs := cell_lt p2
  simp only [Nat.zero_mul, Nat.add_zero] at p2
  have hL' := hide hL
  clear hc k1 k2 hL hs
  go_enter Try.func50, Try.ntmps50
  go_wp2
  go_quiet (fail)
  go_wp2
  go_ret
  exact ⟨ret_int E.out.symm, _, rfl⟩

set_option maxRecDepth 20000 in
set_option maxHeartbeats 3200000 in
theorem cStr (a : Option Addr) (cap : Nat) (s : List TaskV) (rest : Int) (w : World) (hz : Tasks w a s) (hs : s.all taskB = true) (hl : s.length ≤ 40) :
    Calls Try.prog 46 #[.slice a s.length cap, .int .i64 rest] w fun e w' => e = .returned (.int .i64 (strV rest s)) ∧ Below w.heap.size w w' := by
  have hR := hide (fun k (hk : k ≤ s.length) => strF_bound (rest := rest) hs hk)
  have hM := hide (fun k (hk : k < s.length) => tkA_ok hs hk)
  have hF : Hid ((strF rest s s.length).1 = strV rest s) := rfl
  have hS : Hid (∀ k, strF rest s (k + 1) = (max (strF rest s k).1 ((if 0 < k ∧ rest ≤ gp s k then 0 else (strF rest s k).2) + mn (tkA s k)), (if 0 < k ∧ rest ≤ gp s k then 0 else (strF rest s k).2) + mn (tkA s k))) := fun _ => rfl
  clear hs
  go_enter Try.func46, Try.ntmps46
  go_wp2
  go_loopw [5, 6, 11] (fun m v i wr => ∃ k : Nat, k ≤ s.length ∧ m = .int .i64 (strF rest s k).1 ∧ v = .int .i64 (strF rest s k).2 ∧ i = .int .i64 k ∧ Below w.heap.size w wr) (fun _ _ i _ => s.length - (intOf i).toNat)
  case atStart => exact ⟨0, Nat.zero_le _, rfl, rfl, rfl, Below.refl _ _⟩
  case round =>
    obtain ⟨k, hk, rfl, rfl, rfl, hb⟩ := hrel
    by_cases hlt : k < s.length
    · have hlt' : (k : Int) < (s.length : Int) := by omega
      rcases hz with h | ⟨b, off, rfl, hc⟩
      · simp [h] at hlt
      obtain ⟨q0, q1, q2, q3, q4⟩ := hc k hlt
      replace q0 := ble hb q0
      replace q1 := ble hb q1
      replace q2 := ble hb q2
      replace q3 := ble hb q3
      replace q4 := ble hb q4
      rw [← tkA_get] at q0 q1 q2 q3 q4
      have hbs := cell_lt q0
      have hT := hide (hS.out k)
      have hb1 := hR.out k hk
      have hy := hM.out k hlt
      have hb2 := mn_pos hy
      have ky := taskB_iff.1 hy
      have hg : Hid (gp s k = (tkA s k).f - (tkA s (k - 1)).t) := rfl
      have CM := fun w => cMinutes (tkA s k) hy w
      generalize (strF rest s k).1 = mo at *
      generalize (strF rest s k).2 = q at *
      by_cases h0 : 0 < k
      · obtain ⟨j, hj⟩ : ∃ j, j = k - 1 := ⟨_, rfl⟩
        have hjs : j < s.length := by omega
        have kz := taskB_iff.1 (hM.out j hjs)
        have z3 := ble hb (hc j hjs).2.2.2.1
        rw [← tkA_get] at z3
        rw [← hj] at hg
        have e1 : IntKind.i64.wrap ((k : Int) - 1) = (j : Int) := (wrap_in _ (by omega) (by omega)).trans (by omega)
        have e2 : (j : Int) < (s.length : Int) := by omega
        have e3 : (0 : Int) < (k : Int) := by omega
        generalize tkA s k = y at *
        generalize mn y = m at *
        generalize (tkA s j).t = z at *
        obtain ⟨ye, yd, yf, yt, yp⟩ := y
        unfold TaskV.val at CM
        dsimp only at *
        have e4 : IntKind.i64.wrap (yf - z) = yf - z := wrap_in _ (by omega) (by omega)
        have hA := balloc wr (.cells #[.int .i64 ye, .int .i64 yd, .int .i64 yf, .int .i64 yt, .int .i64 yp] 37)
        have hX := one_block wr (.cells #[.int .i64 ye, .int .i64 yd, .int .i64 yf, .int .i64 yt, .int .i64 yp] 37)
        replace z3 := ble hA z3
        have hb3 := btrans hb hA
        have HJ := hide hj
        clear hc hy hj
        by_cases hr : rest ≤ yf - z
        · rw [hg.out] at hT
          have hT2 : Hid (strF rest s (k + 1) = (max mo (0 + m), 0 + m)) := hide (by rw [hT.out, if_pos ⟨h0, hr⟩])
          have hd : decide (rest ≤ yf - z) = true := decide_eq_true hr
          rw [Int.zero_add] at hT2
          clear hT hg
          go_wp2
          go_quiet (fail)
          go_wp2_with fail
          refine (CM _).mono ?_
          rintro e w1 ⟨rfl, hb4⟩
          have hb5 := btrans hb3 (undrewN hb4)
          clear CM
          go_wp2
          go_roundw
          case rel => exact ⟨k + 1, by omega, by rw [hT2.out]; exact congrArg _ (maxif _ _), by rw [hT2.out], by go_num, hb5⟩
          case measure => simp [intOf]; omega
        · rw [hg.out] at hT
          have hT2 : Hid (strF rest s (k + 1) = (max mo (q + m), q + m)) := hide (by rw [hT.out, if_neg (fun h => hr h.2)])
          have hd : decide (rest ≤ yf - z) = false := decide_eq_false hr
          have hw : IntKind.i64.wrap (q + m) = q + m := wrap_in _ (by omega) (by omega)
          clear hT hg
          go_wp2
          go_quiet (fail)
          go_wp2_with fail
          refine (CM _).mono ?_
          rintro e w1 ⟨rfl, hb4⟩
          have hb5 := btrans hb3 (undrewN hb4)
          clear CM
          go_wp2
          go_roundw
          case rel => exact ⟨k + 1, by omega, by rw [hT2.out]; exact congrArg _ (maxif _ _), by rw [hT2.out], by go_num, hb5⟩
          case measure => simp [intOf]; omega
      · obtain rfl : k = 0 := by omega
        simp only [Nat.zero_mul, Nat.add_zero] at q0 q1 q2 q3 q4
        have hT2 : Hid (strF rest s 1 = (max mo (q + mn (tkA s 0)), q + mn (tkA s 0))) := hide (by rw [hT.out, if_neg (fun h => h0 h.1)])
        generalize tkA s 0 = y at *
        generalize mn y = m at *
        obtain ⟨ye, yd, yf, yt, yp⟩ := y
        unfold TaskV.val at CM
        dsimp only at *
        have hA := balloc wr (.cells #[.int .i64 ye, .int .i64 yd, .int .i64 yf, .int .i64 yt, .int .i64 yp] 37)
        have hX := one_block wr (.cells #[.int .i64 ye, .int .i64 yd, .int .i64 yf, .int .i64 yt, .int .i64 yp] 37)
        have hb3 := btrans hb hA
        have hw : IntKind.i64.wrap (q + m) = q + m := wrap_in _ (by omega) (by omega)
        clear hc hy hT hg h0
        go_wp2
        go_quiet (fail)
        go_wp2_with fail
        refine (CM _).mono ?_
        rintro e w1 ⟨rfl, hb4⟩
        have hb5 := btrans hb3 (undrewN hb4)
        clear CM
        go_wp2
        go_roundw
        case rel => exact ⟨0 + 1, by omega, by rw [hT2.out]; exact congrArg _ (maxif _ _), by rw [hT2.out], by go_num, hb5⟩
        case measure => simp [intOf]; omega
    · obtain rfl : k = s.length := by omega
      clear hz
      go_wp2
      go_ret
      exact ⟨ret_int hF.out, hb⟩
end Go.Proofs.Ytdmdoknkkfhheaa
