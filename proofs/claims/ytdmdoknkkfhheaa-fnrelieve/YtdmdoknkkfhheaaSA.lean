/- Driven and Stretched of the model. -/
import Derived.Test.YtdmdoknkkfhheaaCC
import Derived.Test.YtdmdoknkkfhheaaMD
namespace Go.Proofs.Ytdmdoknkkfhheaa
open Go.RowKit

theorem pick_at {ts : List TaskV} {ps : List Int} (h : dutyB ts ps = true) {k : Nat} (hk : k < ps.length) :
    ∃ q : Nat, ps.getD k 0 = (q : Int) ∧ q < ts.length ∧ tkA (pickL ts ps) k = ts.getD q TaskV.zero ∧ taskB (ts.getD q TaskV.zero) = true := by
  have h1 := (plB_iff.1 (dutyB_pl h).1)
  have h2 := okP_range (h1.2.2 k hk)
  have h3 := h1.1
  simp only [tasksB, Bool.and_eq_true] at h3
  refine ⟨(ps.getD k 0).toNat, by omega, h2.2, tkA_pick hk, tkA_ok h3.2 h2.2⟩

set_option maxRecDepth 20000 in
set_option maxHeartbeats 3200000 in
theorem cDrivenS (ta : Option Addr) (tc : Nat) (ts : List TaskV) (pa : Option Addr) (pc : Nat) (ps : List Int) (w : World) (ht : Tasks w ta ts) (hp : Ints w pa ps) (hlt : ts.length ≤ 1048576) (hpc : ps.length ≤ pc) :
    Calls Try.prog 27 #[.slice ta ts.length tc, .slice pa ps.length pc] w fun e w' => e = .returned (.int .i64 (drivenV ts ps)) ∧ Below w.heap.size w w' := by
  have CD := cDutyS ta tc ts pa pc ps w ht hp hlt hpc
  have N := hide (fun h => drivenV_no (ts := ts) (ps := ps) h)
  have Y := hide (fun h => drivenV_yes (ts := ts) (ps := ps) h)
  generalize drivenV ts ps = res at *
  go_enter Try.func27, Try.ntmps27
  go_wp2_with fail
  refine CD.mono ?_
  rintro e w1 ⟨rfl, hb0⟩
  cases hd : dutyB ts ps
  · have R := hide (N.out hd)
    clear N Y CD hp ht
    go_wp2
    go_ret
    exact ⟨ret_int R.out.symm, hb0⟩
  have R := hide (Y.out hd)
  obtain ⟨s1, s2, s3⟩ := duty_pick hd
  have hR := hide (fun k (hk : k ≤ (pickL ts ps).length) => pre_bound s1 hk)
  have hS := hide (fun k (hk : k < (pickL ts ps).length) => pre_succ hk)
  have hA := hide (fun k (hk : k < ps.length) => pick_at hd hk)
  have hE : Hid (drv (pickL ts ps) = pre (pickL ts ps) (pickL ts ps).length) := rfl
  rw [pickL_len] at hR hS hE s2 s3
  generalize pickL ts ps = s at *
  clear N Y CD hd s1
  go_wp2
  go_loopw [5, 6] (fun v i wr => ∃ k : Nat, k ≤ ps.length ∧ v = .int .i64 (pre s k) ∧ i = .int .i64 k ∧ Below w.heap.size w wr) (fun _ i _ => ps.length - (intOf i).toNat)
  case atStart => exact ⟨0, Nat.zero_le _, by rw [pre_zero], rfl, hb0⟩
  case round =>
    obtain ⟨k, hk, rfl, rfl, hb⟩ := hrel
    clear hb0
    by_cases hlk : k < ps.length
    · have hlk' : (k : Int) < (ps.length : Int) := by omega
      obtain ⟨q, a1, a2, a3, a4⟩ := hA.out k hlk
      rcases hp with h | ⟨b, off, rfl, hc⟩
      · simp [h] at hlk
      rcases ht with h | ⟨tb, toff, rfl, htc⟩
      · simp [h] at a2
      have p0 := ble hb (hc k hlk)
      rw [a1] at p0
      have q2 := ble hb (htc q a2).2.2.1
      have q3 := ble hb (htc q a2).2.2.2.1
      have a2' : (q : Int) < (ts.length : Int) := by omega
      have hT := hide (hS.out k hlk)
      rw [a3] at hT
      have hb1 := hR.out k hk
      have hb2 := mn_pos a4
      have hM : Hid (mn (ts.getD q TaskV.zero) = (ts.getD q TaskV.zero).t - (ts.getD q TaskV.zero).f) := rfl
      have ky := taskB_iff.1 a4
      generalize mn (ts.getD q TaskV.zero) = m at *
      generalize ts.getD q TaskV.zero = y at *
      generalize pre s k = v at *
      obtain ⟨ye, yd, yf, yt, yp⟩ := y
      dsimp only at *
      have e1 : IntKind.i64.wrap (v + yt) = v + yt := wrap_in _ (by omega) (by omega)
      have e2 : IntKind.i64.wrap (v + yt - yf) = v + yt - yf := wrap_in _ (by omega) (by omega)
      clear hc htc a1 a3 a4 hA
      go_wp2
      go_quiet (fail)
      go_wp2
      go_roundw
      case rel => exact ⟨k + 1, by omega, (by rw [hT.out, hM.out]; congr 1; omega), by go_num, bdraw hb _⟩
      case measure => simp [intOf]; omega
    · obtain rfl : k = ps.length := by omega
      clear hp ht hA
      go_wp2
      go_ret
      exact ⟨ret_int (by rw [R.out, hE.out]), hb⟩

set_option maxRecDepth 20000 in
set_option maxHeartbeats 3200000 in
theorem cStretchedS (ta : Option Addr) (tc : Nat) (ts : List TaskV) (pa : Option Addr) (pc : Nat) (ps : List Int) (rest : Int) (w : World) (ht : Tasks w ta ts) (hp : Ints w pa ps) (hlt : ts.length ≤ 1048576) (hpc : ps.length ≤ pc) :
    Calls Try.prog 20 #[.slice ta ts.length tc, .slice pa ps.length pc, .int .i64 rest] w fun e w' => e = .returned (.int .i64 (stretchV ts ps rest)) ∧ Below w.heap.size w w' := by
  have CD := cDutyS ta tc ts pa pc ps w ht hp hlt hpc
  have N1 := hide (fun h => stretchV_no1 (ts := ts) (ps := ps) (rest := rest) h)
  have N2 := hide (fun h => stretchV_no2 (ts := ts) (ps := ps) (rest := rest) h)
  have Y := hide (fun h h2 => stretchV_yes (ts := ts) (ps := ps) (rest := rest) h h2)
  generalize stretchV ts ps rest = res at *
  go_enter Try.func20, Try.ntmps20
  go_wp2_with fail
  refine CD.mono ?_
  rintro e w1 ⟨rfl, hb0⟩
  cases hd : dutyB ts ps
  · have R := hide (N1.out hd)
    clear N1 N2 Y CD hp ht
    go_wp2
    go_ret
    exact ⟨ret_int R.out.symm, hb0⟩
  go_wp2_with fail
  refine (cIn rest 1 1440 _).mono ?_
  rintro e w2 ⟨rfl, hw⟩
  subst w2
  cases hr : inB rest 1 1440
  · have R := hide (N2.out hr)
    clear N1 N2 Y CD hp ht
    go_wp2
    go_ret
    exact ⟨ret_int R.out.symm, hb0⟩
  have R := hide (Y.out hd hr)
  obtain ⟨s1, s2, s3⟩ := duty_pick hd
  have hR := hide (fun k (hk : k ≤ (pickL ts ps).length) => pre_bound s1 hk)
  have hS := hide (fun k (hk : k < (pickL ts ps).length) => pre_succ hk)
  have hA := hide (fun k (hk : k < ps.length) => pick_at hd hk)
  have hB := hide (fun (Q : Nat → Nat → Prop) (m : Int) h => MostQ.bound (rest := rest) (Q := Q) (m := m) s1 h)
  have hDn := hide (fun (m : Int) h => MostQ.done (rest := rest) (m := m) s1 h)
  have hPM := hide (fun (i k : Nat) (h1 : i ≤ k) (h2 : k ≤ (pickL ts ps).length) => pre_mono s1 h1 h2)
  have hov := hide (fun (i : Nat) (m : Int) h => MostQ.over (rest := rest) (s := pickL ts ps) (i := i) (m := m) h)
  have hsp := hide (fun (i k : Nat) (m : Int) (h : MostQ rest (pickL ts ps) (fun a b => a < i ∨ (a = i ∧ b ≤ k)) m) h1 (h2 : k < (pickL ts ps).length) h3 (m' : Int) h4 => MostQ.step h h1 h2 h3 (m' := m') h4)
  have hL := pickL_len ts ps
  rw [hL] at s2 s3
  simp only [hL] at hR hS hPM hov hsp hDn hB
  clear hL
  generalize pickL ts ps = s at *
  clear N1 N2 Y CD hd hr s1
  go_wp2
  go_loopw [7, 8] (fun mo i wr => ∃ (k : Nat) (m : Int), k ≤ ps.length ∧ mo = .int .i64 m ∧ i = .int .i64 k ∧ Hid (MostQ rest s (fun a _ => a < k) m) ∧ Below w.heap.size w wr) (fun _ i _ => ps.length - (intOf i).toNat)
  case atStart => exact ⟨0, 0, Nat.zero_le _, rfl, rfl, hide (MostQ.zero rest s), hb0⟩
  case round =>
    obtain ⟨i, m0, hi, rfl, rfl, hQ, hb⟩ := hrel
    clear hb0
    generalize wr = wo at *
    by_cases hli : i < ps.length
    · have hli' : (i : Int) < (ps.length : Int) := by omega
      have hQ1 := hide hQ.out.enter
      clear hQ
      go_wp2
      go_loopw [7, 9, 10] (fun mo sm kk wr => ∃ (k : Nat) (m : Int), i ≤ k ∧ k ≤ ps.length ∧ mo = .int .i64 m ∧ sm = .int .i64 (pre s k - pre s i) ∧ kk = .int .i64 k ∧ Hid (MostQ rest s (fun a b => a < i ∨ (a = i ∧ b ≤ k)) m) ∧ Hid (Jn rest s i k) ∧ Below w.heap.size w wr) (fun _ _ kk _ => ps.length - (intOf kk).toNat)
      case atStart => exact ⟨i, m0, Nat.le_refl _, hi, rfl, by rw [Int.sub_self], rfl, hQ1, hide (fun q h1 h2 => by omega), hb⟩
      case round =>
        obtain ⟨k, m, hik, hk, rfl, rfl, rfl, hQ, hJ, hb⟩ := hrel
        clear hQ1
        by_cases hlk : k < ps.length
        · have hlk' : (k : Int) < (ps.length : Int) := by omega
          obtain ⟨q, a1, a2, a3, a4⟩ := hA.out k hlk
          rcases hp with h | ⟨b, off, rfl, hc⟩
          · simp [h] at hlk
          rcases ht with h | ⟨tb, toff, rfl, htc⟩
          · simp [h] at a2
          have p0 := ble hb (hc k hlk)
          rw [a1] at p0
          have q2 := ble hb (htc q a2).2.2.1
          have q3 := ble hb (htc q a2).2.2.2.1
          have a2' : (q : Int) < (ts.length : Int) := by omega
          have hT := hide (hS.out k hlk)
          rw [a3] at hT
          have hb1 := hR.out k hk
          have hb1' := hR.out i hi
          have hmo := hPM.out i k hik hk
          have hb2 := mn_pos a4
          have hM : Hid (mn (ts.getD q TaskV.zero) = (ts.getD q TaskV.zero).t - (ts.getD q TaskV.zero).f) := rfl
          have ky := taskB_iff.1 a4
          have hmb := hB.out _ m hQ.out
          have hg : Hid (gp s k = (tkA s k).f - (tkA s (k - 1)).t) := rfl
          rw [a3] at hg
          have hJ1 := hide (fun (h : gp s k < rest) => hJ.out.more h)
          have hst := hide (fun (h : i < k) h2 => hQ.out.stop h h2)
          have hsp1 := hide (fun (h : Jn rest s i (k + 1)) => hsp.out i k m hQ.out hik hlk h _ rfl)
          rw [hT.out] at hsp1
          generalize mn (ts.getD q TaskV.zero) = mq at *
          generalize ts.getD q TaskV.zero = y at *
          generalize pre s k = v at *
          generalize pre s i = u at *
          obtain ⟨ye, yd, yf, yt, yp⟩ := y
          dsimp only at *
          have e1 : IntKind.i64.wrap (v - u + yt) = v - u + yt := wrap_in _ (by omega) (by omega)
          have e2 : IntKind.i64.wrap (v - u + yt - yf) = v - u + yt - yf := wrap_in _ (by omega) (by omega)
          by_cases hg0 : i < k
          · have hg0' : (i : Int) < (k : Int) := by omega
            obtain ⟨j, hj⟩ : ∃ j, j = k - 1 := ⟨_, rfl⟩
            obtain ⟨q', b1, b2, b3, b4⟩ := hA.out j (by omega)
            have z0 := ble hb (hc j (by omega))
            rw [b1] at z0
            have z3 := ble hb (htc q' b2).2.2.2.1
            rw [← hj, b3] at hg
            have kz := taskB_iff.1 b4
            have b2' : (q' : Int) < (ts.length : Int) := by omega
            generalize (ts.getD q' TaskV.zero).t = z at *
            have e3 : IntKind.i64.wrap ((k : Int) - 1) = (j : Int) := (wrap_in _ (by omega) (by omega)).trans (by omega)
            have e4 : (j : Int) < (ps.length : Int) := by omega
            have e5 : IntKind.i64.wrap (yf - z) = yf - z := wrap_in _ (by omega) (by omega)
            by_cases hr : rest ≤ yf - z
            · have hN := hide (hst.out hg0 (by rw [hg.out]; exact hr))
              have hd : decide (rest ≤ yf - z) = true := decide_eq_true hr
              clear hst hsp1 hJ1 hc htc a1 a3 a4 b1 b3 b4 hA hg hT hQ hJ hM hj hB hDn hPM hov hsp hR hS
              go_wp2
              go_quiet (fail)
              go_wp2
              go_roundw
              case rel => exact ⟨i + 1, m, by omega, rfl, by go_num, hN, bdraw hb _⟩
              case measure => simp [intOf]; omega
            · have hJ2 := hide (hJ1.out (by rw [hg.out]; omega))
              have hN := hide (hsp1.out hJ2.out)
              have hd : decide (rest ≤ yf - z) = false := decide_eq_false hr
              clear hst hsp1 hJ1 hc htc a1 a3 a4 b1 b3 b4 hA hg hQ hJ hj hB hDn hPM hov hsp hR hS
              have hs3 : v - u + yt - yf = v + mq - u := by have := hM.out; omega
              have hs4 := hide hs3
              clear hs3
              by_cases hgt : m < v - u + yt - yf
              · have hN2 : Hid (MostQ rest s (fun a b => a < i ∨ (a = i ∧ b ≤ k + 1)) (v - u + yt - yf)) := hide (by
                  have h := hN.out
                  rwa [← hs4.out, Int.max_eq_right (by omega)] at h)
                clear hN
                go_wp2
                go_quiet (fail)
                go_wp2
                go_quiet (fail)
                go_wp2
                go_roundw
                case rel => exact ⟨k + 1, _, by omega, by omega, rfl, (by rw [hT.out]; congr 1; first | done | (have := hs4.out; omega)), by go_num, hN2, hJ2, bdraw hb _⟩
                case measure => simp [intOf]; omega
              · have hN2 : Hid (MostQ rest s (fun a b => a < i ∨ (a = i ∧ b ≤ k + 1)) m) := hide (by
                  have h := hN.out
                  rwa [← hs4.out, Int.max_eq_left (by omega)] at h)
                clear hN
                go_wp2
                go_quiet (fail)
                go_wp2
                go_quiet (fail)
                go_wp2
                go_roundw
                case rel => exact ⟨k + 1, _, by omega, by omega, rfl, (by rw [hT.out]; congr 1; first | done | (have := hs4.out; omega)), by go_num, hN2, hJ2, bdraw hb _⟩
                case measure => simp [intOf]; omega
          · obtain rfl : i = k := by omega
            have hJ2 := hide (Jn.one rest s i)
            have hN := hide (hsp1.out hJ2.out)
            clear hst hsp1 hJ1 hc htc a1 a3 a4 hA hg hQ hJ hB hDn hPM hov hsp hR hS
            have hs3 : v - u + yt - yf = v + mq - u := by have := hM.out; omega
            have hs4 := hide hs3
            clear hs3
            by_cases hgt : m < v - u + yt - yf
            · have hN2 : Hid (MostQ rest s (fun a b => a < i ∨ (a = i ∧ b ≤ i + 1)) (v - u + yt - yf)) := hide (by
                have h := hN.out
                rwa [← hs4.out, Int.max_eq_right (by omega)] at h)
              clear hN
              go_wp2
              go_quiet (fail)
              go_wp2
              go_quiet (fail)
              go_wp2
              go_roundw
              case rel => exact ⟨i + 1, _, by omega, by omega, rfl, (by rw [hT.out]; congr 1; first | done | (have := hs4.out; omega)), by go_num, hN2, hJ2, bdraw hb _⟩
              case measure => simp [intOf]; omega
            · have hN2 : Hid (MostQ rest s (fun a b => a < i ∨ (a = i ∧ b ≤ i + 1)) m) := hide (by
                have h := hN.out
                rwa [← hs4.out, Int.max_eq_left (by omega)] at h)
              clear hN
              go_wp2
              go_quiet (fail)
              go_wp2
              go_quiet (fail)
              go_wp2
              go_roundw
              case rel => exact ⟨i + 1, _, by omega, by omega, rfl, (by rw [hT.out]; congr 1; first | done | (have := hs4.out; omega)), by go_num, hN2, hJ2, bdraw hb _⟩
              case measure => simp [intOf]; omega
        · obtain rfl : k = ps.length := by omega
          have hN := hide (hov.out i m hQ.out)
          clear hp ht hA
          go_wp2
          go_roundw
          case rel => exact ⟨i + 1, m, by omega, rfl, by go_num, hN, hb⟩
          case measure => simp [intOf]; omega
    · obtain rfl : i = ps.length := by omega
      have hF := hide (hDn.out m0 hQ.out)
      clear hp ht hA
      go_wp2
      go_ret
      exact ⟨ret_int (by rw [R.out, hF.out]), hb⟩
end Go.Proofs.Ytdmdoknkkfhheaa
