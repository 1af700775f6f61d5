/- DutyCode and Wage of the model. -/
import Derived.Test.YtdmdoknkkfhheaaSA
import Derived.Test.YtdmdoknkkfhheaaCG
import Derived.Deep.RegionWith
namespace Go.Proofs.Ytdmdoknkkfhheaa
open Go.RowKit

/-- A rule in a block of its own. -/
def Rul (w : World) (b : Nat) (r : RuleV) : Prop := w.cell? ⟨b, 0, none⟩ = some (.int .i64 r.p) ∧ w.cell? ⟨b, 1, none⟩ = some (.int .i64 r.d) ∧ w.cell? ⟨b, 2, none⟩ = some (.int .i64 r.r) ∧ w.cell? ⟨b, 3, none⟩ = some (.int .i64 r.s)
theorem Rul.below {w w1 : World} {b : Nat} {r : RuleV} (h : Rul w b r) (hb : Below w.heap.size w w1) : Rul w1 b r := ⟨ble hb h.1, ble hb h.2.1, ble hb h.2.2.1, ble hb h.2.2.2⟩
theorem Rul.parts {w : World} {b : Nat} {r : RuleV} (h : Rul w b r) : w.cell? ⟨b, 0, none⟩ = some (.int .i64 r.p) ∧ w.cell? ⟨b, 1, none⟩ = some (.int .i64 r.d) ∧ w.cell? ⟨b, 2, none⟩ = some (.int .i64 r.r) ∧ w.cell? ⟨b, 3, none⟩ = some (.int .i64 r.s) := h
theorem Rul.new (w : World) (r : RuleV) (t : TypeId) : Rul (w.alloc (.cells #[.int .i64 r.p, .int .i64 r.d, .int .i64 r.r, .int .i64 r.s] t)) w.heap.size r := ⟨by simp, by simp, by simp, by simp⟩

set_option maxRecDepth 20000 in
set_option maxHeartbeats 6400000 in
theorem cDutyCodeS (ta : Option Addr) (tc : Nat) (ts : List TaskV) (pa : Option Addr) (pc : Nat) (ps : List Int) (r : RuleV) (w : World) (ht : Tasks w ta ts) (hp : Ints w pa ps) (hlt : ts.length ≤ 1048576) (hpc : ps.length ≤ pc) :
    Calls Try.prog 21 #[.slice ta ts.length tc, .slice pa ps.length pc, r.val] w fun e w' => e = .returned (.int .i64 (dcV ts ps r)) ∧ Below w.heap.size w w' := by
  have CD := fun w ht hp => cDutyS ta tc ts pa pc ps w ht hp hlt hpc
  have CV := fun w ht hp => cDrivenS ta tc ts pa pc ps w ht hp hlt hpc
  have CT := fun w ht hp => cStretchedS ta tc ts pa pc ps r.r w ht hp hlt hpc
  have N1 := hide (fun h => dcV_no1 (ts := ts) (ps := ps) (r := r) h)
  have N2 := hide (fun h => dcV_no2 (ts := ts) (ps := ps) (r := r) h)
  have Y := hide (fun h h2 => dcV_yes (ts := ts) (ps := ps) (r := r) h h2)
  have CR := fun w => cRuleS r w
  generalize dcV ts ps r = res at *
  have hW := balloc w (.cells #[.int .i64 r.p, .int .i64 r.d, .int .i64 r.r, .int .i64 r.s] 27)
  have hX := Rul.new w r 27
  obtain ⟨rb, hrb⟩ : ∃ rb, rb = ruleB r := ⟨_, rfl⟩
  rw [← hrb] at CR
  have hru : Hid (ruleB r = rb) := hide hrb.symm
  clear hrb hlt hpc
  unfold RuleV.val at *
  go_enter Try.func21, Try.ntmps21
  go_wp2_with fail
  refine (CD _ (ht.below hW) (hp.below hW)).mono ?_
  rintro e w1 ⟨rfl, hb1⟩
  have hb0 := btrans hW hb1
  replace hX := hX.below hb1
  cases hd : dutyB ts ps
  · have R := hide (N1.out hd)
    clear N1 N2 Y CD hp ht CR CV CT
    go_wp2
    go_ret
    exact ⟨ret_int R.out.symm, hb0⟩
  obtain ⟨c0, c1, c2, c3⟩ := hX.parts
  go_wp2_with fail
  refine (CR _).mono ?_
  rintro e w2 ⟨rfl, hw2⟩
  replace hb0 := btrans hb0 hw2
  replace hX := hX.below hw2
  clear c0 c1 c2 c3
  cases rb
  · have R := hide (N2.out hru.out)
    clear N1 N2 Y CD hp ht CR CV CT
    go_wp2
    go_ret
    exact ⟨ret_int R.out.symm, hb0⟩
  have R := hide (Y.out hd hru.out)
  obtain ⟨s1, s2, s3⟩ := duty_pick hd
  have hA := hide (fun k (hk : k < ps.length) => pick_at hd hk)
  have DV := drivenV_yes hd
  have TV := stretchV_yes hd (inB_yes (ruleB_iff.1 hru.out).2.2.2.2.1 (ruleB_iff.1 hru.out).2.2.2.2.2.1)
  rw [DV] at CV
  rw [TV] at CT
  have sb := spd_bound s1 s2
  have hBad := hide (fun k hk h => ordB_bad (s := pickL ts ps) (k := k) hk h)
  have hYes := hide (fun h => ordB_iff (s := pickL ts ps).2 h)
  have hSp : Hid (spd (pickL ts ps) = (tkA (pickL ts ps) ((pickL ts ps).length - 1)).t - (tkA (pickL ts ps) 0).f) := rfl
  have hL := pickL_len ts ps
  simp only [hL] at hBad hYes hSp s2 s3
  clear hL DV TV
  generalize pickL ts ps = s at *
  have K0 := hide (fun h => codeV_0 (r := r) (s := s) h)
  have K1 := hide (fun h h1 => codeV_1 (r := r) (s := s) h h1)
  have K2 := hide (fun h h1 h2 => codeV_2 (r := r) (s := s) h h1 h2)
  have K3 := hide (fun h h1 h2 h3 => codeV_3 (r := r) (s := s) h h1 h2 h3)
  have K4 := hide (fun h h1 h2 h3 => codeV_4 (r := r) (s := s) h h1 h2 h3)
  clear N1 N2 Y CD hd CR hru s1
  go_wp2
  go_loopw [7] (fun i wr => ∃ k j : Nat, k ≤ ps.length ∧ i = .int .i64 (j : Int) ∧ Hid (j = k + 1) ∧ Hid (∀ q, q < k → q + 1 < ps.length → lnkB (tkA s q) (tkA s (q + 1)) = true) ∧ Below w2.heap.size w2 wr) (fun i _ => ps.length + 1 - (intOf i).toNat)
  case atStart => exact ⟨0, 1, Nat.zero_le _, rfl, hide rfl, hide (fun q hq => by omega), Below.refl _ _⟩
  case round =>
    obtain ⟨k, j, hk, rfl, hj, hD, hb⟩ := hrel
    by_cases hlt : j < ps.length
    · have hlt' : (j : Int) < (ps.length : Int) := by omega
      have hk2 : k < ps.length := by have := hj.out; omega
      obtain ⟨q, a1, a2, a3, a4⟩ := hA.out k hk2
      obtain ⟨o, d1, d2, d3, d4⟩ := hA.out j hlt
      rcases hp with h | ⟨b, off, rfl, hc⟩
      · simp [h] at hlt
      rcases ht with h | ⟨tb, toff, rfl, htc⟩
      · simp [h] at a2
      have hbw := btrans hb0 hb
      have x0 := ble hbw (hc k hk2)
      have y0 := ble hbw (hc j hlt)
      rw [a1] at x0
      rw [d1] at y0
      obtain ⟨p0, p1, p2, p3, p4⟩ := htc q a2
      obtain ⟨q0, q1, q2, q3, q4⟩ := htc o d2
      replace p0 := ble hbw p0
      replace p1 := ble hbw p1
      replace p2 := ble hbw p2
      replace p3 := ble hbw p3
      replace p4 := ble hbw p4
      replace q0 := ble hbw q0
      replace q1 := ble hbw q1
      replace q2 := ble hbw q2
      replace q3 := ble hbw q3
      replace q4 := ble hbw q4
      have hbs := cell_lt x0
      have hts := cell_lt p0
      have bad := hide (fun h => hBad.out k (by have := hj.out; omega) h)
      have hD2 : Hid (lnkB (tkA s k) (tkA s j) = true → ∀ q, q < j → q + 1 < ps.length → lnkB (tkA s q) (tkA s (q + 1)) = true) := hide (fun h q hq hq2 => by
        by_cases e : q = k
        · subst e; rw [hj.out] at h; exact h
        · exact hD.out q (by have := hj.out; omega) hq2)
      rw [← hj.out] at bad
      rw [a3, d3] at bad hD2
      generalize ts.getD q TaskV.zero = x at *
      generalize ts.getD o TaskV.zero = y at *
      have hl : Hid (lnkB x y = (decide (x.d = y.e) && decide (x.t ≤ y.f))) := rfl
      obtain ⟨xe, xd, xf, xt, xp⟩ := x
      obtain ⟨ye, yd, yf, yt, yp⟩ := y
      dsimp only at p0 p1 p2 p3 p4 q0 q1 q2 q3 q4 hl
      have e1 : IntKind.i64.wrap ((j : Int) - 1) = (k : Int) := (wrap_in _ (by omega) (by have := hj.out; omega)).trans (by have := hj.out; omega)
      have e2 : (k : Int) < (ps.length : Int) := by omega
      have e3 : (q : Int) < (ts.length : Int) := by omega
      have e4 : (o : Int) < (ts.length : Int) := by omega
      clear hc htc hD hA a1 a3 a4 d1 d3 d4 CV CT K1 K2 K3 K4 hSp hBad hYes
      have hV1 : Below wr.heap.size wr (((wr.alloc (.cells #[.int .i64 xe, .int .i64 xd, .int .i64 xf, .int .i64 xt, .int .i64 xp] 37)).alloc (.cells #[.int .i64 ye, .int .i64 yd, .int .i64 yf, .int .i64 yt, .int .i64 yp] 37)).drew) := bdraw (btrans (balloc wr (.cells #[.int .i64 xe, .int .i64 xd, .int .i64 xf, .int .i64 xt, .int .i64 xp] 37)) (balloc _ (.cells #[.int .i64 ye, .int .i64 yd, .int .i64 yf, .int .i64 yt, .int .i64 yp] 37))) 1
      have hV2 : Below wr.heap.size wr (((wr.alloc (.cells #[.int .i64 ye, .int .i64 yd, .int .i64 yf, .int .i64 yt, .int .i64 yp] 37)).alloc (.cells #[.int .i64 xe, .int .i64 xd, .int .i64 xf, .int .i64 xt, .int .i64 xp] 37)).drew) := bdraw (btrans (balloc wr (.cells #[.int .i64 ye, .int .i64 yd, .int .i64 yf, .int .i64 yt, .int .i64 yp] 37)) (balloc _ (.cells #[.int .i64 xe, .int .i64 xd, .int .i64 xf, .int .i64 xt, .int .i64 xp] 37))) 1
      go_wp2
      go_region
      · have hb2 := btrans hb hV1
        have hbw2 := btrans hbw hV1
        clear hV1 hV2 hbw
        by_cases g1 : xd = ye
        rotate_left
        · have g1' : (xd != ye) = true := by simpa using g1
          have R2 := hide (R.out.trans (K0.out (bad.out (by rw [hl.out]; simp [g1]))))
          clear bad hD2 hl R
          go_wp2
          go_ret
          exact ⟨ret_int R2.out.symm, hbw2⟩
        subst g1
        by_cases g2 : yf < xt
        · have R2 := hide (R.out.trans (K0.out (bad.out (by rw [hl.out]; simp; omega))))
          clear bad hD2 hl R
          go_wp2
          go_ret
          exact ⟨ret_int R2.out.symm, hbw2⟩
        · have hF := hide (hD2.out (by rw [hl.out]; simp; omega))
          clear bad hD2 hl
          go_wp2
          go_roundw
          case rel => exact ⟨j, j + 1, by omega, by go_num, hide rfl, hF, hb2⟩
          case measure => simp [intOf]; omega
      · have hb2 := btrans hb hV2
        have hbw2 := btrans hbw hV2
        clear hV1 hV2 hbw
        by_cases g1 : xd = ye
        rotate_left
        · have g1' : (xd != ye) = true := by simpa using g1
          have R2 := hide (R.out.trans (K0.out (bad.out (by rw [hl.out]; simp [g1]))))
          clear bad hD2 hl R
          go_wp2
          go_ret
          exact ⟨ret_int R2.out.symm, hbw2⟩
        subst g1
        by_cases g2 : yf < xt
        · have R2 := hide (R.out.trans (K0.out (bad.out (by rw [hl.out]; simp; omega))))
          clear bad hD2 hl R
          go_wp2
          go_ret
          exact ⟨ret_int R2.out.symm, hbw2⟩
        · have hF := hide (hD2.out (by rw [hl.out]; simp; omega))
          clear bad hD2 hl
          go_wp2
          go_roundw
          case rel => exact ⟨j, j + 1, by omega, by go_num, hide rfl, hF, hb2⟩
          case measure => simp [intOf]; omega
    · have hlt' : ¬ ((j : Int) < (ps.length : Int)) := by omega
      have hO := hide (hYes.out (fun q hq => hD.out q (by have := hj.out; omega) hq))
      have hbw := btrans hb0 hb
      have hX1 := hX.below hb
      obtain ⟨L, hL⟩ : ∃ L, L = ps.length - 1 := ⟨_, rfl⟩
      obtain ⟨q, a1, a2, a3, a4⟩ := hA.out L (by omega)
      obtain ⟨o, d1, d2, d3, d4⟩ := hA.out 0 s2
      rcases hp with h | ⟨b, off, rfl, hc⟩
      · simp [h] at s2
      rcases ht with h | ⟨tb, toff, rfl, htc⟩
      · simp [h] at a2
      have hpI : Ints wr (some ⟨b, off, none⟩) ps := .inr ⟨b, off, rfl, fun i hi => ble hbw (hc i hi)⟩
      have htI : Tasks wr (some ⟨tb, toff, none⟩) ts := (show Tasks w (some ⟨tb, toff, none⟩) ts from .inr ⟨tb, toff, rfl, htc⟩).below hbw
      have x0 := ble hbw (hc L (by omega))
      have y0 := ble hbw (hc 0 s2)
      rw [a1] at x0
      rw [d1] at y0
      simp only [Nat.add_zero] at y0
      have p3 := ble hbw (htc q a2).2.2.2.1
      have q2 := ble hbw (htc o d2).2.2.1
      rw [← hL, a3, d3] at hSp
      have ka := taskB_iff.1 a4
      have kd := taskB_iff.1 d4
      generalize (ts.getD q TaskV.zero).t = xt at *
      generalize (ts.getD o TaskV.zero).f = yf at *
      have e1 : IntKind.i64.wrap ((ps.length : Int) - 1) = (L : Int) := (wrap_in _ (by omega) (by omega)).trans (by omega)
      have e2 : (L : Int) < (ps.length : Int) := by omega
      have e3 : (q : Int) < (ts.length : Int) := by omega
      have e4 : (o : Int) < (ts.length : Int) := by omega
      have e5 : IntKind.i64.wrap (xt - yf) = xt - yf := wrap_in _ (by omega) (by omega)
      have e6 : (0 : Int) < (ps.length : Int) := by omega
      have e7 : 0 < ps.length := s2
      have HL := hide hL
      clear hc htc hD hA a1 a3 a4 d1 d3 d4 hBad hYes K0 hL ka kd hX
      obtain ⟨c0, c1, c2, c3⟩ := hX1.parts
      by_cases hs1 : r.p < xt - yf
      · have R2 := hide (R.out.trans (K1.out hO.out (by rw [hSp.out]; exact hs1)))
        have hd : decide (r.p < xt - yf) = true := decide_eq_true hs1
        clear CV CT K1 K2 K3 K4 hSp R hO
        go_wp2
        go_quiet (fail)
        go_wp2
        go_ret
        exact ⟨ret_int R2.out.symm, bdraw hbw _⟩
      have hd : decide (r.p < xt - yf) = false := decide_eq_false hs1
      have hns : Hid (¬ r.p < spd s) := hide (by rw [hSp.out]; exact hs1)
      go_wp2
      go_quiet (fail)
      have hb4 := bdraw (Below.refl wr.heap.size wr) nq
      replace hbw := btrans hbw hb4
      replace hX1 := hX1.below hb4
      replace hpI := hpI.below hb4
      replace htI := htI.below hb4
      generalize wr.drewN nq = W at *
      clear c0 c1 c2 c3 hb4 x0 y0 p3 q2 e1 e2 e3 e4 e5 e6 e7 hs1 hd
      obtain ⟨c0, c1, c2, c3⟩ := hX1.parts
      have htd : Tasks W.drew (some ⟨tb, toff, none⟩) ts := htI.below (bdraw (Below.refl _ _) 1)
      have hpd : Ints W.drew (some ⟨b, off, none⟩) ps := hpI.below (bdraw (Below.refl _ _) 1)
      have CV1 := CV W.drew htd hpd
      clear CV htd hpd
      go_wp2_with fail
      go_region_held3 (fun w' => w'.cell? ⟨w.heap.size, 1, none⟩ = some (.int .i64 r.d)) (go_keep) ((go_at_call 27; with_reducible refine CV1.mono ?_; rintro e w4 ⟨rfl, hbf⟩; replace hbf := undrew hbf; have f1 := ble hbf c1))
      replace hbw := btrans hbw hbf
      replace hX1 := hX1.below hbf
      replace hpI := hpI.below hbf
      replace htI := htI.below hbf
      clear c0 c1 c2 c3 hbf CV1 f1
      generalize drv s = dv at *
      by_cases hs2 : r.d < dv
      · have R2 := hide (R.out.trans (K2.out hO.out (by have := hns.out; omega) hs2))
        have hd : decide (r.d < dv) = true := decide_eq_true hs2
        clear CT K1 K2 K3 K4 hSp R hO
        go_wp2
        go_ret
        exact ⟨ret_int R2.out.symm, hbw⟩
      have hd : decide (r.d < dv) = false := decide_eq_false hs2
      obtain ⟨c0, c1, c2, c3⟩ := hX1.parts
      have htd : Tasks w4.drew (some ⟨tb, toff, none⟩) ts := htI.below (bdraw (Below.refl _ _) 1)
      have hpd : Ints w4.drew (some ⟨b, off, none⟩) ps := hpI.below (bdraw (Below.refl _ _) 1)
      have CT1 := CT w4.drew htd hpd
      clear CT htd hpd
      go_wp2_with fail
      go_region_held3 (fun w' => w'.cell? ⟨w.heap.size, 2, none⟩ = some (.int .i64 r.r) ∧ w'.cell? ⟨w.heap.size, 3, none⟩ = some (.int .i64 r.s)) (go_keep) ((go_at_call 20; with_reducible refine CT1.mono ?_; rintro e w5 ⟨rfl, hbf⟩; replace hbf := undrew hbf; have f2 := ble hbf c2; have f3 := ble hbf c3))
      replace hbw := btrans hbw hbf
      clear c0 c1 c2 c3 hbf CT1 f2 f3 hX1
      generalize strV r.r s = tv at *
      by_cases hs3 : r.s < tv
      · have R2 := hide (R.out.trans (K3.out hO.out (by have := hns.out; omega) (by omega) hs3))
        have hd2 : decide (r.s < tv) = true := decide_eq_true hs3
        clear K1 K2 K3 K4 hSp R hO
        go_wp2
        go_ret
        exact ⟨ret_int R2.out.symm, hbw⟩
      · have R2 := hide (R.out.trans (K4.out hO.out (by have := hns.out; omega) (by omega) (by omega)))
        have hd2 : decide (r.s < tv) = false := decide_eq_false hs3
        clear K1 K2 K3 K4 hSp R hO
        go_wp2
        go_ret
        exact ⟨ret_int R2.out.symm, hbw⟩

end Go.Proofs.Ytdmdoknkkfhheaa
