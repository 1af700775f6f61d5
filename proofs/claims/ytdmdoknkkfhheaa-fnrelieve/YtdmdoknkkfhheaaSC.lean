/- Wage of the model. -/
import Derived.Test.YtdmdoknkkfhheaaSB
namespace Go.Proofs.Ytdmdoknkkfhheaa
open Go.RowKit

theorem pay_plain {rate x m : Int} (r0 : 0 ≤ rate) (r1 : rate ≤ 1000) (x0 : -100000 ≤ x) (x1 : x ≤ 100000) (y0 : 0 ≤ m) (y1 : m ≤ 1200000) :
    IntKind.i64.wrap (rate * IntKind.i64.wrap (x + m)) = rate * (x + m) := by
  rw [wrap_in (x + m) (by omega) (by omega)]
  have k1 := Int.mul_le_mul_of_nonneg_left (show x + m ≤ 5000000 by omega) r0
  have k2 := Int.mul_le_mul_of_nonneg_left (show -5000000 ≤ x + m by omega) r0
  rw [wrap_in _ (by omega) (by omega)]

set_option maxRecDepth 20000 in
set_option maxHeartbeats 6400000 in
theorem cWageS (ta : Option Addr) (tc : Nat) (ts : List TaskV) (pa : Option Addr) (pc : Nat) (ps : List Int) (r : RuleV) (rate : Int) (w : World) (ht : Tasks w ta ts) (hp : Ints w pa ps) (hlt : ts.length ≤ 1048576) (hpc : ps.length ≤ pc) :
    Calls Try.prog 35 #[.slice ta ts.length tc, .slice pa ps.length pc, r.val, .int .i64 rate] w fun e w' => e = .returned (.int .i64 (wageV ts ps r rate)) ∧ Below w.heap.size w w' := by
  have CV := fun w ht hp => cDrivenS ta tc ts pa pc ps w ht hp hlt hpc
  have CD := fun w ht hp => cDutyCodeS ta tc ts pa pc ps r w ht hp hlt hpc
  have N1 := hide (fun h => wageV_no1 (ts := ts) (ps := ps) (r := r) (rate := rate) h)
  have N2 := hide (fun h => wageV_no2 (ts := ts) (ps := ps) (r := r) (rate := rate) h)
  have Y := hide (fun h h2 => wageV_yes (ts := ts) (ps := ps) (r := r) (rate := rate) h h2)
  have Z := hide (fun h => dcV_zero (ts := ts) (ps := ps) (r := r) h)
  have HI := hide (fun h => half_in (r := r) h)
  generalize wageV ts ps r rate = res at *
  have hW := balloc w (.cells #[.int .i64 r.p, .int .i64 r.d, .int .i64 r.r, .int .i64 r.s] 27)
  have hX := Rul.new w r 27
  have PV : Hid (∀ s, payV r s rate = rate * (spd s + max 0 (drv s - r.d / 2))) := fun _ => rfl
  unfold RuleV.val at *
  generalize dcV ts ps r = dc at *
  clear hlt hpc
  go_enter Try.func35, Try.ntmps35
  go_wp2_with fail
  refine (CD _ (ht.below hW) (hp.below hW)).mono ?_
  rintro e w1 ⟨rfl, hb1⟩
  have hb := btrans hW hb1
  replace hX := hX.below hb1
  by_cases h0 : dc = 0
  rotate_left
  · have R := hide (N1.out h0)
    have h0' : (dc != 0) = true := by simpa using h0
    clear N1 N2 Y Z HI hp ht CD CV
    go_wp2
    go_ret
    exact ⟨ret_int R.out.symm, hb⟩
  subst dc
  go_wp2_with fail
  refine (cIn rate 0 1000 _).mono ?_
  rintro e w2 ⟨rfl, hw⟩
  subst w2
  cases hr : inB rate 0 1000
  · have R := hide (N2.out hr)
    clear N1 N2 Y Z HI hp ht CD CV
    go_wp2
    go_ret
    exact ⟨ret_int R.out.symm, hb⟩
  have R := hide ((Y.out (by trivial) hr).trans (PV.out _))
  obtain ⟨hd, hru, -⟩ := Z.out (by trivial)
  obtain ⟨i1, i2, i3⟩ := HI.out hru
  obtain ⟨r0, r1⟩ := inB_true hr
  obtain ⟨s1, s2, s3⟩ := duty_pick hd
  have hA := hide (fun k (hk : k < ps.length) => pick_at hd hk)
  have DV := drivenV_yes hd
  rw [DV] at CV
  have b1 := spd_bound s1 s2
  have b2 := drv_bound s1
  have hSp : Hid (spd (pickL ts ps) = (tkA (pickL ts ps) ((pickL ts ps).length - 1)).t - (tkA (pickL ts ps) 0).f) := rfl
  have hL := pickL_len ts ps
  simp only [hL] at hSp s2 s3 b2
  clear hL DV N1 N2 Y Z HI CD PV s1 hd hru hr
  generalize pickL ts ps = s at *
  obtain ⟨L, hL⟩ : ∃ L, L = ps.length - 1 := ⟨_, rfl⟩
  obtain ⟨q, a1, a2, a3, a4⟩ := hA.out L (by omega)
  obtain ⟨o, d1, d2, d3, d4⟩ := hA.out 0 s2
  rcases hp with h | ⟨b, off, rfl, hc⟩
  · simp [h] at s2
  rcases ht with h | ⟨tb, toff, rfl, htc⟩
  · simp [h] at a2
  have hpI : Ints w1 (some ⟨b, off, none⟩) ps := .inr ⟨b, off, rfl, fun i hi => ble hb (hc i hi)⟩
  have htI : Tasks w1 (some ⟨tb, toff, none⟩) ts := (show Tasks w (some ⟨tb, toff, none⟩) ts from .inr ⟨tb, toff, rfl, htc⟩).below hb
  have x0 := ble hb (hc L (by omega))
  have y0 := ble hb (hc 0 s2)
  rw [a1] at x0
  rw [d1] at y0
  simp only [Nat.add_zero] at y0
  have p3 := ble hb (htc q a2).2.2.2.1
  have q2 := ble hb (htc o d2).2.2.1
  rw [← hL, a3, d3] at hSp
  have ka := taskB_iff.1 a4
  have kd := taskB_iff.1 d4
  generalize (ts.getD q TaskV.zero).t = xt at *
  generalize (ts.getD o TaskV.zero).f = yf at *
  have e1 : IntKind.i64.wrap ((ps.length : Int) - 1) = (L : Int) := (wrap_in _ (by omega) (by omega)).trans (by omega)
  have e2 : (L : Int) < (ps.length : Int) := by omega
  have e3 : (q : Int) < (ts.length : Int) := by omega
  have e4 : (o : Int) < (ts.length : Int) := by omega
  have e5 : IntKind.i64.wrap (xt - yf) = xt - yf := wrap_in _ (by omega) (by omega)
  have e6 : (0 : Int) < (ps.length : Int) := by omega
  have e7 : 0 < ps.length := s2
  have HL := hide hL
  clear hc htc hA a1 a3 a4 d1 d3 d4 hL ka kd
  go_wp2
  go_quiet (fail)
  have hb4 := bdraw (Below.refl w1.heap.size w1) nq
  replace hb := btrans hb hb4
  replace hX := hX.below hb4
  replace hpI := hpI.below hb4
  replace htI := htI.below hb4
  generalize w1.drewN nq = W at *
  clear hb4 x0 y0 p3 q2 e1 e2 e3 e4 e5 e6 e7
  obtain ⟨c0, c1, c2, c3⟩ := hX.parts
  have htd : Tasks W.drew (some ⟨tb, toff, none⟩) ts := htI.below (bdraw (Below.refl _ _) 1)
  have hpd : Ints W.drew (some ⟨b, off, none⟩) ps := hpI.below (bdraw (Below.refl _ _) 1)
  have CV1 := CV W.drew htd hpd
  clear CV htd hpd
  go_wp2_with fail
  go_region_held3 (fun w' => w'.cell? ⟨w.heap.size, 1, none⟩ = some (.int .i64 r.d)) (go_keep) ((go_at_call 27; with_reducible refine CV1.mono ?_; rintro e w4 ⟨rfl, hbf⟩; replace hbf := undrew hbf; have f1 := ble hbf c1))
  replace hb := btrans hb hbf
  clear c0 c1 c2 c3 hbf CV1 f1 hX hpI htI
  generalize drv s = dv at *
  rw [hSp.out] at R b1
  generalize xt - yf = x at *
  generalize r.d / 2 = hf at *
  rw [wrap_in hf (by omega) (by omega)]
  rw [wrap_in (dv - hf) (by omega) (by omega)]
  generalize hdm : dv - hf = dm at *
  replace hdm := hide hdm
  by_cases hm : dm < 0
  · have P1 := hide (pay_plain (x := x) (m := 0) r0 r1 (by omega) (by omega) (by omega) (by omega))
    have R2 := hide (show res = rate * (x + 0) by rw [R.out, Int.max_eq_left (by omega)])
    clear R
    have hz1 : IntKind.i64.wrap (x + 0) = x := (wrap_in _ (by omega) (by omega)).trans (by omega)
    rw [Int.add_zero] at P1 R2
    rw [wrap_in x (by omega) (by omega)] at P1
    have w2 : IntKind.i64.wrap (rate * x) = rate * x := P1.out
    clear P1
    go_wp2
    go_ret
    exact ⟨ret_int R2.out.symm, hb⟩
  · have P1 := hide (pay_plain (x := x) (m := dm) r0 r1 (by omega) (by omega) (by omega) (by have := hdm.out; omega))
    have R2 := hide (show res = rate * (x + dm) by rw [R.out, Int.max_eq_right (by omega)])
    clear R
    have w1 : IntKind.i64.wrap (x + dm) = x + dm := wrap_in _ (by have := hdm.out; omega) (by have := hdm.out; omega)
    have w2 : IntKind.i64.wrap (rate * (x + dm)) = rate * (x + dm) := by have h := P1.out; rwa [w1] at h
    clear P1
    go_wp2
    go_ret
    exact ⟨ret_int R2.out.symm, hb⟩
end Go.Proofs.Ytdmdoknkkfhheaa
