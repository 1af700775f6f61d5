/- Driven, Stretched, DutyCode and Wage of the program. -/
import Derived.Test.YtdmdoknkkfhheaaCF
import Derived.Test.YtdmdoknkkfhheaaMD
namespace Go.Proofs.Ytdmdoknkkfhheaa
open Go.RowKit

theorem Tasks.own' {w : World} {B : Nat} {a : Option Addr} {n c : Nat} {s : List TaskV} (h : w.ownsRow B 37 5 (.slice a n c) n (flatTasks s)) : Tasks w a s := Tasks.rw (.inl h)

set_option maxRecDepth 20000 in
set_option maxHeartbeats 1600000 in
theorem cDrivenI (ta : Option Addr) (tc : Nat) (ts : List TaskV) (pa : Option Addr) (pc : Nat) (ps : List Int) (w : World) (ht : Tasks w ta ts) (hp : Ints w pa ps) (hlt : ts.length ≤ 1048576) (hpc : ps.length ≤ pc) :
    Calls Try.prog 18 #[.slice ta ts.length tc, .slice pa ps.length pc] w fun e w' => e = .returned (.int .i64 (drivenV ts ps)) ∧ Below w.heap.size w w' := by
  have CD := fun w ht hp => cDuty ta tc ts pa pc ps w ht hp hlt hpc
  clear hlt hpc
  have N := hide (fun h => drivenV_no (ts := ts) (ps := ps) h)
  have Y := hide (fun h => drivenV_yes (ts := ts) (ps := ps) h)
  generalize drivenV ts ps = res at *
  go_enter Try.func18, Try.ntmps18
  go_wp2_with fail
  refine (CD _ ht hp).mono ?_
  rintro e w1 ⟨a, n, c, rfl, hy, hb⟩
  cases hd : dutyB ts ps
  · have R := hide (N.out hd)
    clear N Y hy CD hp ht
    go_wp2
    go_ret
    exact ⟨ret_int R.out.symm, hb⟩
  · have R := hide (Y.out hd)
    obtain ⟨hn, ho⟩ := hy hd
    subst n
    obtain ⟨s1, s2, s3⟩ := duty_pick hd
    have hz : Tasks w1 a (pickL ts ps) := Tasks.own' ho
    have hL := pickL_len ts ps
    have C := cDrv a c (pickL ts ps) w1 hz s1 (by omega)
    rw [hL] at C
    clear N Y hy CD hp ht hd hL s1 s2 s3 hz ho
    go_wp2_with fail
    refine C.mono ?_
    rintro e w2 ⟨rfl, hb2⟩
    have hb3 := btrans hb hb2
    go_wp2
    go_ret
    exact ⟨ret_int R.out.symm, hb3⟩

set_option maxRecDepth 20000 in
set_option maxHeartbeats 1600000 in
theorem cStretchedI (ta : Option Addr) (tc : Nat) (ts : List TaskV) (pa : Option Addr) (pc : Nat) (ps : List Int) (rest : Int) (w : World) (ht : Tasks w ta ts) (hp : Ints w pa ps) (hlt : ts.length ≤ 1048576) (hpc : ps.length ≤ pc) :
    Calls Try.prog 19 #[.slice ta ts.length tc, .slice pa ps.length pc, .int .i64 rest] w fun e w' => e = .returned (.int .i64 (stretchV ts ps rest)) ∧ Below w.heap.size w w' := by
  have CD := fun w ht hp => cDuty ta tc ts pa pc ps w ht hp hlt hpc
  clear hlt hpc
  have N1 := hide (fun h => stretchV_no1 (ts := ts) (ps := ps) (rest := rest) h)
  have N2 := hide (fun h => stretchV_no2 (ts := ts) (ps := ps) (rest := rest) h)
  have Y := hide (fun h h2 => stretchV_yes (ts := ts) (ps := ps) (rest := rest) h h2)
  generalize stretchV ts ps rest = res at *
  go_enter Try.func19, Try.ntmps19
  go_wp2_with fail
  refine (CD _ ht hp).mono ?_
  rintro e w1 ⟨a, n, c, rfl, hy, hb⟩
  cases hd : dutyB ts ps
  · have R := hide (N1.out hd)
    clear N1 N2 Y hy CD hp ht
    go_wp2
    go_ret
    exact ⟨ret_int R.out.symm, hb⟩
  · go_wp2_with fail
    refine (cMins rest _).mono ?_
    rintro e w2 ⟨rfl, hw⟩
    subst w2
    cases hr : inB rest 1 1440
    · have R := hide (N2.out hr)
      clear N1 N2 Y hy CD hp ht
      go_wp2
      go_ret
      exact ⟨ret_int R.out.symm, hb⟩
    have R := hide (Y.out hd hr)
    obtain ⟨hn, ho⟩ := hy hd
    subst n
    obtain ⟨s1, s2, s3⟩ := duty_pick hd
    have hz : Tasks w1 a (pickL ts ps) := Tasks.own' ho
    have hL := pickL_len ts ps
    have C := cStr a c (pickL ts ps) rest w1 hz s1 (by omega)
    rw [hL] at C
    clear N1 N2 Y hy CD hp ht hd hL s1 s2 s3 hz ho
    go_wp2_with fail
    refine C.mono ?_
    rintro e w2 ⟨rfl, hb2⟩
    have hb3 := btrans hb hb2
    go_wp2
    go_ret
    exact ⟨ret_int R.out.symm, hb3⟩

set_option maxRecDepth 20000 in
set_option maxHeartbeats 1600000 in
theorem cDutyCodeI (ta : Option Addr) (tc : Nat) (ts : List TaskV) (pa : Option Addr) (pc : Nat) (ps : List Int) (r : RuleV) (w : World) (ht : Tasks w ta ts) (hp : Ints w pa ps) (hlt : ts.length ≤ 1048576) (hpc : ps.length ≤ pc) :
    Calls Try.prog 17 #[.slice ta ts.length tc, .slice pa ps.length pc, r.val] w fun e w' => e = .returned (.int .i64 (dcV ts ps r)) ∧ Below w.heap.size w w' := by
  have CD := fun w ht hp => cDuty ta tc ts pa pc ps w ht hp hlt hpc
  clear hlt hpc
  have N1 := hide (fun h => dcV_no1 (ts := ts) (ps := ps) (r := r) h)
  have N2 := hide (fun h => dcV_no2 (ts := ts) (ps := ps) (r := r) h)
  have Y := hide (fun h h2 => dcV_yes (ts := ts) (ps := ps) (r := r) h h2)
  have CR := fun w => cRuleI r w
  have CC := fun (a : Option Addr) (c : Nat) (w : World) hz h1 h2 h3 => cCode a c (pickL ts ps) r w hz h1 h2 h3
  rw [pickL_len] at CC
  generalize dcV ts ps r = res at *
  have hW := balloc w (.cells #[.int .i64 r.p, .int .i64 r.d, .int .i64 r.r, .int .i64 r.s] 27)
  have hX := one_block w (.cells #[.int .i64 r.p, .int .i64 r.d, .int .i64 r.r, .int .i64 r.s] 27)
  unfold RuleV.val rsv at *
  obtain ⟨rb, hrb⟩ : ∃ rb, rb = ruleB r := ⟨_, rfl⟩
  rw [← hrb] at CR
  have hru : Hid (ruleB r = rb) := hide hrb.symm
  clear hrb
  obtain ⟨rp, rd, rr, rs⟩ := r
  dsimp only at *
  go_enter Try.func17, Try.ntmps17
  go_wp2_with fail
  refine (CD _ (ht.below hW) (hp.below hW)).mono ?_
  rintro e w1 ⟨a, n, c, rfl, hy, hb1⟩
  have hb := btrans hW hb1
  have hX1 := blk_keep hb1 hX
  have c0 := blk_cell hX1 0
  have c1 := blk_cell hX1 1
  have c2 := blk_cell hX1 2
  have c3 := blk_cell hX1 3
  simp only [List.getElem?_toArray, List.getElem?_cons_zero, List.getElem?_cons_succ] at c0 c1 c2 c3
  cases hd : dutyB ts ps
  · have R := hide (N1.out hd)
    clear N1 N2 Y hy CD hp ht CC CR
    go_wp2
    go_ret
    exact ⟨ret_int R.out.symm, hb⟩
  · go_wp2_with fail
    refine (CR _).mono ?_
    rintro e w2 ⟨rfl, hw2⟩
    cases rb
    · have R := hide (N2.out hru.out)
      clear N1 N2 Y hy CD hp ht CC CR
      go_wp2
      go_ret
      exact ⟨ret_int R.out.symm, btrans hb hw2⟩
    have R := hide (Y.out hd hru.out)
    obtain ⟨hn, ho⟩ := hy hd
    subst n
    obtain ⟨s1, s2, s3⟩ := duty_pick hd
    have hz : Tasks w1 a (pickL ts ps) := Tasks.own' ho
    have hL := pickL_len ts ps
    replace hz := hz.below hw2
    replace hb := btrans hb hw2
    replace c0 := ble hw2 c0
    replace c1 := ble hw2 c1
    replace c2 := ble hw2 c2
    replace c3 := ble hw2 c3
    have C := CC a c w2 hz s1 (by omega) (by omega)
    clear N1 N2 Y hy CD hp ht hd hL s1 s2 s3 hz ho CC CR hX hX1
    go_wp2_with fail
    refine C.mono ?_
    rintro e w3 ⟨rfl, hb2⟩
    have hb3 := btrans hb hb2
    go_wp2
    go_ret
    exact ⟨ret_int R.out.symm, hb3⟩

theorem pay_wrap {rate x y hf : Int} (r0 : 0 ≤ rate) (r1 : rate ≤ 1000) (x0 : -100000 ≤ x) (x1 : x ≤ 100000) (y0 : 0 ≤ y) (y1 : y ≤ 1200000) (f0 : 0 ≤ hf) (f1 : hf ≤ 720) :
    IntKind.i64.wrap (rate * IntKind.i64.wrap (x + if 0 < IntKind.i64.wrap (y - IntKind.i64.wrap hf) then IntKind.i64.wrap (y - IntKind.i64.wrap hf) else 0)) = rate * (x + max 0 (y - hf)) := by
  rw [wrap_in hf (by omega) (by omega), wrap_in (y - hf) (by omega) (by omega), maxif]
  obtain ⟨m, hm⟩ : ∃ m, m = max 0 (y - hf) := ⟨_, rfl⟩
  rw [← hm]
  rw [wrap_in (x + m) (by omega) (by omega)]
  have k1 := Int.mul_le_mul_of_nonneg_left (show x + m ≤ 5000000 by omega) r0
  have k2 := Int.mul_le_mul_of_nonneg_left (show -5000000 ≤ x + m by omega) r0
  rw [wrap_in _ (by omega) (by omega)]
theorem half_in {r : RuleV} (h : ruleB r = true) : r.d.tdiv 2 = r.d / 2 ∧ 0 ≤ r.d / 2 ∧ r.d / 2 ≤ 720 := by
  have := ruleB_iff.1 h
  exact ⟨Int.tdiv_eq_ediv_of_nonneg (by omega), by omega, by omega⟩
set_option maxRecDepth 20000 in
set_option maxHeartbeats 1600000 in
theorem cWageI (ta : Option Addr) (tc : Nat) (ts : List TaskV) (pa : Option Addr) (pc : Nat) (ps : List Int) (r : RuleV) (rate : Int) (w : World) (ht : Tasks w ta ts) (hp : Ints w pa ps) (hlt : ts.length ≤ 1048576) (hpc : ps.length ≤ pc) :
    Calls Try.prog 23 #[.slice ta ts.length tc, .slice pa ps.length pc, r.val, .int .i64 rate] w fun e w' => e = .returned (.int .i64 (wageV ts ps r rate)) ∧ Below w.heap.size w w' := by
  have CY := fun w ht hp => cDuty ta tc ts pa pc ps w ht hp hlt hpc
  have CD := fun w ht hp => cDutyCodeI ta tc ts pa pc ps r w ht hp hlt hpc
  have N1 := hide (fun h => wageV_no1 (ts := ts) (ps := ps) (r := r) (rate := rate) h)
  have N2 := hide (fun h => wageV_no2 (ts := ts) (ps := ps) (r := r) (rate := rate) h)
  have Y := hide (fun h h2 => wageV_yes (ts := ts) (ps := ps) (r := r) (rate := rate) h h2)
  have Z := hide (fun h => dcV_zero (ts := ts) (ps := ps) (r := r) h)
  have HI := hide (fun h => half_in (r := r) h)
  generalize wageV ts ps r rate = res at *
  have hdr := codeV_range r (pickL ts ps)
  have hW := balloc w (.cells #[.int .i64 r.p, .int .i64 r.d, .int .i64 r.r, .int .i64 r.s] 27)
  have hX := one_block w (.cells #[.int .i64 r.p, .int .i64 r.d, .int .i64 r.r, .int .i64 r.s] 27)
  have PV : Hid (∀ s, payV r s rate = rate * (spd s + max 0 (drv s - r.d / 2))) := fun _ => rfl
  unfold RuleV.val at *
  generalize dcV ts ps r = dc at *
  clear hlt hpc hdr
  go_enter Try.func23, Try.ntmps23
  go_wp2_with fail
  refine (CD _ (ht.below hW) (hp.below hW)).mono ?_
  rintro e w1 ⟨rfl, hb1⟩
  have hb := btrans hW hb1
  by_cases h0 : dc = 0
  rotate_left
  · have R := hide (N1.out h0)
    have h0' : (dc != 0) = true := by simpa using h0
    clear N1 N2 Y Z HI hp ht CD CY
    go_wp2
    go_ret
    exact ⟨ret_int R.out.symm, hb⟩
  subst dc
  go_wp2_with fail
  refine (cWithin rate 0 1000 _).mono ?_
  rintro e w2 ⟨rfl, hw⟩
  subst w2
  cases hr : inB rate 0 1000
  · have R := hide (N2.out hr)
    clear N1 N2 Y Z HI hp ht CD CY
    go_wp2
    go_ret
    exact ⟨ret_int R.out.symm, hb⟩
  have R := hide ((Y.out (by trivial) hr).trans (PV.out _))
  obtain ⟨hd, hru, -⟩ := Z.out (by trivial)
  obtain ⟨i1, i2, i3⟩ := HI.out hru
  obtain ⟨r0, r1⟩ := inB_true hr
  have CY1 := CY w1 (ht.below hb) (hp.below hb)
  clear N1 N2 Y Z HI CD PV CY
  go_wp2_with fail
  refine CY1.mono ?_
  rintro e w2 ⟨a, n, c, rfl, hy, hb2⟩
  obtain ⟨hn, ho⟩ := hy hd
  subst n
  obtain ⟨s1, s2, s3⟩ := duty_pick hd
  have hz : Tasks w2 a (pickL ts ps) := Tasks.own' ho
  have hL := pickL_len ts ps
  have b1 := spd_bound s1 s2
  have b2 := drv_bound s1
  have CS := fun w hz => cSpdB a c (pickL ts ps) w hz s1 s2 (by omega)
  have CV := fun w hz => cDrv a c (pickL ts ps) w hz s1 (by omega)
  rw [hL] at CS CV
  have hzd : Tasks w2.drew a (pickL ts ps) := hz.below (bdraw (Below.refl _ _) 1)
  have c1 := ble hb2 (ble hb1 (blk_cell hX 1))
  have CS1 := CS w2.drew hzd
  have hB := btrans hb hb2
  generalize hP : pickL ts ps = P at *
  generalize spd P = x at *
  generalize drv P = y at *
  obtain ⟨rp, rd, rr, rs⟩ := r
  dsimp only at *
  generalize hh : rd / 2 = hf at *
  have e1 : IntKind.i64.wrap (y - hf) = y - hf := wrap_in _ (by omega) (by omega)
  clear CS hy ho hd CY1 hP hp ht
  go_wp2_with fail
  go_region_held3 (fun w' => w'.cell? ⟨w.heap.size, 1, none⟩ = some (.int .i64 rd)) (go_keep) (first
    | (go_at_call 45; with_reducible refine (CV _ (hz.below Ba)).mono ?_; rintro e wb ⟨rfl, hbb⟩; have Bb := btrans Ba hbb; have d1 := ble Bb c1)
    | (go_at_call 50; with_reducible refine CS1.mono ?_; rintro e wa ⟨rfl, hba⟩; have Ba := undrew hba; have a1 := ble Ba c1))
  have hP2 := hide (pay_wrap (x := x) (y := y) (hf := hf) r0 r1 (by omega) (by omega) (by omega) (by omega) i2 i3)
  have hB2 := btrans hB Bb
  clear e1
  generalize IntKind.i64.wrap (y - IntKind.i64.wrap hf) = D at *
  generalize (if 0 < D then D else 0) = I at *
  go_wp2
  go_ret
  exact ⟨ret_int (hP2.out.trans R.out.symm), hB2⟩
end Go.Proofs.Ytdmdoknkkfhheaa
