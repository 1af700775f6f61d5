/- The walk of FnChains. -/
import Derived.Test.YtbnhkkaiohmllaaXD
import Derived.Test.YtbnhkkaiohmllaaMJ
import Derived.BigQuiet
namespace Go.Proofs.Ytbnhkkaiohmllaa
open Go.RowKit Go.Lib

set_option maxHeartbeats 800000 in
theorem cInL (a : Option Addr) (cap : Nat) (zs : List Int) (x : Int) (w : World) (hz : Ints w a zs) (hl : zs.length ≤ 1048576) :
    Calls Try.prog 22 #[.slice a zs.length cap, .int .i64 x] w fun e w' => e = .returned (.bool (decide (x ∈ zs))) ∧ w' = w := by
  generalize hr : decide (x ∈ zs) = res
  have hr0 : Hid (decide (x ∈ zs.drop 0) = res) := hr
  clear hr
  go_enter Try.func22, Try.ntmps22
  go_wp2
  go_loop [5] (fun i => ∃ k : Nat, k ≤ zs.length ∧ i = .int .i64 k ∧ Hid (decide (x ∈ zs.drop k) = res)) (fun i => zs.length - (intOf i).toNat)
  case atStart => exact ⟨0, Nat.zero_le _, rfl, hr0⟩
  case round =>
    obtain ⟨k, hk, rfl, hres⟩ := hrel
    clear hr0
    by_cases hlt : k < zs.length
    · rcases hz with h | ⟨b, off, rfl, hc⟩
      · simp [h] at hlt
      have q0 := hc k hlt
      have e0 : zs.getD k 0 = zs[k] := by simp [List.getD, hlt]
      rw [e0] at q0
      have hd := hide ((has_drop (x := x) hlt).symm.trans hres.out)
      generalize zs[k] = y at *
      clear hc e0 hres
      by_cases hy : y = x
      · have hf := hide (show res = true by rw [← hd.out]; simp [hy])
        clear hd
        subst hy
        go_wp2
        go_ret
        exact ⟨ret_bool hf.out.symm, rfl⟩
      · have hf := hide (show decide (x ∈ zs.drop (k + 1)) = res by rw [← hd.out]; simp [hy])
        clear hd
        go_wp2
        go_round
        case rel => exact ⟨k + 1, by omega, by go_num, hf⟩
        case measure => simp [intOf]; omega
    · obtain rfl : k = zs.length := by omega
      have hf := hide (show res = false by rw [← hres.out, List.drop_length]; simp)
      clear hz
      go_wp2
      go_ret
      exact ⟨ret_bool hf.out.symm, rfl⟩

theorem sum_pos : ∀ {l : List Int}, (∀ z ∈ l, 0 ≤ z) → 0 ≤ l.sum := by
  intro l
  induction l with
  | nil => intro _; simp
  | cons a l ih => intro h; rw [List.sum_cons]; have := h a (by simp); have := ih (fun z hz => h z (by simp [hz])); omega
theorem sum_part {l : List Int} (h : ∀ z ∈ l, 0 ≤ z) (k : Nat) : 0 ≤ (l.take k).sum ∧ (l.take k).sum ≤ l.sum := by
  have e := congrArg List.sum (List.take_append_drop k l)
  rw [List.sum_append] at e
  have h1 := sum_pos (l := l.take k) (fun z hz => h z (List.mem_of_mem_take hz))
  have h2 := sum_pos (l := l.drop k) (fun z hz => h z (List.mem_of_mem_drop hz))
  omega
theorem sum_take {l : List Int} {k : Nat} (hk : k < l.length) : (l.take (k + 1)).sum = (l.take k).sum + l.getD k 0 := by
  rw [List.take_succ_eq_append_getElem hk, List.sum_append]
  simp [List.getD, hk]

set_option maxHeartbeats 1600000 in
theorem cSum (a : Option Addr) (cap : Nat) (l : List Int) (w : World) (hz : Ints w a l) (hl : l.length ≤ 1048576) (h0 : ∀ z ∈ l, 0 ≤ z) (h1 : l.sum ≤ 1000000000) :
    Calls Try.prog 25 #[.slice a l.length cap] w fun e w' => e = .returned (.int .i64 l.sum) ∧ w' = w := by
  have hP := hide (fun k => sum_part h0 k)
  generalize hS : l.sum = S at *
  have hS' : Hid (l.sum = S) := hS
  clear hS h0
  go_enter Try.func25, Try.ntmps25
  go_wp2
  go_loop [3, 4] (fun s i => ∃ k : Nat, k ≤ l.length ∧ s = .int .i64 (l.take k).sum ∧ i = .int .i64 k) (fun _ i => l.length - (intOf i).toNat)
  case atStart => exact ⟨0, Nat.zero_le _, by simp, rfl⟩
  case round =>
    obtain ⟨k, hk, rfl, rfl⟩ := hrel
    by_cases hlt : k < l.length
    · have hlt' : (k : Int) < (l.length : Int) := by omega
      rcases hz with h | ⟨b, off, rfl, hc⟩
      · simp [h] at hlt
      have q0 := hc k hlt
      have hT := hide (sum_take hlt)
      have hb1 := hP.out k
      have hb2 := hP.out (k + 1)
      rw [hT.out] at hb2
      generalize l.getD k 0 = z at *
      generalize (l.take k).sum = s at *
      clear hc
      have hw : IntKind.i64.wrap (s + z) = s + z := wrap_in _ (by omega) (by omega)
      go_wp2
      go_round
      case rel => exact ⟨k + 1, by omega, by rw [hT.out], by go_num⟩
      case measure => simp [intOf]; omega
    · obtain rfl : k = l.length := by omega
      have hlt' : ¬ ((l.length : Int) < (l.length : Int)) := by omega
      have hf := hide (show (l.take l.length).sum = S by rw [List.take_length]; exact hS'.out)
      clear hz
      go_wp2
      go_ret
      exact ⟨by rw [← hS'.out]; rfl, rfl⟩
theorem km_bound {ts : List TaskV} (hr : ts.all taskB = true) : ∀ k, k ≤ ts.length → 0 ≤ sumTo (fun i => (tkA ts i).p) k ∧ sumTo (fun i => (tkA ts i).p) k ≤ 2000 * k := by
  intro k
  induction k with
  | zero => intro _; simp [sumTo]
  | succ k ih =>
    intro hk
    have h1 := ih (by omega)
    have h2 := taskB_iff.1 (tkA_ok hr (i := k) (by omega))
    rw [sumTo]
    omega

set_option maxRecDepth 20000 in
set_option maxHeartbeats 12800000 in
theorem walkChainsD (a : Option Addr) (cap : Nat) (bs : List Int) (w : World) (hz : Bytes w a bs) (hn : bs.length ≤ maxLen) :
    Calls Try.prog 3 #[.slice a bs.length cap] w fun e w' => e = .returned (.bool true) ∧ Below w.heap.size w w' := by
  go_enter Try.func3, Try.ntmps3
  go_wp2_with fail
  refine (cbig a cap bs.length _ hn).mono ?_
  rintro e w1 ⟨rfl, hw⟩
  subst w1
  by_cases hB : 1048576 < bs.length
  · rw [decide_eq_true hB]
    go_wp2
    go_ret
    exact ⟨rfl, Below.refl _ _⟩
  rw [decide_eq_false hB]
  have hl : bs.length ≤ 1048576 := by omega
  clear hB
  go_wp2_with fail
  refine (cDraw16 cap a bs _ hz hl).mono ?_
  rintro e w1 ⟨v, ts, n, rfl, hR, h20, n0, n15, O, HB⟩
  obtain ⟨va, lc, rfl⟩ := own_form O
  have hall : Hid (ts.all taskB = true) := hide (by have := hR.ok (by omega); simp only [Bool.and_eq_true, tasksB, decide_eq_true_eq] at this; exact this.2)
  have okn : Hid ((tasksB ts && turnB n) = true) := hide (by rw [hR.ok (by omega), Bool.true_and]; exact inB_yes n0 (by omega))
  have CC := cChainsI va lc ts n w1 (Tasks.own O) (by omega)
  go_wp2_with fail
  refine CC.mono ?_
  rintro e w2 ⟨vz, zs, rfl, hzs, Oz, hb2⟩
  obtain ⟨os, h, T⟩ := Told.of 0 okn.out hzs
  have ez := T.cha zs hzs
  have hzl : zs.length ≤ 1048576 := by rw [ez, uL_len]; omega
  have hzt : Hid (zs.length = ts.length) := hide (by rw [ez, uL_len])
  have hcok : Hid (ChOk ts n zs) := hide (by rw [ez]; exact chains_ok T.ord T.chn okn.out)
  have hcnt : Hid (cntU zs = nU h) := hide (by rw [ez]; exact (Dealt.of T.ord T.chn).cnt)
  have huse : Hid (∀ u, u < nU h → (u : Int) ∈ zs) := hide (fun u hu => by rw [ez]; exact unit_used T.ord T.chn hu)
  have hnu : Hid (nU h ≤ 20) := hide (by
    have h6 := T.chn.nU_le
    have h7 := congrArg List.length T.chn.places
    rw [List.length_map] at h7
    have := T.ord.len
    omega)
  have hzr : Hid (∀ z ∈ zs, z < nU h) := hide (fun z hz => by have := (cntU_props zs).2.1 z hz; rw [hcnt.out] at this; exact this)
  have hz0 : Hid (∀ z ∈ zs, 0 ≤ z) := hide (fun z hz => by
    have := hcok.out.2.2.1
    rw [List.all_eq_true] at this
    have := inB_true (this z hz)
    omega)
  obtain ⟨za, zc, rfl⟩ := own_form Oz
  have hne : ((zs.length : Int) != (ts.length : Int)) = false := by rw [hzt.out]; simp
  have O2 := own_keep O hb2
  have HB2 := btrans HB hb2
  clear O HB CC hzs
  replace ez := hide ez
  have CK := cChainOkI va lc za zc ts n zs w2 (Tasks.own O2) (Ints.own Oz rfl) (by omega) hzl
  go_wp2_with fail
  refine CK.mono ?_
  rintro e w3 ⟨b, rfl, hbq, hb3⟩
  have hbt := hbq.2 hcok.out
  subst b
  clear hbq
  have O3 := own_keep O2 hb3
  have Oz3 := own_keep Oz hb3
  have HB3 := btrans HB2 hb3
  clear O2 HB2 CK Oz
  have CS := cChainsS va lc ts n w3 (Tasks.own O3) (by omega)
  go_wp2_with fail
  refine CS.mono ?_
  rintro e w5 ⟨vy, ys, rfl, hys, Oy, hb5⟩
  have ey := (T.cha ys hys).trans ez.out.symm
  subst ys
  obtain ⟨ya, yc, rfl⟩ := own_form Oy
  have O5 := own_keep O3 hb5
  have Oz5 := own_keep Oz3 hb5
  have HB5 := btrans HB3 hb5
  clear O3 HB3 CS hys Oz3
  have CQ := cSame za ya zc yc zs w5 (Ints.own Oz5 rfl) (Ints.own Oy rfl) hzl
  go_wp2_with fail
  refine CQ.mono ?_
  rintro e w6 ⟨rfl, hb6⟩
  have O := own_keep O5 hb6
  have Oz := own_keep Oz5 hb6
  have HB := btrans HB5 hb6
  clear O5 HB5 CQ Oz5 Oy
  have hkb := hide (km_bound hall.out)
  have hC := hide (fun k => (cntU_props (zs.take k)).1)
  have hC2 : Hid (∀ k, cntU (zs.take k) ≤ 20) := hide (fun k => by
    rcases (cntU_props (zs.take k)).2.2 with h1 | h1
    · omega
    · have := hzr.out _ (List.mem_of_mem_take h1); have := hnu.out; omega)
  have hG : Hid (∀ k, k < zs.length → 0 ≤ zs.getD k 0 ∧ zs.getD k 0 < 20) := hide (fun k hk => by
    have hm : zs.getD k 0 ∈ zs := by rw [show zs.getD k 0 = zs[k] by simp [List.getD, hk]]; exact List.getElem_mem hk
    have h1 := hz0.out _ hm; have h2 := hzr.out _ hm; have := hnu.out; omega)
  have hkS : Hid (∀ k, sumTo (fun i => (tkA ts i).p) (k + 1) = sumTo (fun i => (tkA ts i).p) k + (tkA ts k).p) := hide (fun _ => rfl)
  have hK := hide (sum_all T.ord T.chn)
  generalize hkf : (fun i => (tkA ts i).p) = kf at *
  replace hkf := hide hkf
  go_wp2
  go_loop [6, 7, 8] (fun s m i => ∃ k : Nat, k ≤ zs.length ∧ s = .int .i64 (cntU (zs.take k)) ∧ m = .int .i64 (sumTo kf k) ∧ i = .int .i64 k) (fun _ _ i => zs.length - (intOf i).toNat)
  case atStart => exact ⟨0, Nat.zero_le _, by simp [cntU], rfl, rfl⟩
  case round =>
    obtain ⟨k, hk, rfl, rfl, rfl⟩ := hrel
    by_cases hlt : k < zs.length
    · have hlt' : (k : Int) < (zs.length : Int) := by omega
      have hkt : k < ts.length := by rw [← hzt.out]; exact hlt
      have hkt' : (k : Int) < (ts.length : Int) := by omega
      obtain ⟨gz, cz', he, hgz1, hgz2⟩ := Oz.form (by omega)
      simp only [Value.slice.injEq, true_and] at he
      obtain ⟨rfl, rfl⟩ := he
      obtain ⟨g, cg', he, hg1, hg2⟩ := O.form (by omega)
      simp only [Value.slice.injEq, true_and] at he
      obtain ⟨rfl, rfl⟩ := he
      have q0 := row_int Oz hlt
      obtain ⟨-, -, -, -, x4⟩ := row_at5 O hkt
      have hT := hide (cntU_take hlt)
      have hS := hkS.out k
      have hgk := hG.out k hlt
      have hb1 := hC.out k
      have hb2 := hC2.out k
      have hkk := hkb.out k (by omega)
      have hpk : 0 ≤ (tkA ts k).p ∧ (tkA ts k).p ≤ 2000 := by have := taskB_iff.1 (tkA_ok hall.out hkt); omega
      generalize zs.getD k 0 = z at *
      generalize cntU (zs.take k) = s at *
      generalize sumTo kf k = m at *
      generalize (tkA ts k).p = pk at *
      have hw2 : IntKind.i64.wrap (m + pk) = m + pk := wrap_in _ (by omega) (by omega)
      have hw : IntKind.i64.wrap (z + 1) = z + 1 := wrap_in _ (by omega) (by omega)
      replace hS := hide hS
      clear O Oz HB T
      by_cases hs : s ≤ z
      · have hf := hide (show cntU (zs.take (k + 1)) = z + 1 by rw [hT.out, if_pos hs])
        have hgt : decide (s < z + 1) = true := decide_eq_true (by omega)
        have hgt' : s < z + 1 := by omega
        clear hT
        go_wp2
        go_round
        case rel => exact ⟨k + 1, by omega, by rw [hf.out], by rw [hS.out], by go_num⟩
        case measure => simp [intOf]; omega
      · have hf := hide (show cntU (zs.take (k + 1)) = s by rw [hT.out, if_neg hs])
        have hgt : decide (s < z + 1) = false := decide_eq_false (by omega)
        have hgt' : ¬ (s < z + 1) := by omega
        clear hT
        go_wp2
        go_round
        case rel => exact ⟨k + 1, by omega, by rw [hf.out], by rw [hS.out], by go_num⟩
        case measure => simp [intOf]; omega
    · obtain rfl : k = zs.length := by omega
      have hlt' : ¬ ((zs.length : Int) < (zs.length : Int)) := by omega
      rw [List.take_length, hcnt.out, hzt.out]
      clear hkb hC hC2 hG hkS
      go_wp2
      go_loop [9] (fun v => ∃ u : Nat, u ≤ nU h ∧ v = .int .i64 u) (fun v => nU h - (intOf v).toNat)
      case atStart => exact ⟨0, Nat.zero_le _, rfl⟩
      case round =>
        obtain ⟨u, hu, rfl⟩ := hrel
        by_cases hul : u < nU h
        · have hul' : (u : Int) < (nU h : Int) := by omega
          have CW := cInL za zc zs (u : Int) w6 (Ints.own Oz rfl) hzl
          rw [decide_eq_true (huse.out u hul), hzt.out] at CW
          have hu20 := hnu.out
          clear O Oz HB T
          go_wp2_with fail
          refine CW.mono ?_
          rintro e w7 ⟨rfl, hw7⟩
          subst w7
          go_wp2
          go_round
          case rel => exact ⟨u + 1, by omega, by go_num⟩
          case measure => simp [intOf]; omega
        · obtain rfl : u = nU h := by omega
          have hul' : ¬ ((nU h : Int) < (nU h : Int)) := by omega
          have CM := cMilI va lc ts n w6 (Tasks.own O) (by omega)
          go_wp2_with fail
          refine CM.mono ?_
          rintro e w7 ⟨vm, ms, rfl, hms, Om, hb7⟩
          have em := T.una _ ms hms
          have lm : ms.length = nU h := by rw [em]; simp
          have hmn : ∀ z ∈ ms, 0 ≤ z := by
            intro z hz
            rw [em] at hz
            obtain ⟨u', -, rfl⟩ := List.mem_map.1 hz
            refine (kmOf_bound (fun p hp => tkA_ok hall.out ?_)).1
            exact ((Dealt.of T.ord T.chn).all p).1 (List.mem_map.2 ⟨_, runU_mem.1 hp, rfl⟩)
          have hms2 : ms.sum = sumTo kf ts.length := by rw [em]; exact hK.out
          have hms3 : ms.sum ≤ 1000000000 := by
            rw [hms2, ← hkf.out]
            have := (km_bound hall.out ts.length (Nat.le_refl _)).2
            omega
          replace em := hide em
          obtain ⟨ma, mc, rfl⟩ := own_form Om
          have O7 := own_keep O hb7
          have HB7 := btrans HB hb7
          clear O HB CM hms Oz
          have CF := cFleetI va lc ts n w7 (Tasks.own O7) (by omega)
          go_wp2_with fail
          refine CF.mono ?_
          rintro e w8 ⟨z, rfl, hz8, hb8⟩
          have e8 := FlA.told hz8 T.ord T.chn okn.out
          subst z
          have O8 := own_keep O7 hb8
          have Om8 := own_keep Om hb8
          have HB8 := btrans HB7 hb8
          clear O7 HB7 CF hz8 Om
          have CU := cSum ma mc ms w8 (Ints.own Om8 rfl) (by have := hnu.out; omega) hmn hms3
          rw [hms2, lm] at CU
          try rw [lm]
          have hee : ((nU h : Int) == (nU h : Int)) = true := by simp
          generalize sumTo kf ts.length = K at *
          have hKK : (K == K) = true := by simp
          clear hms3 hms2 hmn
          go_wp2_with fail
          refine CU.mono ?_
          rintro e w9 ⟨rfl, hw9⟩
          subst w9
          have CN := cNightI va lc ts n w8 (Tasks.own O8) (by omega)
          go_wp2_with fail
          refine CN.mono ?_
          rintro e w10 ⟨vn, ns, rfl, hns, On, hb10⟩
          have en := T.una _ ns hns
          have ln : ns.length = nU h := by rw [en]; simp
          obtain ⟨na, nc, rfl⟩ := own_form On
          try rw [ln]
          have HB10 := btrans HB8 hb10
          clear O8 HB8 CN hns On Om8
          go_wp2
          go_ret
          exact ⟨rfl, HB10⟩
end Go.Proofs.Ytbnhkkaiohmllaa
