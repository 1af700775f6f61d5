/- The walk of FnDue. -/
import Derived.Test.YtbnhkkaiohmllaaDA
import Derived.Test.YtbnhkkaiohmllaaMH
import Derived.BigQuiet
namespace Go.Proofs.Ytbnhkkaiohmllaa
open Go.RowKit Go.Lib

theorem row_at5 {w : World} {B g c : Nat} {ts : List TaskV} (O : w.ownsRow B 32 5 (.slice (some ⟨g, 0, none⟩) ts.length c) ts.length (flatTasks ts)) {i : Nat} (hi : i < ts.length) :
    w.cell? ⟨g, i * 5, none⟩ = some (.int .i64 (tkA ts i).e) ∧ w.cell? ⟨g, i * 5 + 1, none⟩ = some (.int .i64 (tkA ts i).d) ∧ w.cell? ⟨g, i * 5 + 2, none⟩ = some (.int .i64 (tkA ts i).f) ∧ w.cell? ⟨g, i * 5 + 3, none⟩ = some (.int .i64 (tkA ts i).t) ∧ w.cell? ⟨g, i * 5 + 4, none⟩ = some (.int .i64 (tkA ts i).p) := by
  rcases Tasks.of_owns O with h | ⟨b, off, e, hc⟩
  · simp [h] at hi
  · simp only [Option.some.injEq, Addr.mk.injEq, and_true] at e
    obtain ⟨rfl, rfl⟩ := e
    have := hc i hi
    simpa [tkA] using this
theorem row_int {w : World} {B g c : Nat} {zs : List Int} (O : w.ownsRow B 3 1 (.slice (some ⟨g, 0, none⟩) zs.length c) zs.length (zs.map (Value.int .i64))) {i : Nat} (hi : i < zs.length) : w.cell? ⟨g, i, none⟩ = some (.int .i64 (zs.getD i 0)) := by
  rw [O.cellAt i (by omega), List.getElem?_map]
  simp [List.getD, hi]

set_option maxRecDepth 20000 in
set_option maxHeartbeats 1600000 in
theorem cSame (a1 a2 : Option Addr) (c1 c2 : Nat) (l : List Int) (w : World) (h1 : Ints w a1 l) (h2 : Ints w a2 l) (hl : l.length ≤ 1048576) :
    Calls Try.prog 20 #[.slice a1 l.length c1, .slice a2 l.length c2] w fun e w' => e = .returned (.bool true) ∧ Below w.heap.size w w' := by
  go_enter Try.func20, Try.ntmps20
  go_wp2
  go_loopw [5] (fun i wr => ∃ k : Nat, k ≤ l.length ∧ i = .int .i64 k ∧ Below w.heap.size w wr) (fun i _ => l.length - (intOf i).toNat)
  case atStart => exact ⟨0, Nat.zero_le _, rfl, Below.refl _ _⟩
  case round =>
    obtain ⟨k, hk, rfl, hb⟩ := hrel
    by_cases hlt : k < l.length
    · rcases h1 with h | ⟨b1, o1, rfl, q1⟩
      · simp [h] at hlt
      rcases h2 with h | ⟨b2, o2, rfl, q2⟩
      · simp [h] at hlt
      have p0 := ble hb (q1 k hlt)
      have r0 := ble hb (q2 k hlt)
      clear q1 q2
      generalize l.getD k 0 = y at *
      go_wp2_with fail
      go_quiet (fail)
      go_wp2
      go_roundw
      case rel => exact ⟨k + 1, by omega, by go_num, bdraw hb _⟩
      case measure => simp [intOf]; omega
    · obtain rfl : k = l.length := by omega
      clear h1 h2
      go_wp2
      go_ret
      exact ⟨rfl, hb⟩
/-- What the answers at drawn tasks are. -/
structure Told (ts : List TaskV) (n lim : Int) (os : List Nat) (h : Hist) : Prop where
  ord : Ord ts os
  chn : Chn ts n os h
  cha : ∀ zs, ChA ts n zs → zs = uL h 0 ts.length
  una : ∀ tell zs, UnA ts n tell zs → zs = (List.range (nU h)).map (fun u => tell (runU h u))
  due : inB lim 0 1000000 = true → ∀ zs, DueA ts n lim zs → zs = (List.range (nU h)).map (fun u => dueOf ts lim 0 (runU h u))
theorem Told.of {ts : List TaskV} {n : Int} {zs : List Int} (lim : Int) (hok : (tasksB ts && turnB n) = true) (hc : ChA ts n zs) : ∃ os h, Told ts n lim os h := by
  rcases hc with ⟨h1, _⟩ | ⟨_, os, h, hO, hC, _⟩
  · rw [hok] at h1; cases h1
  · have hU : ∀ tell zs, UnA ts n tell zs → zs = (List.range (nU h)).map (fun u => tell (runU h u)) := fun tell zs hz => hz.uniq (.inr ⟨hok, os, h, hO, hC, rfl⟩)
    refine ⟨os, h, hO, hC, fun zs hz => hz.uniq (.inr ⟨hok, os, h, hO, hC, rfl⟩), hU, fun hl zs hz => ?_⟩
    rcases hz with ⟨h1, _⟩ | ⟨_, h2⟩
    · rw [hl] at h1; cases h1
    · exact hU _ _ h2
theorem range_get (f : Nat → Int) {M k : Nat} (hk : k < M) : ((List.range M).map f).getD k 0 = f k := by simp [List.getD, hk]
/-- What is known of the unit u. -/
theorem due_cases {ts : List TaskV} {n : Int} {os : List Nat} {h : Hist} {lim : Int} (hO : Ord ts os) (hC : Chn ts n os h) (hr : ts.all taskB = true) (h0 : 0 ≤ lim) (u : Nat) :
    (dueOf ts lim 0 (runU h u) = -1 ∧ kmOf ts (runU h u) ≤ lim) ∨ ∃ p : Nat, dueOf ts lim 0 (runU h u) = p ∧ p < ts.length ∧ (uL h 0 ts.length).getD p 0 = (u : Int) ∧ lim < kmOf ts (runU h u) ∧ sumTo (kmAhead ts (uL h 0 ts.length) u p) ts.length ≤ lim ∧ lim < sumTo (kmAhead ts (uL h 0 ts.length) u p) ts.length + (tkA ts p).p := by
  have Dd := Dealt.of hO hC
  have hsub : ∀ q ∈ runU h u, q < ts.length := fun q hq => (Dd.all q).1 (List.mem_map.2 ⟨_, runU_mem.1 hq, rfl⟩)
  rcases dueOf_split (ts := ts) (lim := lim) (runU h u) 0 (fun p hp => by have := taskB_iff.1 (tkA_ok hr (hsub p hp)); omega) h0 with ⟨h1, h2⟩ | ⟨pre, p, post, h1, h2, h3, h4, h5⟩
  · exact .inl ⟨h1, by omega⟩
  · have hp : p ∈ runU h u := by rw [h1]; simp
    refine .inr ⟨p, h2, hsub p hp, ?_, by omega, ?_, ?_⟩
    · rw [uL_get h 0 (hsub p hp)]; exact unitD_mem Dd.nodup (runU_mem.1 hp) 0
    · rw [sum_ahead hO hC h1]; omega
    · rw [sum_ahead hO hC h1]; omega
theorem ahead_bound {ts : List TaskV} (hr : ts.all taskB = true) (zs : List Int) (u p : Nat) : ∀ k, k ≤ ts.length → 0 ≤ sumTo (kmAhead ts zs u p) k ∧ sumTo (kmAhead ts zs u p) k ≤ 2000 * k := by
  intro k
  induction k with
  | zero => intro _; simp [sumTo]
  | succ k ih =>
    intro hk
    have h1 := ih (by omega)
    have h2 := taskB_iff.1 (tkA_ok hr (i := k) (by omega))
    have h3 : 0 ≤ kmAhead ts zs u p k ∧ kmAhead ts zs u p k ≤ 2000 := by
      unfold kmAhead
      split <;> omega
    rw [sumTo]
    omega

set_option maxRecDepth 20000 in
set_option maxHeartbeats 12800000 in
theorem walkDueD (a : Option Addr) (cap : Nat) (bs : List Int) (w : World) (hz : Bytes w a bs) (hn : bs.length ≤ maxLen) :
    Calls Try.prog 6 #[.slice a bs.length cap] w fun e w' => e = .returned (.bool true) ∧ Below w.heap.size w w' := by
  go_enter Try.func6, Try.ntmps6
  go_wp2_with fail
  refine (cbig a cap bs.length _ hn).mono ?_
  rintro e w1 ⟨rfl, hw⟩
  subst w1
  by_cases hB : 1048576 < bs.length
  · rw [decide_eq_true hB]
    go_wp2
    go_ret
    exact ⟨rfl, Below.refl _ _⟩
  rw [decide_eq_false hB]
  have hl : bs.length ≤ 1048576 := by omega
  clear hB
  go_wp2_with fail
  refine (cDraw16 cap a bs _ hz hl).mono ?_
  rintro e w1 ⟨v, ts, n, rfl, hR, h20, n0, n15, O, HB⟩
  obtain ⟨va, lc, rfl⟩ := own_form O
  have C3 : Calls Try.prog 27 #[.slice a bs.length cap, .int .i64 3] w1 fun e w' => e = .returned (.int .i64 (atZ bs 3)) ∧ w' = w1 := cat a cap bs 3 w1 (hz.below HB) hl (by omega)
  have hzr := atZ_in hz 3
  generalize atZ bs 3 = z at *
  go_wp2_with fail
  refine C3.mono ?_
  rintro e w2 ⟨rfl, hw⟩
  subst w2
  have hwm : IntKind.i64.wrap (z * 2) = z * 2 := wrap_in _ (by omega) (by omega)
  obtain ⟨lim, hlm⟩ : ∃ lim, z * 2 = lim := ⟨_, rfl⟩
  rw [hlm] at hwm
  have l0 : 0 ≤ lim := by omega
  have l1 : lim ≤ 510 := by omega
  have hall : Hid (ts.all taskB = true) := hide (by have := hR.ok (by omega); simp only [Bool.and_eq_true, tasksB, decide_eq_true_eq] at this; exact this.2)
  have okn : Hid ((tasksB ts && turnB n) = true) := hide (by rw [hR.ok (by omega), Bool.true_and]; exact inB_yes n0 (by omega))
  have okl : Hid (inB lim 0 1000000 = true) := hide (inB_yes l0 (by omega))
  have CC := cChainsI va lc ts n w1 (Tasks.own O) (by omega)
  clear C3
  go_wp2_with fail
  refine CC.mono ?_
  rintro e w2 ⟨vz, zs, rfl, hzs, Oz, hb2⟩
  obtain ⟨os, h, T⟩ := Told.of lim okn.out hzs
  have ez := T.cha zs hzs
  have hzl : zs.length ≤ 1048576 := by rw [ez, uL_len]; omega
  obtain ⟨za, zc, rfl⟩ := own_form Oz
  have O2 := own_keep O hb2
  have HB2 := btrans HB hb2
  clear O HB CC hzs
  replace ez := hide ez
  have CM := cMilI va lc ts n w2 (Tasks.own O2) (by omega)
  go_wp2_with fail
  refine CM.mono ?_
  rintro e w3 ⟨vm, ms, rfl, hms, Om, hb3⟩
  have em := hide (T.una _ ms hms)
  obtain ⟨ma, mc, rfl⟩ := own_form Om
  have O3 := own_keep O2 hb3
  have Oz3 := own_keep Oz hb3
  have HB3 := btrans HB2 hb3
  clear O2 HB2 CM hms Oz
  have CD := cDueI va lc ts n lim w3 (Tasks.own O3) (by omega)
  go_wp2_with fail
  refine CD.mono ?_
  rintro e w4 ⟨vd, ds, rfl, hds, Od, hb4⟩
  have ed := hide (T.due okl.out ds hds)
  obtain ⟨da, dc, rfl⟩ := own_form Od
  have O4 := own_keep O3 hb4
  have Oz4 := own_keep Oz3 hb4
  have Om4 := own_keep Om hb4
  have HB4 := btrans HB3 hb4
  clear O3 HB3 CD hds Oz3 Om
  replace hlm := hide hlm
  have lm : Hid (ms.length = nU h) := hide (by rw [em.out]; simp)
  have ld : Hid (ds.length = nU h) := hide (by rw [ed.out]; simp)
  have hne : ((ds.length : Int) != (ms.length : Int)) = false := by rw [lm.out, ld.out]; simp
  have hnu : Hid (nU h ≤ 20) := hide (by
    have h6 := T.chn.nU_le
    have h7 := congrArg List.length T.chn.places
    rw [List.length_map] at h7
    have := T.ord.len
    omega)
  have hdl : ds.length ≤ 1048576 := by have := ld.out; have := hnu.out; omega
  have CS := cChainsS va lc ts n w4 (Tasks.own O4) (by omega)
  go_wp2_with fail
  refine CS.mono ?_
  rintro e w5 ⟨vy, ys, rfl, hys, Oy, hb5⟩
  have ey := (T.cha ys hys).trans ez.out.symm
  subst ys
  obtain ⟨ya, yc, rfl⟩ := own_form Oy
  have O5 := own_keep O4 hb5
  have Oz5 := own_keep Oz4 hb5
  have Om5 := own_keep Om4 hb5
  have Od5 := own_keep Od hb5
  have HB5 := btrans HB4 hb5
  clear O4 HB4 CS hys Oz4 Om4 Od
  have CQ := cSame za ya zc yc zs w5 (Ints.own Oz5 rfl) (Ints.own Oy rfl) hzl
  go_wp2_with fail
  refine CQ.mono ?_
  rintro e w6 ⟨rfl, hb6⟩
  have O6 := own_keep O5 hb6
  have Oz6 := own_keep Oz5 hb6
  have Om6 := own_keep Om5 hb6
  have Od6 := own_keep Od5 hb6
  have HB6 := btrans HB5 hb6
  clear O5 HB5 CQ Oz5 Om5 Od5 Oy
  have CT := cDueS va lc ts n lim w6 (Tasks.own O6) (by omega)
  go_wp2_with fail
  refine CT.mono ?_
  rintro e w7 ⟨vx, xs, rfl, hxs, Ox, hb7⟩
  have ex := (T.due okl.out xs hxs).trans ed.out.symm
  subst xs
  obtain ⟨xa, xc, rfl⟩ := own_form Ox
  have O7 := own_keep O6 hb7
  have Oz7 := own_keep Oz6 hb7
  have Om7 := own_keep Om6 hb7
  have Od7 := own_keep Od6 hb7
  have HB7 := btrans HB6 hb7
  clear O6 HB6 CT hxs Oz6 Om6 Od6
  have CR := cSame da xa dc xc ds w7 (Ints.own Od7 rfl) (Ints.own Ox rfl) hdl
  go_wp2_with fail
  refine CR.mono ?_
  rintro e w8 ⟨rfl, hb8⟩
  have O := own_keep O7 hb8
  have Oz := own_keep Oz7 hb8
  have Om := own_keep Om7 hb8
  have Od := own_keep Od7 hb8
  have HB := btrans HB7 hb8
  clear O7 HB7 CR Oz7 Om7 Od7 Ox
  have hdc := hide (fun u => due_cases T.ord T.chn hall.out l0 u)
  have hvd := hide (fun u (hu : u < nU h) => (show ds.getD u 0 = dueOf ts lim 0 (runU h u) by rw [ed.out]; exact range_get _ hu))
  have hvm := hide (fun u (hu : u < nU h) => (show ms.getD u 0 = kmOf ts (runU h u) by rw [em.out]; exact range_get _ hu))
  have hzl2 : Hid (zs.length = ts.length) := hide (by rw [ez.out, uL_len])
  rw [← ez.out] at hdc
  have hab := hide (fun u p => ahead_bound hall.out zs u p)
  clear T ed em ez hR okn okl
  go_wp2
  go_loopw [9] (fun v wr => ∃ u : Nat, u ≤ ds.length ∧ v = .int .i64 u ∧ Below w8.heap.size w8 wr) (fun v _ => ds.length - (intOf v).toNat)
  case atStart => exact ⟨0, Nat.zero_le _, rfl, Below.refl _ _⟩
  case round =>
    obtain ⟨u, hu, rfl, hbr⟩ := hrel
    by_cases hul : u < ds.length
    · have hul' : (u : Int) < (ds.length : Int) := by omega
      have hun : u < nU h := by rw [← ld.out]; exact hul
      have hum : u < ms.length := by rw [lm.out]; exact hun
      have hum' : (u : Int) < (ms.length : Int) := by omega
      obtain ⟨gd, cd', he, hgd1, hgd2⟩ := Od.form (by omega)
      simp only [Value.slice.injEq, true_and] at he
      obtain ⟨rfl, rfl⟩ := he
      obtain ⟨gm, cm', he, hgm1, hgm2⟩ := Om.form (by omega)
      simp only [Value.slice.injEq, true_and] at he
      obtain ⟨rfl, rfl⟩ := he
      have d0 := ble hbr (row_int Od hul)
      have m0 := ble hbr (row_int Om hum)
      rw [hvd.out u hun] at d0
      rw [hvm.out u hun] at m0
      have hdu := hide (hdc.out u)
      generalize kmOf ts (runU h u) = mv at *
      generalize hDV : dueOf ts lim 0 (runU h u) = dv at *
      replace hDV := hide hDV
      rcases hdu.out with ⟨e1, e2⟩ | ⟨p, e1, hp, hpu, e2, e3, e4⟩
      · subst e1
        have c1 : decide ((0 : Int) ≤ -1) = false := by decide
        have c2 : decide (lim < mv) = false := decide_eq_false (by omega)
        have c3 : ¬ (lim < mv) := by omega
        clear hdu
        go_wp2
        go_quiet (fail)
        go_wp2
        go_roundw
        case rel => exact ⟨u + 1, by omega, by go_num, bdraw hbr _⟩
        case measure => simp [intOf]; omega
      · subst e1
        have c1 : decide ((0 : Int) ≤ (p : Int)) = true := by simp
        have c2 : decide (lim < mv) = true := decide_eq_true e2
        have hp0 : ¬ ((p : Int) < 0) := by omega
        have hpN : (p : Int) < (ts.length : Int) := by omega
        have hpN2 : ¬ ((ts.length : Int) ≤ (p : Int)) := by omega
        have hpN3 : decide (ts.length ≤ p) = false := decide_eq_false (by omega)
        have hpN4 : decide ((ts.length : Int) ≤ (p : Int)) = false := decide_eq_false (by omega)
        have hpN5 : ¬ (ts.length ≤ p) := by omega
        have hpz : p < zs.length := by rw [hzl2.out]; exact hp
        have hpz' : (p : Int) < (zs.length : Int) := by omega
        obtain ⟨gz, cz', he, hgz1, hgz2⟩ := Oz.form (by omega)
        simp only [Value.slice.injEq, true_and] at he
        obtain ⟨rfl, rfl⟩ := he
        obtain ⟨g, cg', he, hg1, hg2⟩ := O.form (by omega)
        simp only [Value.slice.injEq, true_and] at he
        obtain ⟨rfl, rfl⟩ := he
        have z0 := ble hbr (row_int Oz hpz)
        rw [hpu] at z0
        have hsb := hide (hab.out u p)
        replace e3 := hide e3
        replace e4 := hide e4
        obtain ⟨-, -, f2, -, f4⟩ := row_at5 (own_keep O hbr) hp
        have hpk : Hid (0 ≤ (tkA ts p).p ∧ (tkA ts p).p ≤ 2000) := hide (by have := taskB_iff.1 (tkA_ok hall.out hp); omega)
        have hun1 : ((u : Int) != (u : Int)) = false := by simp
        clear hdu
        generalize wr = wq at *
        have hkA : Hid (∀ i, kmAhead ts zs u p i = if zs.getD i 0 = (u : Int) ∧ (tkA ts i).f < (tkA ts p).f then (tkA ts i).p else 0) := hide (fun _ => rfl)
        generalize (tkA ts p).f = pf at *
        generalize (tkA ts p).p = pk at *
        go_wp2
        go_quiet (fail)
        go_wp2
        go_loopw [10, 11] (fun s v wr => ∃ i : Nat, i ≤ ts.length ∧ s = .int .i64 (sumTo (kmAhead ts zs u p) i) ∧ v = .int .i64 i ∧ Below wq.heap.size wq wr) (fun _ v _ => ts.length - (intOf v).toNat)
        case atStart => exact ⟨0, Nat.zero_le _, rfl, rfl, bdraw (Below.refl _ _) _⟩
        case round =>
          obtain ⟨i, hi, rfl, rfl, hbs⟩ := hrel
          by_cases hil : i < ts.length
          · have hil' : (i : Int) < (ts.length : Int) := by omega
            have hiz : i < zs.length := by rw [hzl2.out]; exact hil
            have hiz' : (i : Int) < (zs.length : Int) := by omega
            have r0 := ble hbs (ble hbr (row_int Oz hiz))
            obtain ⟨-, -, x2, -, x4⟩ := row_at5 (own_keep (own_keep O hbr) hbs) hil
            have f2' := ble hbs f2
            have d0' := ble hbs d0
            have hT : Hid (sumTo (kmAhead ts zs u p) (i + 1) = sumTo (kmAhead ts zs u p) i + kmAhead ts zs u p i) := rfl
            rw [hkA.out i] at hT
            have hsi := hsb.out i hi
            have hpi : 0 ≤ (tkA ts i).p ∧ (tkA ts i).p ≤ 2000 := by have := taskB_iff.1 (tkA_ok hall.out hil); omega
            generalize zs.getD i 0 = zi at *
            generalize (tkA ts i).f = fi at *
            generalize (tkA ts i).p = pi at *
            generalize sumTo (kmAhead ts zs u p) i = s at *
            by_cases hzu : zi = (u : Int)
            · subst hzu
              have hzb : ((u : Int) == (u : Int)) = true := by simp
              by_cases hff : fi < pf
              · rw [if_pos ⟨rfl, hff⟩] at hT
                have hfd : decide (fi < pf) = true := decide_eq_true hff
                have hw : IntKind.i64.wrap (s + pi) = s + pi := wrap_in _ (by omega) (by omega)
                go_wp2
                go_quiet (fail)
                go_wp2
                go_roundw
                case rel => exact ⟨i + 1, by omega, by rw [hT.out], by go_num, bdraw hbs _⟩
                case measure => simp [intOf]; omega
              · rw [if_neg (fun h => hff h.2), Int.add_zero] at hT
                have hfd : decide (fi < pf) = false := decide_eq_false hff
                go_wp2
                go_quiet (fail)
                go_wp2
                go_roundw
                case rel => exact ⟨i + 1, by omega, by rw [hT.out], by go_num, bdraw hbs _⟩
                case measure => simp [intOf]; omega
            · rw [if_neg (fun h => hzu h.1), Int.add_zero] at hT
              have hzb : (zi == (u : Int)) = false := beq_eq_false_iff_ne.2 hzu
              have hzd : decide (zi = (u : Int)) = false := decide_eq_false hzu
              go_wp2
              go_quiet (fail)
              go_wp2
              go_roundw
              case rel => exact ⟨i + 1, by omega, by rw [hT.out], by go_num, bdraw hbs _⟩
              case measure => simp [intOf]; omega
          · obtain rfl : i = ts.length := by omega
            have hil' : ¬ ((ts.length : Int) < (ts.length : Int)) := by omega
            have hsi := hsb.out ts.length (Nat.le_refl _)
            have k1 := e3.out
            have k2 := e4.out
            have k3 := hpk.out
            have d0' := ble hbs d0
            have f4' := ble hbs f4
            generalize sumTo (kmAhead ts zs u p) ts.length = s at *
            have b1 : ¬ (lim < s) := by omega
            have b2 : ¬ (s + pk ≤ lim) := by omega
            have hw : IntKind.i64.wrap (s + pk) = s + pk := wrap_in _ (by omega) (by omega)
            have hbF := btrans hbr hbs
            go_wp2
            go_roundw
            case rel => exact ⟨u + 1, by omega, by go_num, hbF⟩
            case measure => simp [intOf]; omega
    · obtain rfl : u = ds.length := by omega
      have hul' : ¬ ((ds.length : Int) < (ds.length : Int)) := by omega
      have HBF := btrans HB hbr
      clear O Oz Om Od
      go_wp2
      go_ret
      exact ⟨rfl, HBF⟩
end Go.Proofs.Ytbnhkkaiohmllaa
