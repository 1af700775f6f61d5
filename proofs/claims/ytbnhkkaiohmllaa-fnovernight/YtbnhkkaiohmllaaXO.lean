/- The walk of FnOvernight. -/
import Derived.Test.YtbnhkkaiohmllaaXD
import Derived.Test.YtbnhkkaiohmllaaMO
import Derived.BigQuiet
namespace Go.Proofs.Ytbnhkkaiohmllaa
open Go.RowKit Go.Lib

set_option maxRecDepth 20000 in
set_option maxHeartbeats 12800000 in
theorem walkOvernightD (a : Option Addr) (cap : Nat) (bs : List Int) (w : World) (hz : Bytes w a bs) (hn : bs.length ≤ maxLen) :
    Calls Try.prog 5 #[.slice a bs.length cap] w fun e w' => e = .returned (.bool true) ∧ Below w.heap.size w w' := by
  obtain ⟨i1, hi1, hy0, hy1, hy2⟩ := info_parts infoTasks
  go_enter Try.func5, Try.ntmps5
  go_wp2_with fail
  refine (cbig a cap bs.length _ hn).mono ?_
  rintro e w1 ⟨rfl, hw⟩
  subst w1
  by_cases hB : 1048576 < bs.length
  · rw [decide_eq_true hB]
    go_wp2
    go_ret
    exact ⟨rfl, Below.refl _ _⟩
  rw [decide_eq_false hB]
  have hl : bs.length ≤ 1048576 := by omega
  clear hB
  go_wp2_with fail
  refine (cDraw16 cap a bs _ hz hl).mono ?_
  rintro e w1 ⟨v, hs, n, rfl, hR, h20, n0, n15, O, HB⟩
  obtain ⟨va, lc, rfl⟩ := own_form O
  have okL := hide (prs_right hR h20)
  have balL := hide (prs_bal hR h20)
  have hRk : Hid (∀ k, k < hs.length → RightD (tkA hs k)) := hide (fun k hk => hR.at hk)
  have okn : Hid (turnB n = true) := hide (inB_yes n0 (by omega))
  have P0 : (w1.alloc (.cells #[] 32)).ownsRow w1.heap.size 32 5 (.slice (some ⟨w1.heap.size, 0, none⟩) 0 0) 0 (flatTasks []) := World.ownsRow_made w1 #[] 0 (Nat.le_refl _) (by unfold maxLen; omega) (by simp)
  have A1 := balloc w1 (.cells #[] 32)
  clear hR
  go_wp2
  go_loopw [5, 6] (fun v ii wr => ∃ (k : Nat) (ms : List TaskV), k ≤ hs.length ∧ ii = .int .i64 k ∧ Hid (ms = prs (hs.take k)) ∧ ms.length = 2 * k ∧ wr.ownsRow w1.heap.size 32 5 v ms.length (flatTasks ms) ∧ Below w1.heap.size w1 wr) (fun _ ii _ => hs.length - (intOf ii).toNat)
  case atStart => exact ⟨0, [], Nat.zero_le _, rfl, hide rfl, rfl, P0, A1⟩
  case round =>
    clear P0 A1
    obtain ⟨k, ms, hk, rfl, hms, hml, P, hbr⟩ := hrel
    obtain ⟨pa, pc, rfl⟩ := own_form P
    by_cases hlt : k < hs.length
    · have hlt' : (k : Int) < (hs.length : Int) := by omega
      have hw0 : IntKind.i64.wrap ((ms.length : Int) + 2) = (ms.length : Int) + 2 := wrap_in _ (by omega) (by omega)
      have hle : (ms.length : Int) + 2 ≤ 40 := by omega
      have hled : decide ((ms.length : Int) + 2 ≤ 40) = true := decide_eq_true hle
      have hm38 : ms.length ≤ 38 := by omega
      replace hml := hide hml
      obtain ⟨g, cg', he, hg1, hg2⟩ := O.form (by omega)
      simp only [Value.slice.injEq, true_and] at he
      obtain ⟨rfl, rfl⟩ := he
      obtain ⟨x0, x1, x2, x3, x4⟩ := row_at5 (own_keep O hbr) hlt
      have hrd := hRk.out k hlt
      have hmn := hide (show ms ++ [tkA hs k, (tkA hs k).back] = prs (hs.take (k + 1)) by rw [prs_take hlt, hms.out])
      generalize tkA hs k = t at *
      obtain ⟨te, td, tf, tt, tp⟩ := t
      unfold RightD at hrd
      unfold TaskV.back at hmn
      dsimp only at hrd hmn x0 x1 x2 x3 x4
      have hw1 : IntKind.i64.wrap (tf + 1440) = tf + 1440 := wrap_in _ (by omega) (by omega)
      have hw2 : IntKind.i64.wrap (tt + 1440) = tt + 1440 := wrap_in _ (by omega) (by omega)
      have P1 := own_keep P (balloc wr (.cells #[.int .i64 te, .int .i64 td, .int .i64 tf, .int .i64 tt, .int .i64 tp] 32))
      have hb1 := btrans hbr (balloc wr (.cells #[.int .i64 te, .int .i64 td, .int .i64 tf, .int .i64 tt, .int .i64 tp] 32))
      have P2 := own_keep P1 (balloc _ (.cells #[.int .i64 te, .int .i64 td, .int .i64 tf, .int .i64 tt, .int .i64 tp, .int .i64 td, .int .i64 te, .int .i64 (tf + 1440), .int .i64 (tt + 1440), .int .i64 tp] 32))
      have hb2 := btrans hb1 (balloc _ (.cells #[.int .i64 te, .int .i64 td, .int .i64 tf, .int .i64 tt, .int .i64 tp, .int .i64 td, .int .i64 te, .int .i64 (tf + 1440), .int .i64 (tt + 1440), .int .i64 tp] 32))
      go_wp2_with (at_builtin; refine wpList_append_own _ rfl _ _ 24 rfl w1.heap.size 32 i1 _ 5 40 Try.underlying24 hi1 hy0 hy1 hy2 rfl (by decide) _ _ _ rfl P2 ⟨wr.heap.size + 1, 0, none⟩ 2 2 [.int .i64 te, .int .i64 td, .int .i64 tf, .int .i64 tt, .int .i64 tp, .int .i64 td, .int .i64 te, .int .i64 (tf + 1440), .int .i64 (tt + 1440), .int .i64 tp] rfl rfl ?c1 ?c2 ?c3 ?c4 ?c5 ?_)
      case c1 => exact World.news_of_block (cs := #[.int .i64 te, .int .i64 td, .int .i64 tf, .int .i64 tt, .int .i64 tp, .int .i64 td, .int .i64 te, .int .i64 (tf + 1440), .int .i64 (tt + 1440), .int .i64 tp]) (one_block1 wr _ _)
      case c2 => simp [Value.oneCell']
      case c3 => unfold maxLen; omega
      case c4 => omega
      case c5 => have := hbr.size; simp; omega
      intro v2 w5 hown hgrow _
      have hb5 := hb2.grown hgrow hb2.size (own_from P2 (Nat.le_refl _))
      have hown2 : w5.ownsRow w1.heap.size 32 5 v2 (ms ++ [(⟨te, td, tf, tt, tp⟩ : TaskV), ⟨td, te, tf + 1440, tt + 1440, tp⟩]).length (flatTasks (ms ++ [(⟨te, td, tf, tt, tp⟩ : TaskV), ⟨td, te, tf + 1440, tt + 1440, tp⟩])) := by
        rw [List.length_append, flatTasks_app]; exact hown
      obtain ⟨v2a, v2c, rfl⟩ := own_form hown2
      clear hgrow hown P1 P2 P hb1 hb2 O
      go_wp2
      go_roundw
      case rel => exact ⟨k + 1, _, by omega, by go_num, hmn, by have := hml.out; simp; omega, hown2, hb5⟩
      case measure => simp [intOf]; omega
    · obtain rfl : k = hs.length := by omega
      have hlt' : ¬ ((hs.length : Int) < (hs.length : Int)) := by omega
      have hms2 := hms.out
      rw [List.take_length] at hms2
      have okn' : Hid ((tasksB ms && turnB n) = true) := hide (by rw [hms2, okL.out, okn.out]; rfl)
      have hbal : balB ms = true := by rw [hms2]; exact balL.out
      have hsur : Hid (∀ x, surp ms ms.length x = 0) := hide (fun x => by rw [hms2]; exact prs_surp hs x)
      have hL : ms.length ≤ 40 := by omega
      have HB1 := btrans HB hbr
      clear hms hms2 okL balL hRk okn O HB hbr hml
      generalize ms = ts at *
      have CB := cBalI pa pc ts wr (Tasks.own P) (by omega)
      rw [hbal] at CB
      go_wp2_with fail
      refine CB.mono ?_
      rintro e w2 ⟨rfl, hb2⟩
      have O2 := own_keep P hb2
      have HB2 := btrans HB1 hb2
      clear P HB1 CB hbal
      have CC := cChainsI pa pc ts n w2 (Tasks.own O2) (by omega)
      go_wp2_with fail
      refine CC.mono ?_
      rintro e w3 ⟨vz, zs, rfl, hzs, Oz, hb3⟩
      obtain ⟨os, h, T⟩ := Told.of 0 okn'.out hzs
      have ez := T.cha zs hzs
      have hzl : zs.length ≤ 1048576 := by rw [ez, uL_len]; omega
      have hzt : Hid (zs.length = ts.length) := hide (by rw [ez, uL_len])
      obtain ⟨za, zc, rfl⟩ := own_form Oz
      have O3 := own_keep O2 hb3
      have HB3 := btrans HB2 hb3
      clear O2 HB2 CC hzs
      replace ez := hide ez
      have CN := cNightI pa pc ts n w3 (Tasks.own O3) (by omega)
      go_wp2_with fail
      refine CN.mono ?_
      rintro e w4 ⟨vn, ns, rfl, hns, On, hb4⟩
      have en := hide (T.una _ ns hns)
      have ln : Hid (ns.length = nU h) := hide (by rw [en.out]; simp)
      obtain ⟨na, nc, rfl⟩ := own_form On
      have O4 := own_keep O3 hb4
      have Oz4 := own_keep Oz hb4
      have HB4 := btrans HB3 hb4
      clear O3 HB3 CN hns Oz
      have CS := cChainsS pa pc ts n w4 (Tasks.own O4) (by omega)
      go_wp2_with fail
      refine CS.mono ?_
      rintro e w5 ⟨vy, ys, rfl, hys, Oy, hb5⟩
      have ey := (T.cha ys hys).trans ez.out.symm
      subst ys
      obtain ⟨ya, yc, rfl⟩ := own_form Oy
      have O5 := own_keep O4 hb5
      have Oz5 := own_keep Oz4 hb5
      have On5 := own_keep On hb5
      have HB5 := btrans HB4 hb5
      clear O4 HB4 CS hys Oz4 On
      have CQ := cSame za ya zc yc zs w5 (Ints.own Oz5 rfl) (Ints.own Oy rfl) hzl
      go_wp2_with fail
      refine CQ.mono ?_
      rintro e w6 ⟨rfl, hb6⟩
      have O := own_keep O5 hb6
      have Oz := own_keep Oz5 hb6
      have On := own_keep On5 hb6
      have HB := btrans HB5 hb6
      clear O5 HB5 CQ Oz5 On5 Oy
      have hnut : Hid (nU h ≤ ts.length) := hide (by
        have h6 := T.chn.nU_le
        have h7 := congrArg List.length T.chn.places
        rw [List.length_map] at h7
        have := T.ord.len
        omega)
      have hnu : Hid (nU h ≤ 40) := hide (by have := hnut.out; omega)
      have hnv := hide (fun u (hu : u < nU h) => (show ns.getD u 0 = nightOf ts (runU h u) by rw [en.out]; exact range_get _ hu))
      have hfirst : Hid (∀ u ff, u < nU h → FirstTo ts zs u ts.length ff → ff = ((runU h u).headD 0 : Nat) ∧ (runU h u).headD 0 < ts.length) := hide (fun u ff hu hF => first_is T.ord T.chn (by rw [ez.out] at hF; exact hF) hu)
      have hflow := hide (fun x => flow_all T.ord T.chn x (hsur.out x))
      have hfb := hide (fun x k => flow_bound ts h x k)
      clear T ez en okn' hsur
      go_wp2
      go_loopw [10] (fun v wr => ∃ x : Nat, x ≤ 3 ∧ v = .int .i64 x ∧ Below w6.heap.size w6 wr) (fun v _ => 3 - (intOf v).toNat)
      case atStart => exact ⟨0, by omega, rfl, Below.refl _ _⟩
      case round =>
        obtain ⟨x, hx, rfl, hbx⟩ := hrel
        by_cases hx3 : x < 3
        · have hx3' : (x : Int) < 3 := by omega
          have hf0 := hflow.out (x : Int)
          have hfbx := hide (hfb.out (x : Int))
          replace hf0 := hide hf0
          obtain ⟨wx, rfl⟩ : ∃ wx, wx = wr := ⟨wr, rfl⟩
          go_wp2
          go_loopw [11, 12] (fun s v wr => ∃ u : Nat, u ≤ nU h ∧ s = .int .i64 (sumTo (flow ts h x) u) ∧ v = .int .i64 u ∧ Below w6.heap.size w6 wr) (fun _ v _ => nU h - (intOf v).toNat)
          case atStart => exact ⟨0, Nat.zero_le _, rfl, rfl, hbx⟩
          case round =>
          clear hbx
          obtain ⟨u, hu, rfl, rfl, hbq⟩ := hrel
          by_cases hun : u < nU h
          rotate_left
          · obtain rfl : u = nU h := by omega
            have hul' : ¬ (((nU h : Nat) : Int) < (ns.length : Int)) := by rw [ln.out]; omega
            rw [hf0.out]
            go_wp2
            go_roundw
            case rel => exact ⟨x + 1, by omega, by go_num, hbq⟩
            case measure => simp [intOf]; omega
          have hul : u < ns.length := by rw [ln.out]; exact hun
          have hul' : (u : Int) < (ns.length : Int) := by omega
          have hlz : 0 < zs.length := by
            rw [hzt.out]
            have := hnut.out
            omega
          obtain ⟨gn, cn', he, hgn1, hgn2⟩ := On.form (by omega)
          simp only [Value.slice.injEq, true_and] at he
          obtain ⟨rfl, rfl⟩ := he
          obtain ⟨gz, cz', he, hgz1, hgz2⟩ := Oz.form (by omega)
          simp only [Value.slice.injEq, true_and] at he
          obtain ⟨rfl, rfl⟩ := he
          obtain ⟨g, cg', he, hg1, hg2⟩ := O.form (by have := hzt.out; omega)
          simp only [Value.slice.injEq, true_and] at he
          obtain ⟨rfl, rfl⟩ := he
          have n0' := ble hbq (row_int On hul)
          rw [hnv.out u hun] at n0'
          have hu40 := hnu.out
          have hFl : Hid (sumTo (flow ts h x) (u + 1) = sumTo (flow ts h x) u + ((if nightOf ts (runU h u) = (x : Int) then 1 else 0) - (if (tkA ts ((runU h u).headD 0)).e = (x : Int) then 1 else 0))) := hide rfl
          have hsb := hfbx.out u
          generalize nightOf ts (runU h u) = nv at *
          generalize sumTo (flow ts h x) u = s at *
          obtain ⟨wq, rfl⟩ : ∃ wq, wq = wr := ⟨wr, rfl⟩
          by_cases hnx : nv = (x : Int)
          · subst hnx
            rw [if_pos rfl] at hFl
            have hws : IntKind.i64.wrap (s + 1) = s + 1 := wrap_in _ (by omega) (by omega)
            obtain ⟨j, hj⟩ : ∃ j, s + 1 = j := ⟨_, rfl⟩
            rw [hj] at hws
            have hjb : -40 ≤ j ∧ j ≤ 41 := by omega
            have hJ := hide hj
            clear hj
            go_wp2
            go_loopw [13, 14] (fun f v wr => ∃ (i : Nat) (ff : Int), i ≤ ts.length ∧ f = .int .i64 ff ∧ v = .int .i64 i ∧ Hid (FirstTo ts zs u i ff) ∧ Below wq.heap.size wq wr) (fun _ v _ => ts.length - (intOf v).toNat)
            case atStart => exact ⟨0, -1, Nat.zero_le _, rfl, rfl, hide (FirstTo.start _ _ _), Below.refl _ _⟩
            case round =>
              obtain ⟨i, ff, hi, rfl, rfl, hF, hbs⟩ := hrel
              by_cases hil : i < ts.length
              · have hil' : (i : Int) < (ts.length : Int) := by omega
                have hiz : i < zs.length := by rw [hzt.out]; exact hil
                have hiz' : (i : Int) < (zs.length : Int) := by omega
                have r0 := ble hbs (ble hbq (row_int Oz hiz))
                obtain ⟨-, -, x2, -, -⟩ := row_at5 (own_keep (own_keep O hbq) hbs) hil
                by_cases hzu : zs.getD i 0 = (u : Int)
                · rw [hzu] at r0
                  have hzb : ((u : Int) == (u : Int)) = true := by simp
                  rcases hF.out.range with hneg | ⟨m, hm, hmi⟩
                  · subst hneg
                    have hN := hide (hF.out.first hzu)
                    clear hzu hF
                    generalize (tkA ts i).f = fi at *
                    go_wp2
                    go_quiet (fail)
                    go_wp2
                    go_roundw
                    case rel => exact ⟨i + 1, i, by omega, rfl, by go_num, hN, bdraw hbs _⟩
                    case measure => simp [intOf]; omega
                  · subst hm
                    have hml : m < ts.length := by omega
                    have hml' : (m : Int) < (ts.length : Int) := by omega
                    obtain ⟨-, -, y2, -, -⟩ := row_at5 (own_keep (own_keep O hbq) hbs) hml
                    have hnd : decide ((m : Int) < 0) = false := by simp
                    by_cases hff : (tkA ts i).f < (tkA ts m).f
                    · have hN := hide (hF.out.less hzu hff)
                      have hfd : decide ((tkA ts i).f < (tkA ts m).f) = true := decide_eq_true hff
                      clear hzu hF
                      generalize (tkA ts i).f = fi at *
                      generalize (tkA ts m).f = fm at *
                      go_wp2
                      go_quiet (fail)
                      go_wp2
                      go_roundw
                      case rel => exact ⟨i + 1, i, by omega, rfl, by go_num, hN, bdraw hbs _⟩
                      case measure => simp [intOf]; omega
                    · have hN := hide (hF.out.more hff)
                      have hfd : decide ((tkA ts i).f < (tkA ts m).f) = false := decide_eq_false hff
                      clear hzu hF
                      generalize (tkA ts i).f = fi at *
                      generalize (tkA ts m).f = fm at *
                      go_wp2
                      go_quiet (fail)
                      go_wp2
                      go_roundw
                      case rel => exact ⟨i + 1, m, by omega, rfl, by go_num, hN, bdraw hbs _⟩
                      case measure => simp [intOf]; omega
                · have hN := hide (hF.out.skip hzu)
                  generalize zs.getD i 0 = zi at *
                  have hzb : (zi == (u : Int)) = false := beq_eq_false_iff_ne.2 hzu
                  have hzd : decide (zi = (u : Int)) = false := decide_eq_false hzu
                  clear hF
                  go_wp2
                  go_quiet (fail)
                  go_wp2
                  go_roundw
                  case rel => exact ⟨i + 1, ff, by omega, rfl, by go_num, hN, bdraw hbs _⟩
                  case measure => simp [intOf]; omega
              · obtain rfl : i = ts.length := by omega
                have hil' : ¬ ((ts.length : Int) < (ts.length : Int)) := by omega
                obtain ⟨hfi, hml⟩ := hfirst.out u ff hun hF.out
                subst hfi
                generalize (runU h u).headD 0 = m at *
                have hml' : (m : Int) < (ts.length : Int) := by omega
                obtain ⟨y0, -, -, -, -⟩ := row_at5 (own_keep (own_keep O hbq) hbs) hml
                have hnd : decide ((m : Int) < 0) = false := by simp
                have hnd' : ¬ ((m : Int) < 0) := by omega
                have hbF := btrans hbq hbs
                generalize (tkA ts m).e = me at *
                by_cases hme : me = (x : Int)
                · subst hme
                  rw [if_pos rfl] at hFl
                  have hwm : IntKind.i64.wrap (j - 1) = j - 1 := wrap_in _ (by omega) (by omega)
                  go_wp2
                  go_roundw
                  case rel => exact ⟨u + 1, by omega, by rw [hFl.out]; congr 1 <;> (have := hJ.out; omega), by go_num, hbF⟩
                  case measure => simp [intOf]; omega
                · rw [if_neg hme] at hFl
                  have hmd : (me == (x : Int)) = false := beq_eq_false_iff_ne.2 hme
                  have hmd2 : decide (me = (x : Int)) = false := decide_eq_false hme
                  go_wp2
                  go_roundw
                  case rel => exact ⟨u + 1, by omega, by rw [hFl.out]; congr 1 <;> (have := hJ.out; omega), by go_num, hbF⟩
                  case measure => simp [intOf]; omega
          · rw [if_neg hnx] at hFl
            have hnb : (nv == (x : Int)) = false := beq_eq_false_iff_ne.2 hnx
            have hnb2 : decide (nv = (x : Int)) = false := decide_eq_false hnx
            have hJ : Hid (s = s) := hide rfl
            go_wp2
            go_loopw [13, 14] (fun f v wr => ∃ (i : Nat) (ff : Int), i ≤ ts.length ∧ f = .int .i64 ff ∧ v = .int .i64 i ∧ Hid (FirstTo ts zs u i ff) ∧ Below wq.heap.size wq wr) (fun _ v _ => ts.length - (intOf v).toNat)
            case atStart => exact ⟨0, -1, Nat.zero_le _, rfl, rfl, hide (FirstTo.start _ _ _), Below.refl _ _⟩
            case round =>
              obtain ⟨i, ff, hi, rfl, rfl, hF, hbs⟩ := hrel
              by_cases hil : i < ts.length
              · have hil' : (i : Int) < (ts.length : Int) := by omega
                have hiz : i < zs.length := by rw [hzt.out]; exact hil
                have hiz' : (i : Int) < (zs.length : Int) := by omega
                have r0 := ble hbs (ble hbq (row_int Oz hiz))
                obtain ⟨-, -, x2, -, -⟩ := row_at5 (own_keep (own_keep O hbq) hbs) hil
                by_cases hzu : zs.getD i 0 = (u : Int)
                · rw [hzu] at r0
                  have hzb : ((u : Int) == (u : Int)) = true := by simp
                  rcases hF.out.range with hneg | ⟨m, hm, hmi⟩
                  · subst hneg
                    have hN := hide (hF.out.first hzu)
                    clear hzu hF
                    generalize (tkA ts i).f = fi at *
                    go_wp2
                    go_quiet (fail)
                    go_wp2
                    go_roundw
                    case rel => exact ⟨i + 1, i, by omega, rfl, by go_num, hN, bdraw hbs _⟩
                    case measure => simp [intOf]; omega
                  · subst hm
                    have hml : m < ts.length := by omega
                    have hml' : (m : Int) < (ts.length : Int) := by omega
                    obtain ⟨-, -, y2, -, -⟩ := row_at5 (own_keep (own_keep O hbq) hbs) hml
                    have hnd : decide ((m : Int) < 0) = false := by simp
                    by_cases hff : (tkA ts i).f < (tkA ts m).f
                    · have hN := hide (hF.out.less hzu hff)
                      have hfd : decide ((tkA ts i).f < (tkA ts m).f) = true := decide_eq_true hff
                      clear hzu hF
                      generalize (tkA ts i).f = fi at *
                      generalize (tkA ts m).f = fm at *
                      go_wp2
                      go_quiet (fail)
                      go_wp2
                      go_roundw
                      case rel => exact ⟨i + 1, i, by omega, rfl, by go_num, hN, bdraw hbs _⟩
                      case measure => simp [intOf]; omega
                    · have hN := hide (hF.out.more hff)
                      have hfd : decide ((tkA ts i).f < (tkA ts m).f) = false := decide_eq_false hff
                      clear hzu hF
                      generalize (tkA ts i).f = fi at *
                      generalize (tkA ts m).f = fm at *
                      go_wp2
                      go_quiet (fail)
                      go_wp2
                      go_roundw
                      case rel => exact ⟨i + 1, m, by omega, rfl, by go_num, hN, bdraw hbs _⟩
                      case measure => simp [intOf]; omega
                · have hN := hide (hF.out.skip hzu)
                  generalize zs.getD i 0 = zi at *
                  have hzb : (zi == (u : Int)) = false := beq_eq_false_iff_ne.2 hzu
                  have hzd : decide (zi = (u : Int)) = false := decide_eq_false hzu
                  clear hF
                  go_wp2
                  go_quiet (fail)
                  go_wp2
                  go_roundw
                  case rel => exact ⟨i + 1, ff, by omega, rfl, by go_num, hN, bdraw hbs _⟩
                  case measure => simp [intOf]; omega
              · obtain rfl : i = ts.length := by omega
                have hil' : ¬ ((ts.length : Int) < (ts.length : Int)) := by omega
                obtain ⟨hfi, hml⟩ := hfirst.out u ff hun hF.out
                subst hfi
                generalize (runU h u).headD 0 = m at *
                have hml' : (m : Int) < (ts.length : Int) := by omega
                obtain ⟨y0, -, -, -, -⟩ := row_at5 (own_keep (own_keep O hbq) hbs) hml
                have hnd : decide ((m : Int) < 0) = false := by simp
                have hnd' : ¬ ((m : Int) < 0) := by omega
                have hbF := btrans hbq hbs
                generalize (tkA ts m).e = me at *
                by_cases hme : me = (x : Int)
                · subst hme
                  rw [if_pos rfl] at hFl
                  have hwm : IntKind.i64.wrap (s - 1) = s - 1 := wrap_in _ (by omega) (by omega)
                  go_wp2
                  go_roundw
                  case rel => exact ⟨u + 1, by omega, by rw [hFl.out]; congr 1 <;> (have := hJ.out; omega), by go_num, hbF⟩
                  case measure => simp [intOf]; omega
                · rw [if_neg hme] at hFl
                  have hmd : (me == (x : Int)) = false := beq_eq_false_iff_ne.2 hme
                  have hmd2 : decide (me = (x : Int)) = false := decide_eq_false hme
                  go_wp2
                  go_roundw
                  case rel => exact ⟨u + 1, by omega, by rw [hFl.out]; congr 1 <;> (have := hJ.out; omega), by go_num, hbF⟩
                  case measure => simp [intOf]; omega
        · obtain rfl : x = 3 := by omega
          have HBF := btrans HB hbx
          clear O Oz On
          go_wp2
          go_ret
          exact ⟨rfl, HBF⟩
end Go.Proofs.Ytbnhkkaiohmllaa
