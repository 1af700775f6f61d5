/- The walk of FnRelieve. -/
import Derived.Test.YtdmdoknkkfhheaaDA
import Derived.Test.YtdmdoknkkfhheaaMX
import Derived.Test.YtdmdoknkkfhheaaSD
import Derived.Test.YtdmdoknkkfhheaaWE
namespace Go.Proofs.Ytdmdoknkkfhheaa
open Go.RowKit

set_option maxRecDepth 20000 in
set_option maxHeartbeats 1600000 in
theorem cSame (a1 a2 : Option Addr) (c1 c2 : Nat) (l : List Int) (w : World) (h1 : Ints w a1 l) (h2 : Ints w a2 l) (hl : l.length ≤ 1048576) :
    Calls Try.prog 16 #[.slice a1 l.length c1, .slice a2 l.length c2] w fun e w' => e = .returned (.bool true) ∧ Below w.heap.size w w' := by
  go_enter Try.func16, Try.ntmps16
  go_wp2
  go_loopw [5] (fun i wr => ∃ k : Nat, k ≤ l.length ∧ i = .int .i64 k ∧ Below w.heap.size w wr) (fun i _ => l.length - (intOf i).toNat)
  case atStart => exact ⟨0, Nat.zero_le _, rfl, Below.refl _ _⟩
  case round =>
    obtain ⟨k, hk, rfl, hb⟩ := hrel
    by_cases hlt : k < l.length
    · rcases h1 with h | ⟨b1, o1, rfl, q1⟩
      · simp [h] at hlt
      rcases h2 with h | ⟨b2, o2, rfl, q2⟩
      · simp [h] at hlt
      have p0 := ble hb (q1 k hlt)
      have r0 := ble hb (q2 k hlt)
      clear q1 q2
      generalize l.getD k 0 = y at *
      go_wp2_with fail
      go_quiet (fail)
      go_wp2
      go_roundw
      case rel => exact ⟨k + 1, by omega, by go_num, bdraw hb _⟩
      case measure => simp [intOf]; omega
    · obtain rfl : k = l.length := by omega
      clear h1 h2
      go_wp2
      go_ret
      exact ⟨rfl, hb⟩

theorem cast_get {l : List Nat} {i m : Nat} (h : i < l.length) : (l.map (fun (i : Nat) => (i : Int))).getD i 0 = ((l.getD i m : Nat) : Int) := by
  simp [List.getD, h]
set_option maxRecDepth 20000 in
set_option maxHeartbeats 12800000 in
theorem walkRelieveD (a : Option Addr) (cap : Nat) (bs : List Int) (w : World) (hz : Bytes w a bs) (hn : bs.length ≤ maxLen) :
    Calls Try.prog 3 #[.slice a bs.length cap] w fun e w' => e = .returned (.bool true) ∧ Below w.heap.size w w' := by
  go_enter Try.func3, Try.ntmps3
  go_wp2_with fail
  refine (cbig a cap bs.length _ hn).mono ?_
  rintro e w1 ⟨rfl, hw⟩
  subst w1
  by_cases hB : 1048576 < bs.length
  · rw [decide_eq_true hB]
    go_wp2
    go_ret
    exact ⟨rfl, Below.refl _ _⟩
  rw [decide_eq_false hB]
  have hl : bs.length ≤ 1048576 := by omega
  clear hB
  go_wp2_with fail
  refine (cDraw17 cap a bs _ hz hl).mono ?_
  rintro e w1 ⟨ms, M, nd, r, v, u, rfl, hW, l1, l2, hr, O, P, HB⟩
  have T1 := fun zs ok h => toldR hW l1 l2 hr (zs := zs) (ok := ok) h
  have hall := hide hW.all
  have hPL := hW.places l2 (Nat.le_refl ms.length) (m := 12) l2
  have hDu : dutyB (ms ++ [endT]) (rangeI ms.length) = true := by unfold dutyB; rw [hPL, rangeI_len]; simp; omega
  have hPk : pickL (ms ++ [endT]) (rangeI ms.length) = ms := by rw [Wk.pick (Nat.le_refl _), List.take_length]
  have hAt := hide (fun k (hk : k < ms.length) => pick_at hDu (k := k) (by rw [rangeI_len]; exact hk))
  obtain ⟨ts, hts⟩ : ∃ ts, ts = ms ++ [endT] := ⟨_, rfl⟩
  have hlt : ts.length ≤ 1048576 := by rw [hts]; simp; omega
  rw [← hts] at O T1 hPk hAt
  obtain ⟨m, hm⟩ : ∃ m, m = ms.length := ⟨_, rfl⟩
  rw [hPk] at hAt
  rw [← hm] at P T1 l1 l2 hAt
  have HM := hide hm
  clear hts hW hm hPL hDu hPk
  obtain ⟨va, vc, rfl⟩ := own_form O
  obtain ⟨ua, uc, rfl⟩ := own_form P
  have hTs : Tasks w1 va ts := Tasks.own O
  have hPs : Ints w1 ua (rangeI m) := Ints.own P (rangeI_len m)
  have huc : m ≤ uc := by
    rcases P.2 with ⟨h1, h2⟩ | ⟨g, cap', cur, h1, _, _, h3, _⟩
    · simp at h1; omega
    · simp only [Value.slice.injEq] at h1; omega
  clear O P
  have hbX := balloc w1 (.cells #[.int .i64 r.p, .int .i64 r.d, .int .i64 r.r, .int .i64 r.s] 27)
  have X := Rul.new w1 r 27
  have CI := fun w ht hp => (cRelieveI va vc ts ua uc (rangeI m) r w ht hp hlt (by rw [rangeI_len]; exact huc)).mono (fun e w' h => h.parts)
  have CS := fun w ht hp => (cRelieveS va vc ts ua uc (rangeI m) r w ht hp hlt (by rw [rangeI_len]; exact huc)).mono (fun e w' h => h.parts)
  have CR := fun w => cRuleI r w
  have CC := fun w ht hp => cDutyCodeI va vc ts ua uc (rangeI m) r w ht hp hlt (by rw [rangeI_len]; exact huc)
  have CP := fun (b off i j : Nat) (w : World) ht (hp : Ints w (some ⟨b, off + i, none⟩) (cutL (rangeI m) i j)) h => cDutyCodeI va vc ts (some ⟨b, off + i, none⟩) (uc - i) (cutL (rangeI m) i j) r w ht hp hlt h
  have CV := fun (b off i j : Nat) (w : World) ht (hp : Ints w (some ⟨b, off + i, none⟩) (cutL (rangeI m) i j)) h => cDrivenI va vc ts (some ⟨b, off + i, none⟩) (uc - i) (cutL (rangeI m) i j) w ht hp hlt h
  rw [hr] at CR
  rw [rangeI_len] at CI CS CC
  unfold RuleV.val at *
  have hWd := btrans HB hbX
  have hTs1 := hTs.below hbX
  have hPs1 := hPs.below hbX
  obtain ⟨c0, c1, c2, c3⟩ := X.parts
  go_wp2_with fail
  generalize w1.alloc (.cells #[.int .i64 r.p, .int .i64 r.d, .int .i64 r.r, .int .i64 r.s] 27) = W at *
  have KB := Below.refl W.heap.size W
  refine (CI _ hTs1 hPs1).mono ?_
  rintro e w2 ⟨vG, zs, ok, rfl, hRG, G0, hb⟩
  have T := T1 zs ok hRG
  have hzl := hRG.len
  obtain ⟨Ga, Gc, rfl⟩ := own_form G0
  have hG : Ints w2 Ga zs := Ints.own G0 rfl
  replace KB := btrans KB hb
  clear hb c0 c1 c2 c3 CI G0 T1
  obtain ⟨c0, c1, c2, c3⟩ := (X.below KB).parts
  go_wp2_with fail
  refine (CS _ (hTs1.below KB) (hPs1.below KB)).mono ?_
  rintro e w3 ⟨vS, zsS, okS, rfl, hRS, S0, hb⟩
  obtain ⟨hzE, hoE⟩ := hRS.uniq hRG
  subst zsS
  subst okS
  obtain ⟨Sa, Sc, rfl⟩ := own_form S0
  have hS : Ints w3 Sa zs := Ints.own S0 rfl
  replace KB := btrans KB hb
  replace hG := hG.below hb
  clear hb c0 c1 c2 c3 CS S0 hRS hRG
  obtain ⟨c0, c1, c2, c3⟩ := (X.below KB).parts
  go_wp2_with fail
  refine (CR _).mono ?_
  rintro e w4 ⟨rfl, hb⟩
  replace KB := btrans KB hb
  replace hG := hG.below hb
  replace hS := hS.below hb
  clear hb c0 c1 c2 c3 CR
  have zo : (ok != ok) = false := by simp
  go_wp2_with fail
  refine (cSame _ _ _ _ zs _ hG hS (by omega)).mono ?_
  rintro e w5 ⟨rfl, hb⟩
  replace KB := btrans KB hb
  replace hG := hG.below hb
  clear hb hS
  obtain ⟨c0, c1, c2, c3⟩ := (X.below KB).parts
  cases ok
  · obtain ⟨h0, hx⟩ := T.no rfl
    subst zs
    have CC1 := CC _ (hTs1.below KB) (hPs1.below KB)
    rw [T.c] at CC1
    generalize dcV ts (rangeI m) r = x at *
    have hx' : (x != 0) = true := by simpa using hx
    have h12 : ¬ ((12 : Int) < (m : Int)) := by omega
    clear T CC CP CV hG hx
    go_wp2_with fail
    refine CC1.mono ?_
    rintro e w6 ⟨rfl, hb⟩
    replace KB := btrans KB hb
    go_wp2
    go_ret
    exact ⟨rfl, btrans hWd KB⟩
  obtain ⟨l, rfl, q1, q2, q3, q4, q5⟩ := T.yes rfl
  have hTc := T.c
  clear T c0 c1 c2 c3
  rcases hPs1 with h | ⟨pb, poff, rfl, hpc⟩
  · have := congrArg List.length h; rw [rangeI_len] at this; simp at this; omega
  have hPs2 : Ints W (some ⟨pb, poff, none⟩) (rangeI m) := .inr ⟨pb, poff, rfl, hpc⟩
  rcases hG with h | ⟨gb, goff, rfl, hgc⟩
  · have h2 := congrArg List.length h; rw [List.length_map] at h2; simp only [List.length_nil] at h2; omega
  have hG : Ints w5 (some ⟨gb, goff, none⟩) (l.map (fun (i : Nat) => (i : Int))) := .inr ⟨gb, goff, rfl, hgc⟩
  have g0 := hgc 0 (by simp; omega)
  rw [cast_get (m := m) q1, q3] at g0
  rw [List.length_map] at hgc
  have hll : (l.map (fun (i : Nat) => (i : Int))).length = l.length := by simp
  rw [hll]
  have hl0 : ((l.length : Int) == 0) = false := beq_eq_false_iff_ne.2 (by omega)
  have hl1 : (0 : Int) < (l.length : Int) := by omega
  have hzz : l.length ≠ 0 := by omega
  clear hpc hll hzl
  generalize w5 = W5 at *
  simp only [Nat.add_zero] at g0
  have hpre := hide (fun k (hk : k ≤ m) => pre_bound hall.out (b := k) (by have := HM.out; omega))
  have hpm := hide (fun (i k : Nat) (h1 : i ≤ k) (hk : k ≤ m) => pre_mono hall.out h1 (by have := HM.out; omega))
  have hps := hide (fun k (hk : k < m) => pre_succ (s := ms) (k := k) (by have := HM.out; omega))
  have hp0 : Hid (pre ms 0 = 0) := pre_zero ms
  go_wp2
  go_loopw [10, 11] (fun d iv wr => ∃ (i : Nat) (dv : Int), i ≤ l.length ∧ d = .int .i64 dv ∧ Hid (dv = pre ms (l.getD i m)) ∧ iv = .int .i64 (i : Int) ∧ Below W5.heap.size W5 wr) (fun _ iv _ => l.length - (intOf iv).toNat)
  case atStart => exact ⟨0, 0, Nat.zero_le _, rfl, hide (by rw [q3, hp0.out]), rfl, Below.refl _ _⟩
  case round =>
    obtain ⟨i, dv, hi, rfl, hdv, rfl, hbr⟩ := hrel
    by_cases hlt2 : i < l.length
    · have hlt' : (i : Int) < (l.length : Int) := by omega
      obtain ⟨s1, s2, s3, s4⟩ := q4 i hlt2
      have gi := ble hbr (hgc i hlt2)
      rw [cast_get (m := m) hlt2] at gi
      have hKR := btrans KB hbr
      have e1 : IntKind.i64.wrap ((i : Int) + 1) = (i : Int) + 1 := wrap_in _ (by omega) (by omega)
      have hlen : (cutL (rangeI m) (l.getD i m) (l.getD (i + 1) m)).length = l.getD (i + 1) m - l.getD i m := cutL_len (by rw [rangeI_len]; exact s2)
      have P1 := CP pb poff (l.getD i m) (l.getD (i + 1) m) wr.drew ((hTs1.below hKR).below (bdraw (Below.refl _ _) 1)) (((hPs2.below hKR).below (bdraw (Below.refl _ _) 1)).cut (by rw [rangeI_len]; exact s2)) (by rw [hlen]; omega)
      have V1 := fun (w' : World) (h : Below wr.heap.size wr w') => CV pb poff (l.getD i m) (l.getD (i + 1) m) w' ((hTs1.below hKR).below h) (((hPs2.below hKR).below h).cut (by rw [rangeI_len]; exact s2)) (by rw [hlen]; omega)
      rw [s3, hlen] at P1
      rw [s4, hlen] at V1
      have b1 := hpre.out (l.getD i m) (by omega)
      have b2 := hpre.out (l.getD (i + 1) m) s2
      have b3 := hpm.out (l.getD i m) (l.getD (i + 1) m) (by omega) s2
      obtain ⟨c0, c1, c2, c3⟩ := (X.below hKR).parts
      have hbd : Below wr.heap.size wr wr.drew := bdraw (Below.refl wr.heap.size wr) 1
      have hnd : Hid (∀ dv' : Int, dv' = pre ms (l.getD (i + 1) m) → dv' = pre ms (l.getD (i + 1) m)) := hide (fun _ h => h)
      by_cases hi1 : i + 1 < l.length
      · have gj := ble hbr (hgc (i + 1) hi1)
        rw [cast_get (m := m) hi1] at gj
        have hi1' : (i : Int) + 1 < (l.length : Int) := by omega
        have hi2' : (0 : Int) ≤ (i : Int) + 1 := by omega
        have hi3' : ((i : Int) + 1).toNat = i + 1 := by omega
        clear hlen s3 s4
        obtain ⟨T, hT⟩ : ∃ T, T = l.getD (i + 1) m := ⟨_, rfl⟩
        rw [← hT] at s1 s2 P1 V1 b2 b3 gj hnd
        obtain ⟨S, hSS⟩ : ∃ S, S = l.getD i m := ⟨_, rfl⟩
        rw [← hSS] at s1 P1 V1 gi hdv b1 b3
        replace hT := hide hT
        replace hSS := hide hSS
        have i1 : ¬ ((T : Int) ≤ (S : Int)) := by omega
        have i1b : decide ((T : Int) ≤ (S : Int)) = false := decide_eq_false i1
        have i1n : decide (T ≤ S) = false := decide_eq_false (by omega)
        have i2 : (0 : Int) ≤ (S : Int) := by omega
        have i3 : (S : Int) ≤ (T : Int) := by omega
        have i4 : (T : Int) ≤ (uc : Int) := by omega
        have i5 : ¬ ((uc : Int) = (S : Int)) := by omega
        have i6 : ¬ (uc = S) := by omega
        have hbs := cell_lt gi
        go_wp2_with fail
        go_region_held3 (fun w' => w'.cell? ⟨w1.heap.size, 0, none⟩ = some (.int .i64 r.p) ∧ w'.cell? ⟨w1.heap.size, 1, none⟩ = some (.int .i64 r.d) ∧ w'.cell? ⟨w1.heap.size, 2, none⟩ = some (.int .i64 r.r) ∧ w'.cell? ⟨w1.heap.size, 3, none⟩ = some (.int .i64 r.s) ∧ w'.cell? ⟨gb, goff + i, none⟩ = some (.int .i64 (S : Int))) (go_keep) ((go_at_call 17; with_reducible refine P1.mono ?_; rintro e wq ⟨rfl, hbq⟩; have Bq := btrans hbd hbq; have m0 := ble Bq c0; have m1 := ble Bq c1; have m2 := ble Bq c2; have m3 := ble Bq c3; have m4 := ble Bq gi))
        have V2 := V1 wq Bq
        have hbq2 := btrans hbr Bq
        clear V1 P1 c0 c1 c2 c3 m0 m1 m2 m3 gi gj
        go_wp2_with fail
        refine V2.mono ?_
        rintro e w9 ⟨rfl, hb9⟩
        have e9 : IntKind.i64.wrap (dv + (pre ms T - pre ms S)) = dv + (pre ms T - pre ms S) := wrap_in _ (by have := hdv.out; omega) (by have := hdv.out; omega)
        have hN : Hid (dv + (pre ms T - pre ms S) = pre ms (l.getD (i + 1) m)) := hide (by rw [← hT.out]; have := hdv.out; omega)
        clear V2 m4 hnd hdv hT hSS
        generalize pre ms T = pT at *
        generalize pre ms S = pS at *
        go_wp2
        go_roundw
        case rel => exact ⟨i + 1, _, by omega, rfl, hN, by go_num, btrans hbq2 hb9⟩
        case measure => simp [intOf]; omega
      · have hi1' : ¬ ((i : Int) + 1 < (l.length : Int)) := by omega
        have hTm : l.getD (i + 1) m = m := by simp [List.getD, show l.length ≤ i + 1 by omega]
        clear hlen s3 s4
        rw [hTm] at s1 s2 P1 V1 b2 b3 hnd
        obtain ⟨S, hSS⟩ : ∃ S, S = l.getD i m := ⟨_, rfl⟩
        rw [← hSS] at s1 P1 V1 gi hdv b1 b3
        have hT := hide hTm.symm
        clear hTm
        replace hSS := hide hSS
        have i1 : ¬ ((m : Int) ≤ (S : Int)) := by omega
        have i1b : decide ((m : Int) ≤ (S : Int)) = false := decide_eq_false i1
        have i1n : decide (m ≤ S) = false := decide_eq_false (by omega)
        have i2 : (0 : Int) ≤ (S : Int) := by omega
        have i3 : (S : Int) ≤ (m : Int) := by omega
        have i4 : (m : Int) ≤ (uc : Int) := by omega
        have i5 : ¬ ((uc : Int) = (S : Int)) := by omega
        have i6 : ¬ (uc = S) := by omega
        have hbs := cell_lt gi
        go_wp2_with fail
        go_region_held3 (fun w' => w'.cell? ⟨w1.heap.size, 0, none⟩ = some (.int .i64 r.p) ∧ w'.cell? ⟨w1.heap.size, 1, none⟩ = some (.int .i64 r.d) ∧ w'.cell? ⟨w1.heap.size, 2, none⟩ = some (.int .i64 r.r) ∧ w'.cell? ⟨w1.heap.size, 3, none⟩ = some (.int .i64 r.s) ∧ w'.cell? ⟨gb, goff + i, none⟩ = some (.int .i64 (S : Int))) (go_keep) ((go_at_call 17; with_reducible refine P1.mono ?_; rintro e wq ⟨rfl, hbq⟩; have Bq := btrans hbd hbq; have m0 := ble Bq c0; have m1 := ble Bq c1; have m2 := ble Bq c2; have m3 := ble Bq c3; have m4 := ble Bq gi))
        have V2 := V1 wq Bq
        have hbq2 := btrans hbr Bq
        clear V1 P1 c0 c1 c2 c3 m0 m1 m2 m3 gi 
        go_wp2_with fail
        refine V2.mono ?_
        rintro e w9 ⟨rfl, hb9⟩
        have e9 : IntKind.i64.wrap (dv + (pre ms m - pre ms S)) = dv + (pre ms m - pre ms S) := wrap_in _ (by have := hdv.out; omega) (by have := hdv.out; omega)
        have hN : Hid (dv + (pre ms m - pre ms S) = pre ms (l.getD (i + 1) m)) := hide (by rw [← hT.out]; have := hdv.out; omega)
        clear V2 m4 hnd hdv hT hSS
        generalize pre ms m = pT at *
        generalize pre ms S = pS at *
        go_wp2
        go_roundw
        case rel => exact ⟨i + 1, _, by omega, rfl, hN, by go_num, btrans hbq2 hb9⟩
        case measure => simp [intOf]; omega
    · obtain rfl : i = l.length := by omega
      have hE : dv = pre ms m := by rw [hdv.out]; congr 1; simp [List.getD]
      clear hdv
      subst dv
      clear hgc g0 CP CV q3 q4
      generalize wr = wo at *
      go_wp2
      go_loopw [13, 14] (fun d iv wr => ∃ k : Nat, k ≤ m ∧ d = .int .i64 (pre ms k) ∧ iv = .int .i64 (k : Int) ∧ Below wo.heap.size wo wr) (fun _ iv _ => m - (intOf iv).toNat)
      case atStart => exact ⟨0, Nat.zero_le _, by rw [hp0.out], rfl, Below.refl _ _⟩
      case round =>
        obtain ⟨k, hk, rfl, rfl, hbw⟩ := hrel
        have hKR := btrans (btrans KB hbr) hbw
        by_cases hlk : k < m
        · have hlk' : (k : Int) < (m : Int) := by omega
          obtain ⟨q, a1, a2, a3, a4⟩ := hAt.out k hlk
          rcases hPs2 with h | ⟨b', off', he, hc⟩
          · have := congrArg List.length h; rw [rangeI_len] at this; simp at this; omega
          cases he
          rcases hTs1 with h | ⟨tb, toff, rfl, htc⟩
          · simp [h] at a2
          have p0 := ble hKR (hc k (by rw [rangeI_len]; exact hlk))
          rw [a1] at p0
          have t2 := ble hKR (htc q a2).2.2.1
          have t3 := ble hKR (htc q a2).2.2.2.1
          have a2' : (q : Int) < (ts.length : Int) := by omega
          have hT := hide (hps.out k hlk)
          rw [a3] at hT
          have hb1 := hpre.out k hk
          have hM : Hid (mn (ts.getD q TaskV.zero) = (ts.getD q TaskV.zero).t - (ts.getD q TaskV.zero).f) := rfl
          have ky := taskB_iff.1 a4
          generalize mn (ts.getD q TaskV.zero) = mq at *
          generalize ts.getD q TaskV.zero = y at *
          generalize pre ms k = v at *
          obtain ⟨ye, yd, yf, yt, yp⟩ := y
          dsimp only at *
          have e1 : IntKind.i64.wrap (v + yt) = v + yt := wrap_in _ (by omega) (by omega)
          have e2 : IntKind.i64.wrap (v + yt - yf) = v + yt - yf := wrap_in _ (by omega) (by omega)
          clear hc htc a1 a3 a4 hAt CC X
          go_wp2
          go_quiet (fail)
          go_wp2
          go_roundw
          case rel => exact ⟨k + 1, by omega, (by rw [hT.out, hM.out]; congr 1; omega), by go_num, bdraw hbw _⟩
          case measure => simp [intOf]; omega
        · obtain rfl : k = m := by omega
          have CC1 := CC _ (hTs1.below hKR) (hPs2.below hKR)
          obtain ⟨c0, c1, c2, c3⟩ := (X.below hKR).parts
          generalize dcV ts (rangeI k) r = x at *
          generalize pre ms k = v at *
          have zv : (v == v) = true := by simp
          have zl : decide ((k : Int) ≤ 12) = true := decide_eq_true (by omega)
          have h12 : (k : Int) ≤ 12 := by omega
          have hKD := btrans hWd hKR
          clear hAt CC X hps hpre hpm
          by_cases hone : l.length = 1
          · have hx : x = 0 := q5.1 hone
            subst x
            have z1 : ((l.length : Int) == 1) = true := by rw [hone]; rfl
            clear q5
            replace hone := hide hone
            go_wp2_with fail
            refine CC1.mono ?_
            rintro e w9 ⟨rfl, hb⟩
            go_wp2
            go_ret
            exact ⟨rfl, btrans hKD hb⟩
          · have hx : (x == 0) = false := beq_eq_false_iff_ne.2 (fun h => hone (q5.2 h))
            have z1 : ((l.length : Int) == 1) = false := beq_eq_false_iff_ne.2 (by omega)
            clear q5
            go_wp2_with fail
            refine CC1.mono ?_
            rintro e w9 ⟨rfl, hb⟩
            go_wp2
            go_ret
            exact ⟨rfl, btrans hKD hb⟩
end Go.Proofs.Ytdmdoknkkfhheaa
