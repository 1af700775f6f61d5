/- The walk of FnDuty. -/
import Derived.Test.YtdmdoknkkfhheaaDA
import Derived.Test.YtdmdoknkkfhheaaSC
namespace Go.Proofs.Ytdmdoknkkfhheaa
open Go.RowKit

def wideR : RuleV := ⟨1440, 1440, 1, 1440⟩
/-- What is told of a duty of drawn work. -/
structure Told (ts : List TaskV) (ps : List Int) (r : RuleV) (dr st x : Int) (P : Int → Int) : Prop where
  d : drivenV ts ps = dr
  s : stretchV ts ps r.r = st
  s9 : stretchV ts ps 1440 = dr
  c : dcV ts ps r = x
  c9 : dcV ts ps wideR = 0
  d0 : 0 ≤ dr
  d1 : dr ≤ 300
  st1 : 1 ≤ st
  st2 : st ≤ dr
  bad : x ≠ 0 → ∀ rate, wageV ts ps r rate = -1
  pay : x = 0 → ∀ rate, 0 ≤ rate → rate ≤ 1000 → wageV ts ps r rate = P rate
  ge : ∀ rate, 0 ≤ rate → rate * dr ≤ P rate
  more : ∀ rate, dr ≤ P (rate + 1) - P rate
  nil : P 0 = 0
  rng : ∀ rate, 0 ≤ rate → rate ≤ 1000 → 0 ≤ P rate ∧ P rate ≤ 10000000
theorem told {ms : List TaskV} {M nd : Int} {r : RuleV} (h : Wk ms M nd) (hl : ms.length ≤ 12) (hr : ruleB r = true) {n : Nat} (n1 : 1 ≤ n) (n3 : n ≤ 3) (hn : n ≤ ms.length) : ∃ dr st x P, Told (ms ++ [endT]) (rangeI n) r dr st x P := by
  have hR := Row.of_take h n
  have hs : (ms.take n).length = n := by simp; omega
  have hd : dutyB (ms ++ [endT]) (rangeI n) = true := by
    unfold dutyB
    rw [h.places hl hn (by omega), rangeI_len]; simp; omega
  have hp := Wk.pick (ms := ms) hn
  have hb := ruleB_iff.1 hr
  have a := hR.spdB (by omega)
  have b := (drv_bound hR.all).1
  refine ⟨drv (ms.take n), strV r.r (ms.take n), dcV (ms ++ [endT]) (rangeI n) r, payV r (ms.take n), ?_⟩
  refine ⟨by rw [drivenV_yes hd, hp], by rw [stretchV_yes hd (inB_yes hb.2.2.2.2.1 hb.2.2.2.2.2.1), hp], by rw [stretchV_yes hd (by decide), hp, hR.str_all (by omega)], rfl, by rw [dcV_yes hd (by decide), hp]; exact hR.wide (by omega) (by omega), b, by omega, hR.str_pos (by omega) _, hR.str_le _, ?_, ?_, ?_, ?_, pay_zero _ _, ?_⟩
  · exact fun hx rate => wageV_no1 hx
  · exact fun hx rate h0 h1 => by rw [wageV_yes hx (inB_yes h0 h1), hp]
  · exact fun rate h0 => pay_ge hR (by omega) h0
  · exact fun rate => pay_more hR (by omega)
  · exact fun rate h0 h1 => pay_range hR (by omega) (by omega) h0 h1 (by omega)

set_option maxRecDepth 20000 in
set_option maxHeartbeats 12800000 in
theorem walkDutyD (a : Option Addr) (cap : Nat) (bs : List Int) (w : World) (hz : Bytes w a bs) (hn : bs.length ≤ maxLen) :
    Calls Try.prog 4 #[.slice a bs.length cap] w fun e w' => e = .returned (.bool true) ∧ Below w.heap.size w w' := by
  have hq := atZ_in hz 3
  go_enter Try.func4, Try.ntmps4
  go_wp2_with fail
  refine (cbig a cap bs.length _ hn).mono ?_
  rintro e w1 ⟨rfl, hw⟩
  subst w1
  by_cases hB : 1048576 < bs.length
  · rw [decide_eq_true hB]
    go_wp2
    go_ret
    exact ⟨rfl, Below.refl _ _⟩
  rw [decide_eq_false hB]
  have hl : bs.length ≤ 1048576 := by omega
  have CA := fun (w' : World) (h : Below w.heap.size w w') => cat a cap bs 3 w' (hz.below h) hl (by omega)
  clear hB
  go_wp2_with fail
  refine (cDraw17 cap a bs _ hz hl).mono ?_
  rintro e w1 ⟨ms, M, nd, r, v, u, rfl, hW, l1, l2, hr, O, P, HB⟩
  have T1 := fun n n1 n3 hn => told hW l2 hr (n := n) n1 n3 hn
  obtain ⟨ts, hts⟩ : ∃ ts, ts = ms ++ [endT] := ⟨_, rfl⟩
  have hlt : ts.length ≤ 1048576 := by rw [hts]; simp; omega
  rw [← hts] at O T1
  obtain ⟨m, hm⟩ : ∃ m, m = ms.length := ⟨_, rfl⟩
  rw [← hm] at P T1 l1 l2
  clear hts hW hm
  obtain ⟨va, vc, rfl⟩ := own_form O
  obtain ⟨ua, uc, rfl⟩ := own_form P
  have hTs : Tasks w1 va ts := Tasks.own O
  have hPs : Ints w1 ua (rangeI m) := Ints.own P (rangeI_len m)
  have huc : m ≤ uc := by
    rcases P.2 with ⟨h1, h2⟩ | ⟨g, cap', cur, h1, _, _, h3, _⟩
    · simp at h1; omega
    · simp only [Value.slice.injEq] at h1; omega
  clear O P
  generalize atZ bs 3 = rate at *
  have hbX := balloc w1 (.cells #[.int .i64 r.p, .int .i64 r.d, .int .i64 r.r, .int .i64 r.s] 27)
  have X := Rul.new w1 r 27
  unfold RuleV.val
  by_cases h3 : 3 < m
  · have hPn : Ints w1 ua (rangeI 3) := by have := hPs.upto 3; rwa [take_range (by omega)] at this
    obtain ⟨dr, st, x, PY, T⟩ := T1 3 (by omega) (by omega) (by omega)
    have hpc : 3 ≤ uc := by omega
    have h3' : (3 : Int) < (m : Int) := by omega
    have h3c : (3 : Int) ≤ (uc : Int) := by omega
    have h3z : (0 : Int) ≤ 3 := by omega
    have CV := fun w ht hp => cDrivenI va vc ts ua uc (rangeI 3) w ht hp hlt (by rw [rangeI_len]; exact hpc)
    have CS := fun rest w ht hp => cStretchedI va vc ts ua uc (rangeI 3) rest w ht hp hlt (by rw [rangeI_len]; exact hpc)
    have CT := fun w ht hp => cStretchedS va vc ts ua uc (rangeI 3) r.r w ht hp hlt (by rw [rangeI_len]; exact hpc)
    have CC := fun w ht hp => cDutyCodeI va vc ts ua uc (rangeI 3) r w ht hp hlt (by rw [rangeI_len]; exact hpc)
    have CD := fun w ht hp => cDutyCodeS va vc ts ua uc (rangeI 3) r w ht hp hlt (by rw [rangeI_len]; exact hpc)
    have CW := fun w ht hp => cDutyCodeI va vc ts ua uc (rangeI 3) wideR w ht hp hlt (by rw [rangeI_len]; exact hpc)
    have CP := fun q w ht hp => cWageI va vc ts ua uc (rangeI 3) r q w ht hp hlt (by rw [rangeI_len]; exact hpc)
    have CS1 := fun w ht hp => CS r.r w ht hp
    have CS2 := fun w ht hp => CS 1440 w ht hp
    rw [T.s] at CS1 CT
    rw [T.s9] at CS2
    rw [T.d] at CV
    rw [T.c] at CC CD
    rw [T.c9] at CW
    rw [rangeI_len] at CV CS1 CS2 CT CC CD CW CP
    unfold RuleV.val at CC CD CW CP
    have hWd := btrans HB hbX
    have d0 := T.d0
    have d1 := T.d1
    have st1 := T.st1
    have st2 := T.st2
    have hbad := hide T.bad
    have hpay := hide T.pay
    have hge := hide T.ge
    have hmore := hide T.more
    have hnil := hide T.nil
    have hrng := hide T.rng
    clear T T1 CS h3
    have hTs1 := hTs.below hbX
    have hPs1 := hPn.below hbX
    go_wp2_with fail
    generalize w1.alloc (.cells #[.int .i64 r.p, .int .i64 r.d, .int .i64 r.r, .int .i64 r.s] 27) = W at *
    have KB := Below.refl W.heap.size W
    refine (CV _ hTs1 hPs1).mono ?_
    rintro e w2 ⟨rfl, hb⟩
    replace KB := btrans KB hb
    clear hb
    obtain ⟨c0, c1, c2, c3⟩ := (X.below KB).parts
    go_wp2_with fail
    refine (CS1 _ (hTs1.below KB) (hPs1.below KB)).mono ?_
    rintro e w3 ⟨rfl, hb⟩
    replace KB := btrans KB hb
    clear hb c0 c1 c2 c3
    have z1 : ¬ (dr < 0) := by omega
    have z2 : ¬ (st < 1) := by omega
    have z3 : ¬ (dr < st) := by omega
    go_wp2_with fail
    refine (CS2 _ (hTs1.below KB) (hPs1.below KB)).mono ?_
    rintro e w4 ⟨rfl, hb⟩
    replace KB := btrans KB hb
    clear hb
    obtain ⟨c0, c1, c2, c3⟩ := (X.below KB).parts
    have zz : (dr != dr) = false := by simp
    go_wp2_with fail
    refine (CT _ (hTs1.below KB) (hPs1.below KB)).mono ?_
    rintro e w5 ⟨rfl, hb⟩
    replace KB := btrans KB hb
    clear hb c0 c1 c2 c3
    have zy : (st != st) = false := by simp
    have hb9 := balloc w5 (.cells #[.int .i64 1440, .int .i64 1440, .int .i64 1, .int .i64 1440] 27)
    have X9 := Rul.new w5 wideR 27
    replace KB := btrans KB hb9
    change Rul (w5.alloc (.cells #[.int .i64 1440, .int .i64 1440, .int .i64 1, .int .i64 1440] 27)) w5.heap.size wideR at X9
    obtain ⟨c0, c1, c2, c3⟩ := (X.below KB).parts
    go_wp2_with fail
    refine (CC _ (hTs1.below KB) (hPs1.below KB)).mono ?_
    rintro e w6 ⟨rfl, hb⟩
    replace KB := btrans KB hb
    replace X9 := X9.below hb
    clear hb c0 c1 c2 c3 hb9
    obtain ⟨c0, c1, c2, c3⟩ := (X.below KB).parts
    go_wp2_with fail
    refine (CD _ (hTs1.below KB) (hPs1.below KB)).mono ?_
    rintro e w7 ⟨rfl, hb⟩
    replace KB := btrans KB hb
    replace X9 := X9.below hb
    clear hb c0 c1 c2 c3
    have zx : (x != x) = false := by simp
    obtain ⟨c0, c1, c2, c3⟩ := X9.parts
    go_wp2_with fail
    refine (CW _ (hTs1.below KB) (hPs1.below KB)).mono ?_
    rintro e w8 ⟨rfl, hb⟩
    replace KB := btrans KB hb
    clear hb c0 c1 c2 c3 X9
    go_wp2_with fail
    refine (CA _ (btrans hWd KB)).mono ?_
    rintro e w9 ⟨rfl, hw⟩
    subst w9
    obtain ⟨c0, c1, c2, c3⟩ := (X.below KB).parts
    have CP1 := CP rate _ (hTs1.below KB) (hPs1.below KB)
    by_cases hx : x = 0
    rotate_left
    · rw [hbad.out hx rate] at CP1
      have hx' : (x != 0) = true := by simpa using hx
      clear hx
      go_wp2_with fail
      refine CP1.mono ?_
      rintro e w10 ⟨rfl, hb⟩
      replace KB := btrans KB hb
      go_wp2
      go_ret
      exact ⟨rfl, btrans hWd KB⟩
    subst x
    rw [hpay.out (by trivial) rate (by omega) (by omega)] at CP1
    go_wp2_with fail
    refine CP1.mono ?_
    rintro e w10 ⟨rfl, hb⟩
    replace KB := btrans KB hb
    clear hb c0 c1 c2 c3 CP1
    obtain ⟨c0, c1, c2, c3⟩ := (X.below KB).parts
    have CP2 := CP (rate + 1) _ (hTs1.below KB) (hPs1.below KB)
    rw [hpay.out (by trivial) (rate + 1) (by omega) (by omega)] at CP2
    have g1 := hge.out rate (by omega)
    have g2 := hmore.out rate
    have g3 := hrng.out rate (by omega) (by omega)
    have g4 := hrng.out (rate + 1) (by omega) (by omega)
    have k1 : 0 ≤ rate * dr := Int.mul_nonneg (by omega) (by omega)
    have e1 : IntKind.i64.wrap (rate * dr) = rate * dr := wrap_in _ (by omega) (by omega)
    have e2 : IntKind.i64.wrap (rate + 1) = rate + 1 := wrap_in _ (by omega) (by omega)
    generalize PY (rate + 1) = p1 at *
    generalize PY rate = p0 at *
    have g5 : rate * dr ≤ p0 := g1
    have e3 : IntKind.i64.wrap (p1 - p0) = p1 - p0 := wrap_in _ (by omega) (by omega)
    have g6 : dr ≤ p1 - p0 := g2
    go_wp2_with fail
    refine CP2.mono ?_
    rintro e w11 ⟨rfl, hb⟩
    replace KB := btrans KB hb
    clear hb c0 c1 c2 c3 CP2
    obtain ⟨c0, c1, c2, c3⟩ := (X.below KB).parts
    have CP3 := CP 0 _ (hTs1.below KB) (hPs1.below KB)
    rw [hpay.out (by trivial) 0 (by omega) (by omega), hnil.out] at CP3
    go_wp2_with fail
    refine CP3.mono ?_
    rintro e w12 ⟨rfl, hb⟩
    replace KB := btrans KB hb
    go_wp2
    go_ret
    exact ⟨rfl, btrans hWd KB⟩
  · have hPn : Ints w1 ua (rangeI m) := hPs
    obtain ⟨dr, st, x, PY, T⟩ := T1 m l1 (by omega) (Nat.le_refl _)
    have hpc : m ≤ uc := huc
    have h3' : ¬ ((3 : Int) < (m : Int)) := by omega
    have CV := fun w ht hp => cDrivenI va vc ts ua uc (rangeI m) w ht hp hlt (by rw [rangeI_len]; exact hpc)
    have CS := fun rest w ht hp => cStretchedI va vc ts ua uc (rangeI m) rest w ht hp hlt (by rw [rangeI_len]; exact hpc)
    have CT := fun w ht hp => cStretchedS va vc ts ua uc (rangeI m) r.r w ht hp hlt (by rw [rangeI_len]; exact hpc)
    have CC := fun w ht hp => cDutyCodeI va vc ts ua uc (rangeI m) r w ht hp hlt (by rw [rangeI_len]; exact hpc)
    have CD := fun w ht hp => cDutyCodeS va vc ts ua uc (rangeI m) r w ht hp hlt (by rw [rangeI_len]; exact hpc)
    have CW := fun w ht hp => cDutyCodeI va vc ts ua uc (rangeI m) wideR w ht hp hlt (by rw [rangeI_len]; exact hpc)
    have CP := fun q w ht hp => cWageI va vc ts ua uc (rangeI m) r q w ht hp hlt (by rw [rangeI_len]; exact hpc)
    have CS1 := fun w ht hp => CS r.r w ht hp
    have CS2 := fun w ht hp => CS 1440 w ht hp
    rw [T.s] at CS1 CT
    rw [T.s9] at CS2
    rw [T.d] at CV
    rw [T.c] at CC CD
    rw [T.c9] at CW
    rw [rangeI_len] at CV CS1 CS2 CT CC CD CW CP
    unfold RuleV.val at CC CD CW CP
    have hWd := btrans HB hbX
    have d0 := T.d0
    have d1 := T.d1
    have st1 := T.st1
    have st2 := T.st2
    have hbad := hide T.bad
    have hpay := hide T.pay
    have hge := hide T.ge
    have hmore := hide T.more
    have hnil := hide T.nil
    have hrng := hide T.rng
    clear T T1 CS h3
    have hTs1 := hTs.below hbX
    have hPs1 := hPn.below hbX
    go_wp2_with fail
    generalize w1.alloc (.cells #[.int .i64 r.p, .int .i64 r.d, .int .i64 r.r, .int .i64 r.s] 27) = W at *
    have KB := Below.refl W.heap.size W
    refine (CV _ hTs1 hPs1).mono ?_
    rintro e w2 ⟨rfl, hb⟩
    replace KB := btrans KB hb
    clear hb
    obtain ⟨c0, c1, c2, c3⟩ := (X.below KB).parts
    go_wp2_with fail
    refine (CS1 _ (hTs1.below KB) (hPs1.below KB)).mono ?_
    rintro e w3 ⟨rfl, hb⟩
    replace KB := btrans KB hb
    clear hb c0 c1 c2 c3
    have z1 : ¬ (dr < 0) := by omega
    have z2 : ¬ (st < 1) := by omega
    have z3 : ¬ (dr < st) := by omega
    go_wp2_with fail
    refine (CS2 _ (hTs1.below KB) (hPs1.below KB)).mono ?_
    rintro e w4 ⟨rfl, hb⟩
    replace KB := btrans KB hb
    clear hb
    obtain ⟨c0, c1, c2, c3⟩ := (X.below KB).parts
    have zz : (dr != dr) = false := by simp
    go_wp2_with fail
    refine (CT _ (hTs1.below KB) (hPs1.below KB)).mono ?_
    rintro e w5 ⟨rfl, hb⟩
    replace KB := btrans KB hb
    clear hb c0 c1 c2 c3
    have zy : (st != st) = false := by simp
    have hb9 := balloc w5 (.cells #[.int .i64 1440, .int .i64 1440, .int .i64 1, .int .i64 1440] 27)
    have X9 := Rul.new w5 wideR 27
    replace KB := btrans KB hb9
    change Rul (w5.alloc (.cells #[.int .i64 1440, .int .i64 1440, .int .i64 1, .int .i64 1440] 27)) w5.heap.size wideR at X9
    obtain ⟨c0, c1, c2, c3⟩ := (X.below KB).parts
    go_wp2_with fail
    refine (CC _ (hTs1.below KB) (hPs1.below KB)).mono ?_
    rintro e w6 ⟨rfl, hb⟩
    replace KB := btrans KB hb
    replace X9 := X9.below hb
    clear hb c0 c1 c2 c3 hb9
    obtain ⟨c0, c1, c2, c3⟩ := (X.below KB).parts
    go_wp2_with fail
    refine (CD _ (hTs1.below KB) (hPs1.below KB)).mono ?_
    rintro e w7 ⟨rfl, hb⟩
    replace KB := btrans KB hb
    replace X9 := X9.below hb
    clear hb c0 c1 c2 c3
    have zx : (x != x) = false := by simp
    obtain ⟨c0, c1, c2, c3⟩ := X9.parts
    go_wp2_with fail
    refine (CW _ (hTs1.below KB) (hPs1.below KB)).mono ?_
    rintro e w8 ⟨rfl, hb⟩
    replace KB := btrans KB hb
    clear hb c0 c1 c2 c3 X9
    go_wp2_with fail
    refine (CA _ (btrans hWd KB)).mono ?_
    rintro e w9 ⟨rfl, hw⟩
    subst w9
    obtain ⟨c0, c1, c2, c3⟩ := (X.below KB).parts
    have CP1 := CP rate _ (hTs1.below KB) (hPs1.below KB)
    by_cases hx : x = 0
    rotate_left
    · rw [hbad.out hx rate] at CP1
      have hx' : (x != 0) = true := by simpa using hx
      clear hx
      go_wp2_with fail
      refine CP1.mono ?_
      rintro e w10 ⟨rfl, hb⟩
      replace KB := btrans KB hb
      go_wp2
      go_ret
      exact ⟨rfl, btrans hWd KB⟩
    subst x
    rw [hpay.out (by trivial) rate (by omega) (by omega)] at CP1
    go_wp2_with fail
    refine CP1.mono ?_
    rintro e w10 ⟨rfl, hb⟩
    replace KB := btrans KB hb
    clear hb c0 c1 c2 c3 CP1
    obtain ⟨c0, c1, c2, c3⟩ := (X.below KB).parts
    have CP2 := CP (rate + 1) _ (hTs1.below KB) (hPs1.below KB)
    rw [hpay.out (by trivial) (rate + 1) (by omega) (by omega)] at CP2
    have g1 := hge.out rate (by omega)
    have g2 := hmore.out rate
    have g3 := hrng.out rate (by omega) (by omega)
    have g4 := hrng.out (rate + 1) (by omega) (by omega)
    have k1 : 0 ≤ rate * dr := Int.mul_nonneg (by omega) (by omega)
    have e1 : IntKind.i64.wrap (rate * dr) = rate * dr := wrap_in _ (by omega) (by omega)
    have e2 : IntKind.i64.wrap (rate + 1) = rate + 1 := wrap_in _ (by omega) (by omega)
    generalize PY (rate + 1) = p1 at *
    generalize PY rate = p0 at *
    have g5 : rate * dr ≤ p0 := g1
    have e3 : IntKind.i64.wrap (p1 - p0) = p1 - p0 := wrap_in _ (by omega) (by omega)
    have g6 : dr ≤ p1 - p0 := g2
    go_wp2_with fail
    refine CP2.mono ?_
    rintro e w11 ⟨rfl, hb⟩
    replace KB := btrans KB hb
    clear hb c0 c1 c2 c3 CP2
    obtain ⟨c0, c1, c2, c3⟩ := (X.below KB).parts
    have CP3 := CP 0 _ (hTs1.below KB) (hPs1.below KB)
    rw [hpay.out (by trivial) 0 (by omega) (by omega), hnil.out] at CP3
    go_wp2_with fail
    refine CP3.mono ?_
    rintro e w12 ⟨rfl, hb⟩
    replace KB := btrans KB hb
    go_wp2
    go_ret
    exact ⟨rfl, btrans hWd KB⟩
end Go.Proofs.Ytdmdoknkkfhheaa
