/- Carded of the model; Through of both. -/
import Derived.Test.YtepdnaahhkkdeaaCB
import Derived.Test.YtepdnaahhkkdeaaCF
import Derived.BigQuiet
import Derived.Deep.RegionHeld3
namespace Go.Proofs.Ytepdnaahhkkdeaa
open Go.RowKit
set_option maxRecDepth 20000 in
set_option maxHeartbeats 3200000 in
theorem cCardedS (b s r fare m : Int) (js : List Int) (a : Option Addr) (c : Nat) (ca : Option Addr) (cc : Nat) (cs : List CardV) (w : World) (hz : Ints w a js) (hl : js.length ≤ 1048576) (hL : Cards w ca cs) (hl2 : cs.length ≤ 1048576) :
    Calls Try.prog 24 #[.agg #[.int .i64 b, .int .i64 s, .slice a js.length c, .int .i64 r], .int .i64 fare, .slice ca cs.length cc, .int .i64 m] w fun e w' => e = .returned (.int .i64 (cardedV b s js r fare cs m)) ∧ Below w.heap.size w w' := by
  have hW := balloc w (.cells #[.int .i64 b, .int .i64 s, .slice a js.length c, .int .i64 r] 27)
  have X := Bx4.new w (.int .i64 b) (.int .i64 s) (.slice a js.length c) (.int .i64 r) 27
  have C := cTfS b s r js a c _ (hz.below hW) hl
  cases h0 : tfB b s js r
  · have R := hide (cardedV_t (fare := fare) (m := m) (cs := cs) h0)
    rw [h0] at C
    go_enter Try.func24, Try.ntmps24
    go_wp2_with (go_at_call 13; refine C.mono ?_; rintro e w' ⟨rfl, hb⟩; have HB := btrans hW hb; obtain ⟨x0, x1, x2, x3⟩ := X.below hb; clear hb)
    go_ret
    exact ⟨ret_int R.out.symm, HB⟩
  rw [h0] at C
  have CC := fun w1 (hb : Below w.heap.size w w1) => cCardsS ca cc cs w1 (hL.below hb) hl2
  cases h1 : cardsB cs
  · have R := hide (cardedV_c (b := b) (s := s) (r := r) (js := js) (fare := fare) (m := m) h1)
    rw [h1] at CC
    go_enter Try.func24, Try.ntmps24
    go_wp2_with (first | (go_at_call 13; refine C.mono ?_; rintro e w' ⟨rfl, hb⟩; have HB := btrans hW hb; obtain ⟨x0, x1, x2, x3⟩ := X.below hb; clear hb) | (go_at_call 20; refine (CC _ HB).mono ?_; rintro e w' ⟨rfl, hb⟩; have HB2 := btrans HB hb; clear hb))
    go_ret
    exact ⟨ret_int R.out.symm, HB2⟩
  rw [h1] at CC
  cases h2 : inB fare 0 10000000
  · have R := hide (cardedV_f (b := b) (s := s) (r := r) (js := js) (cs := cs) (m := m) h2)
    go_enter Try.func24, Try.ntmps24
    go_wp2_with (first | (go_at_call 13; refine C.mono ?_; rintro e w' ⟨rfl, hb⟩; have HB := btrans hW hb; obtain ⟨x0, x1, x2, x3⟩ := X.below hb; clear hb) | (go_at_call 20; refine (CC _ HB).mono ?_; rintro e w' ⟨rfl, hb⟩; have HB2 := btrans HB hb; clear hb) | (go_at_call 43; refine (cIn _ _ _ _).mono ?_; rintro e w' ⟨rfl, hw'⟩; subst w'))
    go_ret
    exact ⟨ret_int R.out.symm, HB2⟩
  cases h3 : inB m 0 100000
  · have R := hide (cardedV_m (b := b) (s := s) (r := r) (js := js) (cs := cs) (fare := fare) h3)
    go_enter Try.func24, Try.ntmps24
    go_wp2_with (first | (go_at_call 13; refine C.mono ?_; rintro e w' ⟨rfl, hb⟩; have HB := btrans hW hb; obtain ⟨x0, x1, x2, x3⟩ := X.below hb; clear hb) | (go_at_call 20; refine (CC _ HB).mono ?_; rintro e w' ⟨rfl, hb⟩; have HB2 := btrans HB hb; clear hb) | (go_at_call 43; refine (cIn _ _ _ _).mono ?_; rintro e w' ⟨rfl, hw'⟩; subst w'))
    go_ret
    exact ⟨ret_int R.out.symm, HB2⟩
  have R := hide (cardedV_ok h0 h1 h2 h3)
  have g2 := inB_true h2
  have g3 := inB_true h3
  have T := Tf.of h0
  have hcl := cards_len h1
  have hcd := fun i (hi : i < cs.length) => Cd.at h1 hi
  go_enter Try.func24, Try.ntmps24
  go_wp2_with fail
  refine C.mono ?_
  rintro e w1 ⟨rfl, hb⟩
  have HB := btrans hW hb
  have X1 := X.below hb
  clear hb C X hW h0
  go_wp2_with fail
  refine (CC _ HB).mono ?_
  rintro e w2 ⟨rfl, hb⟩
  replace HB := btrans HB hb
  replace X1 := X1.below hb
  clear hb CC h1
  go_wp2_with (go_at_call 43; refine (cIn _ _ _ _).mono ?_; rintro e w' ⟨rfl, hw'⟩; subst w')
  go_loopw [9, 10, 11] (fun p i _ wr => ∃ k : Nat, k ≤ cs.length ∧ i = .int .i64 k ∧ p = .int .i64 (cbest r fare m (cs.take k)) ∧ Below w2.heap.size w2 wr) (fun _ i _ _ => cs.length - (intOf i).toNat)
  case atStart => exact ⟨0, Nat.zero_le _, rfl, by simp [cbest], Below.refl _ _⟩
  case round =>
    obtain ⟨k, hk, rfl, rfl, hb⟩ := hrel
    have fin := btrans HB hb
    have X2 := X1.below hb
    by_cases hlt : k < cs.length
    · rcases hL with h | ⟨bb, off, rfl, hc⟩
      · simp [h] at hlt
      obtain ⟨q0, q1, q2, q3⟩ := hc k hlt
      have p0 := (ble fin q0)
      have p1 := (ble fin q1)
      have p2 := (ble fin q2)
      have p3 := (ble fin q3)
      have hbs := cell_lt q0
      clear hc q0 q1 q2 q3
      have hst := hide (cbest_take (r := r) (fare := fare) (m := m) hlt)
      have e0 : cs.getD k CardV.zero = cs[k] := by simp [List.getD, hlt]
      rw [e0] at p0 p1 p2 p3
      have hv := hcd k hlt
      have hble := cbest_le r fare m (cs.take k)
      generalize cs[k] = y at *
      clear e0
      generalize cbest r fare m (cs.take k) = Q at *
      obtain ⟨yp, yl, yf, yt⟩ := y
      dsimp only at p0 p1 p2 p3
      obtain ⟨x0, x1, x2, x3⟩ := id X2
      have hm2 : m.tmod 1440 = m % 1440 := Int.tmod_eq_emod_of_nonneg g3.1
      have hm3 : 0 ≤ m % 1440 ∧ m % 1440 < 1440 := by omega
      have w1' : IntKind.i64.wrap (m % 1440) = m % 1440 := wrap_in _ (by omega) (by omega)
      have ci := cut_in (r := r) hv T.r0 g2.1 g2.2
      have yp0 : 0 ≤ yp := hv.p0
      have yp1 : yp ≤ 100 := hv.p1
      have yl0 : 0 ≤ yl := hv.l0
      have yl1 : yl ≤ 100000 := hv.l1
      have r0 := T.r0
      have r1 := T.r1
      have PC := hide (show priceC r fare ⟨yp, yl, yf, yt⟩ = min fare (max (cut r fare ⟨yp, yl, yf, yt⟩) yl) from rfl)
      cases hy : inB (m % 1440) yf yt
      · rw [show cntB m ⟨yp, yl, yf, yt⟩ = false from hy] at hst
        have hst2 := hide (show cbest r fare m (cs.take (k + 1)) = Q by rw [hst.out]; simp)
        clear hst PC ci
        have C1 := fun w => cIn (m % 1440) yf yt w
        rw [hy] at C1
        go_wp2_with fail
        go_quiet (first | (go_at_call 43; with_reducible refine Calls.quiet_of_same (C1 _)))
        go_wp2
        go_roundw
        case rel => exact ⟨k + 1, by omega, by go_num, by rw [hst2.out], bdraw hb _⟩
        case measure => simp [intOf]; omega
      · rw [show cntB m ⟨yp, yl, yf, yt⟩ = true from hy] at hst
        have hst2 := hide (show cbest r fare m (cs.take (k + 1)) = min Q (priceC r fare ⟨yp, yl, yf, yt⟩) by rw [hst.out]; simp)
        clear hst
        have te : (fare * (100 - yp)).tdiv 100 = fare * (100 - yp) / 100 := Int.tdiv_eq_ediv_of_nonneg ci.1
        have CE := hide (show cut r fare ⟨yp, yl, yf, yt⟩ = fare * (100 - yp) / 100 - fare * (100 - yp) / 100 % r by
          unfold cut dn
          dsimp only
          rw [te, Int.tmod_eq_emod_of_nonneg (by have := ci.2.2.1; dsimp only at this; rw [te] at this; exact this)])
        dsimp only at ci
        rw [te] at ci
        have dm := dn_in (r := r) (x := fare * (100 - yp) / 100) r0 ci.2.2.1
        rw [Int.tmod_eq_emod_of_nonneg ci.2.2.1] at dm
        obtain ⟨ci0, ci1, ci2, ci3, ci4, ci5⟩ := ci
        have v1 : IntKind.i64.wrap (100 - yp) = 100 - yp := wrap_in _ (by omega) (by omega)
        have v2 : IntKind.i64.wrap (fare * (100 - yp)) = fare * (100 - yp) := wrap_in _ (by omega) (by omega)
        have v3 : IntKind.i64.wrap (fare * (100 - yp) / 100) = fare * (100 - yp) / 100 := wrap_in _ (by omega) (by omega)
        have v4 : IntKind.i64.wrap (fare * (100 - yp) / 100 % r) = fare * (100 - yp) / 100 % r := wrap_in _ (by omega) (by omega)
        have v5 : IntKind.i64.wrap (fare * (100 - yp) / 100 - fare * (100 - yp) / 100 % r) = fare * (100 - yp) / 100 - fare * (100 - yp) / 100 % r := wrap_in _ (by omega) (by omega)
        rw [CE.out] at PC ci4 ci5
        have hne : r ≠ 0 := by omega
        have hne1 : r ≠ -1 := by omega
        clear dm
        have C1 := fun w => cIn (m % 1440) yf yt w
        rw [hy] at C1
        go_wp2_with fail
        go_quiet (first | (go_at_call 43; with_reducible refine Calls.quiet_of_same (C1 _)))
        by_cases hA : fare * (100 - yp) / 100 - fare * (100 - yp) / 100 % r < yl
        · by_cases hB : yl < Q
          · have hst3 := hide (show cbest r fare m (cs.take (k + 1)) = yl by rw [hst2.out, PC.out]; omega)
            clear hst2 PC CE
            go_wp2
            go_roundw
            case rel => exact ⟨k + 1, by omega, by go_num, by rw [hst3.out], bdraw hb _⟩
            case measure => simp [intOf]; omega
          · have hst3 := hide (show cbest r fare m (cs.take (k + 1)) = Q by rw [hst2.out, PC.out]; omega)
            clear hst2 PC CE
            go_wp2
            go_roundw
            case rel => exact ⟨k + 1, by omega, by go_num, by rw [hst3.out], bdraw hb _⟩
            case measure => simp [intOf]; omega
        · by_cases hB : fare * (100 - yp) / 100 - fare * (100 - yp) / 100 % r < Q
          · have hst3 := hide (show cbest r fare m (cs.take (k + 1)) = fare * (100 - yp) / 100 - fare * (100 - yp) / 100 % r by rw [hst2.out, PC.out]; omega)
            clear hst2 PC CE
            go_wp2
            go_roundw
            case rel => exact ⟨k + 1, by omega, by go_num, by rw [hst3.out], bdraw hb _⟩
            case measure => simp [intOf]; omega
          · have hst3 := hide (show cbest r fare m (cs.take (k + 1)) = Q by rw [hst2.out, PC.out]; omega)
            clear hst2 PC CE
            go_wp2
            go_roundw
            case rel => exact ⟨k + 1, by omega, by go_num, by rw [hst3.out], bdraw hb _⟩
            case measure => simp [intOf]; omega
    · obtain rfl : k = cs.length := by omega
      have RB := hide (show cardedV b s js r fare cs m = cbest r fare m (cs.take cs.length) by rw [R.out, List.take_length])
      rw [← RB.out]
      clear hL
      go_wp2
      go_ret
      exact ⟨rfl, fin⟩
end Go.Proofs.Ytepdnaahhkkdeaa
