/- The walk of the law on signals. -/
import Derived.Test.YtcfapadcgboalaaDoorSG
import Derived.Test.YtcfapadcgboalaaDoorE
namespace Go.Proofs.YtcfapadcgboalaaDoor
open Go.RowKit

theorem own_safe {w : World} {B e sz n c : Nat} {a : Option Addr} {xs : List Value} (h : w.ownsRow B e sz (.slice a n c) n xs) : (a = none → c = 0) ∧ (∀ x, a = some x → x.spot = none) := by
  rcases h.2 with ⟨he, _⟩ | ⟨g, c', cur, he, _⟩
  · simp only [Value.slice.injEq] at he
    obtain ⟨rfl, _, rfl⟩ := he
    exact ⟨fun _ => rfl, (fun x h => by cases h)⟩
  · simp only [Value.slice.injEq] at he
    obtain ⟨rfl, _, rfl⟩ := he
    exact ⟨(fun h => by cases h), (fun x h => by cases h; rfl)⟩
theorem cTrainsIn (a : Option Addr) (cap LT : Nat) (n : Int) (ts : List SpanV) (w : World) (B : Nat) (he : w.ownsRow B 34 2 (.slice a LT cap) LT (flatSpans ts)) (hLT : ts.length = LT) (h : trainsOk n ts = true) (hg : Glob w) :
    Calls Tryd.prog 10 #[.int .i64 n, .slice a LT cap] w fun e w' => e = .returned (.bool true) ∧ Below w.heap.size w w' := by
  subst hLT
  obtain ⟨s1, s2⟩ := own_safe he
  have := (trains_of h).2.1
  have c := cTrainsI a cap n ts w (Spans.own he) s1 s2 (by omega) hg
  rw [h] at c
  exact c
theorem cFwdIn (a : Option Addr) (cap LT : Nat) (n : Int) (ts : List SpanV) (k y : Int) (w : World) (B : Nat) (he : w.ownsRow B 34 2 (.slice a LT cap) LT (flatSpans ts)) (hLT : ts.length = LT) (h : trainsOk n ts = true) (hg : Glob w) :
    Calls Tryd.prog 9 #[.int .i64 n, .slice a LT cap, .int .i64 k, .int .i64 y] w fun e w' => ∃ v, e = .returned (.tuple #[v, .bool (fwd n ts k y).isSome]) ∧
      w'.ownsRow w.heap.size 34 2 v ((fwd n ts k y).getD []).length (flatSpans ((fwd n ts k y).getD [])) ∧ Below w.heap.size w w' := by
  subst hLT
  obtain ⟨s1, s2⟩ := own_safe he
  have := (trains_of h).2.1
  have c := cFwdI a cap n ts k y w (Spans.own he) s1 s2 (by omega) hg
  rw [fwdR_yes h] at c
  exact c
theorem cShrIn (a : Option Addr) (cap LT : Nat) (n : Int) (ts : List SpanV) (k : Int) (w : World) (B : Nat) (he : w.ownsRow B 34 2 (.slice a LT cap) LT (flatSpans ts)) (hLT : ts.length = LT) (h : trainsOk n ts = true) (hg : Glob w) :
    Calls Tryd.prog 11 #[.int .i64 n, .slice a LT cap, .int .i64 k] w fun e w' => ∃ v, e = .returned (.tuple #[v, .bool (shr ts k).isSome]) ∧
      w'.ownsRow w.heap.size 34 2 v ((shr ts k).getD []).length (flatSpans ((shr ts k).getD [])) ∧ Below w.heap.size w w' := by
  subst hLT
  obtain ⟨s1, s2⟩ := own_safe he
  have := (trains_of h).2.1
  have c := cShrI a cap n ts k w (Spans.own he) s1 s2 (by omega) hg
  rw [shrR_yes h] at c
  exact c
theorem cTakenIn (a : Option Addr) (cap LT : Nat) (n : Int) (ts : List SpanV) (w : World) (B : Nat) (he : w.ownsRow B 34 2 (.slice a LT cap) LT (flatSpans ts)) (hLT : ts.length = LT) (h : trainsOk n ts = true) (hg : Glob w) :
    Calls Tryd.prog 8 #[.int .i64 n, .slice a LT cap] w fun e w' => ∃ g c, e = .returned (.slice g n.toNat c) ∧ Bools w' g (takens ts n.toNat) ∧ w'.ownsRow w.heap.size 4 1 (.slice g n.toNat c) n.toNat ((takens ts n.toNat).map Value.bool) ∧ Below w.heap.size w w' := by
  subst hLT
  obtain ⟨s1, s2⟩ := own_safe he
  have := (trains_of h).2.1
  have c := cTakenI a cap n ts w (Spans.own he) s1 s2 (by omega) hg
  rw [takenL_yes h, takens_len] at c
  refine c.mono ?_
  rintro e w' ⟨v, rfl, ho, hb⟩
  obtain ⟨g, c, rfl⟩ := own_form ho
  exact ⟨g, c, rfl, Bools.own ho (takens_len _ _), ho, hb⟩
theorem cAspIn (a : Option Addr) (cap N : Nat) (bs : List Bool) (y : Int) (w : World) (hz : Bools w a bs) (hN : bs.length = N) (hl : N ≤ 100) (hy : inB y 0 3 = true) :
    Calls Tryd.prog 7 #[.slice a N cap, .int .i64 y] w fun e w' => ∃ g c, e = .returned (.slice g N c) ∧ w'.ownsRow w.heap.size 3 1 (.slice g N c) N ((asps bs y N).map (Value.int .i64)) ∧ Below w.heap.size w w' := by
  subst hN
  have c := cAspI a cap bs y w hz (by omega)
  rw [aspects_yes hl hy, asps_len] at c
  refine c.mono ?_
  rintro e w' ⟨v, rfl, ho, hb⟩
  obtain ⟨g, c, rfl⟩ := own_form ho
  exact ⟨g, c, rfl, ho, hb⟩

set_option maxRecDepth 20000 in
set_option maxHeartbeats 6400000 in
theorem walkSignal (a : Option Addr) (cap : Nat) (bs : List Int) (w : World) (hz : Bytes w a bs) (hm : bs.length ≤ maxLen) (hg : Glob w) :
    Calls Tryd.prog 3 #[.slice a bs.length cap] w fun e w' => e = .returned (.bool true) ∧ Below w.heap.size w w' := by
  by_cases hl2 : 1048576 < bs.length
  · go_enter Tryd.func3, Tryd.ntmps3
    go_wp2_with fail
    refine (cbig a cap bs.length _ hm).mono ?_
    rintro e w1 ⟨rfl, hw⟩
    subst w1
    rw [decide_eq_true hl2]
    go_wp2
    go_ret
    exact ⟨rfl, Below.refl _ _⟩
  have hl : bs.length ≤ 1048576 := by omega
  go_enter Tryd.func3, Tryd.ntmps3
  go_wp2_with fail
  refine (cbig a cap bs.length _ hm).mono ?_
  rintro e w1 ⟨rfl, hw⟩
  subst w1
  rw [decide_eq_false hl2]
  go_wp2_with fail
  refine (cDrawRight a cap bs _ hz hl).mono ?_
  rintro e w2 ⟨n, u, v, ts, ms, rfl, n2, n15, ht, hms, ⟨gv, cv, rfl⟩, Ou, Ov, HB2⟩
  obtain ⟨au, cu, rfl⟩ := own_form Ou
  obtain ⟨Nn, rfl⟩ := Int.eq_ofNat_of_zero_le (show 0 ≤ n by omega)
  have hlt12 := (trains_of ht).2.1
  have CT := fun w B he hg => cTakenIn au cu ts.length (Nn : Int) ts w B he rfl ht hg
  have CA := fun a cap w hz => cAspIn a cap Nn (takens ts Nn) 0 w hz (takens_len ts Nn) (by omega) (by decide)
  have hFw := fun q (hq : q < ts.length) => fwd_iff ht hq
  have hSa := fun q (hq : q < ts.length) => shr_after ht hq
  have hAg : ∀ j, j < Nn → ((asps (takens ts Nn) 0 Nn).map (Value.int .i64))[j]? = some (.int .i64 (asp (takens ts Nn) 0 j)) := fun j hj => by simp [asps, hj]
  rw [Int.toNat_natCast] at CT hFw
  generalize asps (takens ts Nn) 0 Nn = AL at *
  generalize asp (takens ts Nn) 0 = A at *
  generalize takens ts Nn = TK at *
  clear Ov
  go_wp2_with fail
  refine (CT _ _ Ou (hg.below HB2)).mono ?_
  rintro e w3 ⟨aT, cT, rfl, bT, -, hb⟩
  have HB3 := btrans HB2 hb
  have Ou3 := own_keep Ou hb
  clear hb HB2 Ou CT
  go_wp2_with fail
  refine (CA _ _ _ bT).mono ?_
  rintro e w4 ⟨aL, cL, rfl, oL, hb⟩
  have HB4 := btrans HB3 hb
  have Ou4 := own_keep Ou3 hb
  clear hb HB3 Ou3 CA bT
  go_wp2
  go_loopw [7, 8, 9, 10, 11, 12, 13] (fun i _ _ _ _ _ _ wr => ∃ q : Nat, q ≤ ts.length ∧ i = .int .i64 q ∧ Below w4.heap.size w4 wr) (fun i _ _ _ _ _ _ _ => ts.length - (intOf i).toNat)
  case atStart => exact ⟨0, Nat.zero_le _, rfl, Below.refl _ _⟩
  case round =>
    obtain ⟨q, hq, rfl, hb⟩ := hrel
    obtain ⟨wo, rfl⟩ : ∃ wo, wo = wr := ⟨wr, rfl⟩
    by_cases hlt : q < ts.length
    · obtain ⟨f1, f2, f3⟩ := hFw q hlt
      have hat := ok_at ht hlt
      have HB := btrans HB4 hb
      have Ouo := own_keep Ou4 hb
      have oLo := own_keep oL hb
      have CF := cFwdIn au cu ts.length (Nn : Int) ts (q : Int) 0 wo _ Ouo rfl ht (hg.below HB)
      have hMl : (ts.set q ⟨rAt ts q, fAt ts q + 1⟩).length = ts.length := by simp
      have hMl2 : (ts.set q ⟨rAt ts q + 1, fAt ts q + 1⟩).length = ts.length := by simp
      have hMs := set_at hlt (rAt ts q) (fAt ts q + 1)
      have hMs2 := set_at hlt (rAt ts q + 1) (fAt ts q + 1)
      have hS := hSa q hlt
      have hMok : fwd (Nn : Int) ts (q : Int) 0 = some (ts.set q ⟨rAt ts q, fAt ts q + 1⟩) → trainsOk (Nn : Int) (ts.set q ⟨rAt ts q, fAt ts q + 1⟩) = true := fun h => fwd_ok ht h
      have hbo := hb
      clear hFw hSa hb Ou4 oL
      generalize ts.set q ⟨rAt ts q + 1, fAt ts q + 1⟩ = M2 at *
      generalize ts.set q ⟨rAt ts q, fAt ts q + 1⟩ = M at *
      generalize fwd (Nn : Int) ts (q : Int) 0 = r at *
      have hcs : ∃ b off, au = some ⟨b, off, none⟩ ∧ wo.cell? ⟨b, off + q * 2, none⟩ = some (.int .i64 (rAt ts q)) ∧ wo.cell? ⟨b, off + q * 2 + 1, none⟩ = some (.int .i64 (fAt ts q)) := by
        rcases (Spans.own Ouo : Spans wo au ts) with he | ⟨b, off, rfl, hc⟩
        · simp [he] at hlt
        · exact ⟨b, off, rfl, (hc q hlt).1, (hc q hlt).2⟩
      obtain ⟨ba, off, rfl, p0, p1⟩ := hcs
      obtain ⟨x, hx⟩ : ∃ x : Nat, fAt ts q = x := ⟨(fAt ts q).toNat, by omega⟩
      rw [hx] at p1 f1 f2 f3 hat hMs hMs2
      clear hx
      rw [show ((x : Int) + 1).toNat = x + 1 by omega] at f2 f3
      generalize rAt ts q = xr at *
      have hqi : (q : Int) < (ts.length : Int) := by omega
      by_cases h1 : (x : Int) + 1 < (Nn : Int)
      · have hxN : x + 1 < Nn := by omega
        have hLc : ∃ g, aL = some ⟨g, 0, none⟩ ∧ wo.cell? ⟨g, x + 1, none⟩ = some (.int .i64 (A (x + 1))) := by
          rcases oLo.2 with ⟨_, h0⟩ | ⟨g, c, cur, he, _⟩
          · omega
          · simp only [Value.slice.injEq] at he
            obtain ⟨rfl, _, rfl⟩ := he
            exact ⟨g, rfl, (oLo.cellAt (x + 1) (by omega)).trans (hAg (x + 1) hxN)⟩
        obtain ⟨gL, rfl, cL1⟩ := hLc
        have x1 : ((x : Int) + 1).toNat = x + 1 := by omega
        have x2 : (0 : Int) ≤ (x : Int) + 1 := by omega
        by_cases hA0 : A (x + 1) = 0
        · obtain rfl : r = none := f2 h1 hA0
          rw [hA0] at cL1
          clear f1 f2 f3 hMok
          go_wp2_with fail
          refine CF.mono ?_
          rintro e w5 ⟨v5, rfl, -, hb5⟩
          have P1 := ble hb5 p1
          have L1 := ble hb5 cL1
          have H5 := btrans hbo hb5
          go_wp2
          go_roundw
          case rel => exact ⟨q + 1, by omega, by go_num, H5⟩
          case measure => simp [intOf]; omega
        · obtain rfl : r = some M := f3 h1 hA0
          have hok := hMok rfl
          have CSh : ∀ a5 c5 w B, w.ownsRow B 34 2 (.slice a5 ts.length c5) ts.length (flatSpans M) → Glob w → Calls Tryd.prog 11 #[.int .i64 (Nn : Int), .slice a5 ts.length c5, .int .i64 (q : Int)] w fun e w' => ∃ v, e = .returned (.tuple #[v, .bool true]) ∧ w'.ownsRow w.heap.size 34 2 v ts.length (flatSpans M2) ∧ Below w.heap.size w w' := fun a5 c5 w B he hg => by
            have c := cShrIn a5 c5 ts.length (Nn : Int) M (q : Int) w B he hMl hok hg
            rw [hS, show ((some M2).getD []).length = ts.length from hMl2] at c
            exact c
          have hw1 : IntKind.i64.wrap (xr + 1) = xr + 1 := wrap_in _ (by omega) (by omega)
          have hw2 : IntKind.i64.wrap ((x : Int) + 1) = (x : Int) + 1 := wrap_in _ (by omega) (by omega)
          have hA1 : decide (A (x + 1) = 0) = false := decide_eq_false hA0
          clear f1 f2 f3 hMok hS
          generalize A (x + 1) = Av at *
          have hA2 : (Av != 0) = true := by simpa using hA0
          have hA3 : (Av == 0) = false := by simpa using hA0
          go_wp2_with fail
          refine CF.mono ?_
          rintro e w5 ⟨v5, rfl, o5, hb5⟩
          rw [show ((some M).getD []).length = ts.length from hMl] at o5
          obtain ⟨a5, c5, rfl⟩ := own_form o5
          have P0 := ble hb5 p0
          have P1 := ble hb5 p1
          have L1 := ble hb5 cL1
          have H5 := btrans hbo hb5
          have HBw5 := btrans HB hb5
          have hns : ∃ b o, a5 = some ⟨b, o, none⟩ ∧ w5.cell? ⟨b, o + q * 2, none⟩ = some (.int .i64 xr) ∧ w5.cell? ⟨b, o + q * 2 + 1, none⟩ = some (.int .i64 ((x : Int) + 1)) := by
            rcases (Spans.own o5 : Spans w5 a5 M) with he | ⟨b, o, rfl, hc⟩
            · rw [he, List.length_nil] at hMl; omega
            · have := hc q (by rw [hMl]; exact hlt)
              refine ⟨b, o, rfl, ?_, ?_⟩
              · rw [← hMs.1]; exact this.1
              · rw [← hMs.2]; exact this.2
          obtain ⟨bN, oN, rfl, q0, q1⟩ := hns
          have CTr := fun w B he hg => cTrainsIn (some ⟨bN, oN, none⟩) c5 ts.length (Nn : Int) M w B he hMl hok hg
          have Gd : Glob w5.drew := (hg.below HBw5).below (Below.refl _ _).drew
          clear CF hb5 p0 p1 cL1 Ouo oLo
          go_wp2_with fail
          go_region_held3 (fun w' => w'.cell? ⟨bN, oN + q * 2, none⟩ = some (.int .i64 xr) ∧ w'.cell? ⟨bN, oN + q * 2 + 1, none⟩ = some (.int .i64 ((x : Int) + 1)) ∧ w'.cell? ⟨ba, off + q * 2, none⟩ = some (.int .i64 xr)) (go_keep) (first | (go_at_call 10; with_reducible refine (CTr _ _ (own_keep o5 (Below.refl _ _).drew) Gd).mono ?_; rintro e w6 ⟨rfl, hb6⟩; have hu := undrew hb6; have z0 := ble hu q0; have z1 := ble hu q1; have z2 := ble hu P0; clear hb6))
          have H6 := btrans H5 hu
          have HBw6 := btrans HBw5 hu
          have o6 := own_keep o5 hu
          clear hu o5 q0 q1 P0 Gd H5 HBw5 CTr
          go_wp2_with fail
          refine (CSh _ _ _ _ o6 (hg.below HBw6)).mono ?_
          rintro e w7 ⟨v7, rfl, o7, hb7⟩
          obtain ⟨a7, c7, rfl⟩ := own_form o7
          have Z2 := ble hb7 z2
          have H7 := btrans H6 hb7
          have hbs : ∃ b o, a7 = some ⟨b, o, none⟩ ∧ w7.cell? ⟨b, o + q * 2, none⟩ = some (.int .i64 (xr + 1)) ∧ w7.cell? ⟨b, o + q * 2 + 1, none⟩ = some (.int .i64 ((x : Int) + 1)) := by
            rcases (Spans.own o7 : Spans w7 a7 M2) with he | ⟨b, o, rfl, hc⟩
            · rw [he, List.length_nil] at hMl2; omega
            · have := hc q (by rw [hMl2]; exact hlt)
              refine ⟨b, o, rfl, ?_, ?_⟩
              · rw [← hMs2.1]; exact this.1
              · rw [← hMs2.2]; exact this.2
          obtain ⟨bB, oB, rfl, y0, y1⟩ := hbs
          clear CSh o6 o7 hb7 z0 z1 z2 H6 HBw6
          go_wp2
          go_quiet (fail)
          go_wp2
          go_roundw
          case rel => exact ⟨q + 1, by omega, by go_num, bdraw H7 _⟩
          case measure => simp [intOf]; omega
      · obtain rfl : r = none := f1 (by omega)
        have h1' : decide ((x : Int) + 1 < (Nn : Int)) = false := decide_eq_false h1
        clear f1 f2 f3 hMok
        go_wp2_with fail
        refine CF.mono ?_
        rintro e w5 ⟨v5, rfl, -, hb5⟩
        have P1 := ble hb5 p1
        have H5 := btrans hbo hb5
        go_wp2
        go_roundw
        case rel => exact ⟨q + 1, by omega, by go_num, H5⟩
        case measure => simp [intOf]; omega
    · obtain rfl : q = ts.length := by omega
      have HB := btrans HB4 hb
      go_wp2
      go_ret
      exact ⟨rfl, HB⟩
end Go.Proofs.YtcfapadcgboalaaDoor
