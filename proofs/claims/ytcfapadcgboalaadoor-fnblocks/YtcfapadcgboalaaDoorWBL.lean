/- The walk of the law on blocks. -/
import Derived.Test.YtcfapadcgboalaaDoorBL
namespace Go.Proofs.YtcfapadcgboalaaDoor
open Go.RowKit

theorem cTakenSn (a : Option Addr) (cap LT : Nat) (n : Int) (ts : List SpanV) (w : World) (he : Spans w a ts) (hLT : ts.length = LT) (h : trainsOk n ts = true) :
    Calls Tryd.prog 14 #[.int .i64 n, .slice a LT cap] w fun e w' => ∃ g c, e = .returned (.slice g n.toNat c) ∧ Bools w' g (takens ts n.toNat) ∧ Below w.heap.size w w' := by
  subst hLT
  have := (trains_of h).2.1
  have c := cTakenS a cap n ts w he (by omega)
  rw [takenL_yes h, takens_len] at c
  refine c.mono ?_
  rintro e w' ⟨v, rfl, ho, hb⟩
  obtain ⟨g, c, rfl⟩ := own_form ho
  exact ⟨g, c, rfl, Bools.own ho (takens_len _ _), hb⟩
theorem cSameN (a1 a2 : Option Addr) (c1 c2 N : Nat) (xs : List Bool) (w : World) (h1 : Bools w a1 xs) (h2 : Bools w a2 xs) (hN : xs.length = N) (hl : N ≤ 100) :
    Calls Tryd.prog 13 #[.slice a1 N c1, .slice a2 N c2] w fun e w' => e = .returned (.bool true) ∧ Below w.heap.size w w' := by
  subst hN
  exact cSame a1 a2 c1 c2 xs w h1 h2 (by unfold maxLen; omega)
theorem cFreeN (a : Option Addr) (cap N : Nat) (bs : List Bool) (k : Nat) (w : World) (hz : Bools w a bs) (hN : bs.length = N) (hl : N ≤ 100) (hcap : N ≤ cap) (hk : k < N) :
    Calls Tryd.prog 15 #[.slice a N cap, .int .i64 (k : Int)] w fun e w' => e = .returned (.int .i64 (free bs k : Int)) ∧ w' = w := by
  subst hN
  have c := cFreeC a cap bs (k : Int) w hz (by omega) hcap
  rw [freeFrom_yes hl hk] at c
  exact c
theorem cPassN (a : Option Addr) (cap N : Nat) (xs : List Int) (w : World) (hz : Ints w a xs) (hN : xs.length = N) (hl : N ≤ 100) (ha : xs.all spOk = true) :
    Calls Tryd.prog 16 #[.slice a N cap, .slice a N cap] w fun e w' => e = .returned (.int .i64 (-1)) ∧ w' = w := by
  subst hN
  have c := cPassI a a cap cap xs xs w hz hz (by omega)
  rw [passed_self xs hl ha] at c
  exact c

set_option maxRecDepth 20000 in
set_option maxHeartbeats 3200000 in
theorem walkBlocks (a : Option Addr) (cap : Nat) (bs : List Int) (w : World) (hz : Bytes w a bs) (hm : bs.length ≤ maxLen) (hg : Glob w) :
    Calls Tryd.prog 4 #[.slice a bs.length cap] w fun e w' => e = .returned (.bool true) ∧ Below w.heap.size w w' := by
  by_cases hl2 : 1048576 < bs.length
  · go_enter Tryd.func4, Tryd.ntmps4
    go_wp2_with fail
    refine (cbig a cap bs.length _ hm).mono ?_
    rintro e w1 ⟨rfl, hw⟩
    subst w1
    rw [decide_eq_true hl2]
    go_wp2
    go_ret
    exact ⟨rfl, Below.refl _ _⟩
  have hl : bs.length ≤ 1048576 := by omega
  go_enter Tryd.func4, Tryd.ntmps4
  go_wp2_with fail
  refine (cbig a cap bs.length _ hm).mono ?_
  rintro e w1 ⟨rfl, hw⟩
  subst w1
  rw [decide_eq_false hl2]
  go_wp2_with fail
  refine (cDrawRight a cap bs _ hz hl).mono ?_
  rintro e w2 ⟨n, u, v, ts, ms, rfl, n2, n15, ht, hms, ⟨gv, cv, rfl⟩, Ou, Ov, HB2⟩
  obtain ⟨au, cu, rfl⟩ := own_form Ou
  obtain ⟨Nn, rfl⟩ := Int.eq_ofNat_of_zero_le (show 0 ≤ n by omega)
  have hat4 := atZ_in hz 4
  have CT := fun w B he hg => cTakenIn au cu ts.length (Nn : Int) ts w B he rfl ht hg
  have CTS := fun w he => cTakenSn au cu ts.length (Nn : Int) ts w he rfl ht
  rw [Int.toNat_natCast] at CT CTS
  have hTKl := takens_len ts Nn
  generalize takens ts Nn = TK at *
  clear Ov
  go_wp2_with fail
  refine (CT _ _ Ou (hg.below HB2)).mono ?_
  rintro e w3 ⟨aT, cT, rfl, bT, oT, hb⟩
  have HB3 := btrans HB2 hb
  have Ou3 := own_keep Ou hb
  have hcT : Nn ≤ cT := by
    rcases oT.2 with ⟨h, h0⟩ | ⟨g', c', cur, hv, _, _, hc, _⟩
    · omega
    · simp only [Value.slice.injEq] at hv
      omega
  clear hb HB2 Ou CT oT
  go_wp2_with fail
  refine (cat a cap bs 4 _ (hz.below HB3) hl (by omega)).mono ?_
  rintro e w3b ⟨rfl, hw⟩
  subst w3b
  generalize atZ bs 4 = z4 at *
  obtain ⟨q1, q2, q3⟩ := rem_in (x := z4) (n := 4) hat4.1 (by omega) (by omega)
  generalize hy4 : z4 % 4 = y at *
  have hy : inB y 0 3 = true := inB_yes (by omega) (by omega)
  have CA := fun a cap w hz => cAspIn a cap Nn TK y w hz hTKl (by omega) hy
  have hAg : ∀ j, j < Nn → ((asps TK y Nn).map (Value.int .i64))[j]? = some (.int .i64 (asp TK y j)) := fun j hj => by simp [asps, hj]
  have hAall := asps_all TK q2 Nn
  have hALl := asps_len TK y Nn
  have hAin := fun i => asp_in (bs := TK) (i := i) q2
  have hAn := fun i (h : i < TK.length) => asp_next (y := y) q2 h
  have hAe := asp_end (bs := TK) q2 (show y ≤ 3 by omega)
  have hAz := fun i (h : i < TK.length) hb => asp_zero (y := y) q2 h hb
  have hAo := fun i (h : i < TK.length) (hb : TK[i] = true) => And.intro (asp_no (y := y) h hb) (free_no h hb)
  have hA3 := fun i => asp_three (bs := TK) (y := y) (i := i)
  have hFl := fun i (h : i ≤ TK.length) => free_le TK i h
  have CF := fun k (hk : k < Nn) w hz => cFreeN aT cT Nn TK k w hz hTKl (by omega) hcT hk
  rw [hTKl] at hAe
  generalize asps TK y Nn = AL at *
  generalize asp TK y = A at *
  generalize free TK = F at *
  go_wp2_with fail
  refine (CA _ _ _ bT).mono ?_
  rintro e w4 ⟨aL, cL, rfl, oL, hb⟩
  have HB4 := btrans HB3 hb
  have Ou4 := own_keep Ou3 hb
  have bT4 := bT.below hb
  clear hb HB3 Ou3 CA bT
  go_wp2_with fail
  refine (CTS _ (Spans.own Ou4)).mono ?_
  rintro e w5 ⟨aS, cS, rfl, bS, hb⟩
  have HB5 := btrans HB4 hb
  have bT5 := bT4.below hb
  have oL5 := own_keep oL hb
  clear hb HB4 Ou4 CTS bT4 oL
  go_wp2_with fail
  refine (cSameN aT aS cT cS Nn TK _ bT5 bS hTKl (by omega)).mono ?_
  rintro e w6 ⟨rfl, hb⟩
  have HB6 := btrans HB5 hb
  have bTw := bT5.below hb
  have oLw := own_keep oL5 hb
  clear hb HB5 bT5 oL5 bS
  go_wp2
  go_loopw [9, 10, 11] (fun i _ _ wr => ∃ k : Nat, k ≤ Nn ∧ i = .int .i64 k ∧ Below w6.heap.size w6 wr) (fun i _ _ _ => Nn - (intOf i).toNat)
  case atStart => exact ⟨0, Nat.zero_le _, rfl, Below.refl _ _⟩
  case round =>
    obtain ⟨k, hk, rfl, hb⟩ := hrel
    by_cases hlt : k < Nn
    · have hkT : k < TK.length := by omega
      have CFk := CF k hlt
      have hi := hAin k
      have hnx := hAn k hkT
      have hZ := hAz k hkT
      have hO := hAo k hkT
      have hT3 := hA3 k
      rw [hTKl] at hT3
      have hFk := hFl k (by omega)
      rw [hTKl] at hFk
      have hLc : ∃ g, aL = some ⟨g, 0, none⟩ := by
        rcases oLw.2 with ⟨_, h0⟩ | ⟨g, c, cur, he, _⟩
        · omega
        · simp only [Value.slice.injEq] at he
          exact ⟨g, he.1⟩
      obtain ⟨gL, rfl⟩ := hLc
      have l0 := ble hb ((oLw.cellAt k (by omega)).trans (hAg k hlt))
      have hbc : ∃ b off, aT = some ⟨b, off, none⟩ ∧ wr.cell? ⟨b, off + k, none⟩ = some (.bool TK[k]) := by
        rcases bTw with h | ⟨b, off, rfl, hc⟩
        · rw [h, List.length_nil] at hkT; omega
        · have := ble hb (hc k hkT)
          rw [show TK.getD k false = TK[k] by simp [List.getD, hkT]] at this
          exact ⟨b, off, rfl, this⟩
      obtain ⟨bB, oB, rfl, b0⟩ := hbc
      have hki : (k : Int) < (Nn : Int) := by omega
      by_cases hk1 : k + 1 < Nn
      · have hk2 : (k : Int) + 1 < (Nn : Int) := by omega
        have l1 := ble hb ((oLw.cellAt (k + 1) (by omega)).trans (hAg (k + 1) hk1))
        have hi2 := hAin (k + 1)
        have x1 : ((k : Int) + 1).toNat = k + 1 := by omega
        have x2 : (0 : Int) ≤ (k : Int) + 1 := by omega
        clear CF hAin hAn hAz hAo hA3 hAg hFl hAe hAall
        generalize A (k + 1) = An at *
        generalize A k = Ak at *
        generalize F k = fk at *
        generalize TK[k] = bk at *
        have hw : IntKind.i64.wrap (An + 1) = An + 1 := wrap_in _ (by omega) (by omega)
        have t1 : ¬ (An + 1 < Ak) := by omega
        have t1' : decide (An + 1 < Ak) = false := decide_eq_false t1
        have t2 : ¬ (3 < Ak) := by omega
        have t2' : decide (3 < Ak) = false := decide_eq_false t2
        cases hbk : bk
        · obtain ⟨z1, z2⟩ := hZ hbk
          have z3 : (Ak == 0) = false := by simpa using z1
          have z4 : decide (Ak = 0) = false := decide_eq_false z1
          have z5 : ((fk : Int) == 0) = false := by simpa using z2
          have z6 : decide ((fk : Int) = 0) = false := decide_eq_false (by omega)
          subst hbk
          by_cases h3 : Ak = 3
          · by_cases hf3 : fk < 3
            · have hE := hT3 h3 hf3
              subst h3
              have g1 : (fk : Int) < 3 := by omega
              have g2 : (k : Int) + (fk : Int) = (Nn : Int) := by omega
              have g3 : IntKind.i64.wrap ((k : Int) + (fk : Int)) = (k : Int) + (fk : Int) := wrap_in _ (by omega) (by omega)
              have g2 := hide g2
              have g4 : ((k : Int) + (fk : Int) == (Nn : Int)) = true := by simpa using g2.out
              have g5 : decide ((k : Int) + (fk : Int) = (Nn : Int)) = true := decide_eq_true g2.out
              go_wp2_with fail
              refine (CFk _ (bTw.below hb)).mono ?_
              rintro e w7 ⟨rfl, hw⟩
              subst w7
              go_wp2
              go_quiet (fail)
              go_wp2
              go_roundw
              case rel => exact ⟨k + 1, by omega, by go_num, bdraw hb _⟩
              case measure => simp [intOf]; omega
            · subst h3
              have g1 : ¬ ((fk : Int) < 3) := by omega
              have g2 : decide ((fk : Int) < 3) = false := decide_eq_false g1
              go_wp2_with fail
              refine (CFk _ (bTw.below hb)).mono ?_
              rintro e w7 ⟨rfl, hw⟩
              subst w7
              go_wp2
              go_quiet (fail)
              go_wp2
              go_roundw
              case rel => exact ⟨k + 1, by omega, by go_num, bdraw hb _⟩
              case measure => simp [intOf]; omega
          · have h4 : decide (Ak = 3) = false := decide_eq_false h3
            have h5 : (Ak == 3) = false := by simpa using h3
            go_wp2_with fail
            refine (CFk _ (bTw.below hb)).mono ?_
            rintro e w7 ⟨rfl, hw⟩
            subst w7
            go_wp2
            go_quiet (fail)
            go_wp2
            go_roundw
            case rel => exact ⟨k + 1, by omega, by go_num, bdraw hb _⟩
            case measure => simp [intOf]; omega
        · obtain ⟨z1, z2⟩ := hO hbk
          subst hbk
          subst z1
          subst z2
          go_wp2_with fail
          refine (CFk _ (bTw.below hb)).mono ?_
          rintro e w7 ⟨rfl, hw⟩
          subst w7
          go_wp2
          go_quiet (fail)
          go_wp2
          go_roundw
          case rel => exact ⟨k + 1, by omega, by go_num, bdraw hb _⟩
          case measure => simp [intOf]; omega
      · have hk2 : ¬ ((k : Int) + 1 < (Nn : Int)) := by omega
        have hkn : k + 1 = Nn := by omega
        have hnx2 : A k ≤ y + 1 := by rw [hkn, hAe] at hnx; exact hnx
        clear CF hAin hAn hAz hAo hA3 hAg hFl hAe hAall hnx hkn
        generalize A k = Ak at *
        generalize F k = fk at *
        generalize TK[k] = bk at *
        have hw : IntKind.i64.wrap (y + 1) = y + 1 := wrap_in _ (by omega) (by omega)
        have t1 : ¬ (y + 1 < Ak) := by omega
        have t1' : decide (y + 1 < Ak) = false := decide_eq_false t1
        have t2 : ¬ (3 < Ak) := by omega
        have t2' : decide (3 < Ak) = false := decide_eq_false t2
        cases hbk : bk
        · obtain ⟨z1, z2⟩ := hZ hbk
          have z3 : (Ak == 0) = false := by simpa using z1
          have z4 : decide (Ak = 0) = false := decide_eq_false z1
          have z5 : ((fk : Int) == 0) = false := by simpa using z2
          have z6 : decide ((fk : Int) = 0) = false := decide_eq_false (by omega)
          subst hbk
          by_cases h3 : Ak = 3
          · by_cases hf3 : fk < 3
            · have hE := hT3 h3 hf3
              subst h3
              have g1 : (fk : Int) < 3 := by omega
              have g2 : (k : Int) + (fk : Int) = (Nn : Int) := by omega
              have g3 : IntKind.i64.wrap ((k : Int) + (fk : Int)) = (k : Int) + (fk : Int) := wrap_in _ (by omega) (by omega)
              have g2 := hide g2
              have g4 : ((k : Int) + (fk : Int) == (Nn : Int)) = true := by simpa using g2.out
              have g5 : decide ((k : Int) + (fk : Int) = (Nn : Int)) = true := decide_eq_true g2.out
              go_wp2_with fail
              refine (CFk _ (bTw.below hb)).mono ?_
              rintro e w7 ⟨rfl, hw⟩
              subst w7
              go_wp2
              go_quiet (fail)
              go_wp2
              go_roundw
              case rel => exact ⟨k + 1, by omega, by go_num, bdraw hb _⟩
              case measure => simp [intOf]; omega
            · subst h3
              have g1 : ¬ ((fk : Int) < 3) := by omega
              have g2 : decide ((fk : Int) < 3) = false := decide_eq_false g1
              go_wp2_with fail
              refine (CFk _ (bTw.below hb)).mono ?_
              rintro e w7 ⟨rfl, hw⟩
              subst w7
              go_wp2
              go_quiet (fail)
              go_wp2
              go_roundw
              case rel => exact ⟨k + 1, by omega, by go_num, bdraw hb _⟩
              case measure => simp [intOf]; omega
          · have h4 : decide (Ak = 3) = false := decide_eq_false h3
            have h5 : (Ak == 3) = false := by simpa using h3
            go_wp2_with fail
            refine (CFk _ (bTw.below hb)).mono ?_
            rintro e w7 ⟨rfl, hw⟩
            subst w7
            go_wp2
            go_quiet (fail)
            go_wp2
            go_roundw
            case rel => exact ⟨k + 1, by omega, by go_num, bdraw hb _⟩
            case measure => simp [intOf]; omega
        · obtain ⟨z1, z2⟩ := hO hbk
          subst hbk
          subst z1
          subst z2
          go_wp2_with fail
          refine (CFk _ (bTw.below hb)).mono ?_
          rintro e w7 ⟨rfl, hw⟩
          subst w7
          go_wp2
          go_quiet (fail)
          go_wp2
          go_roundw
          case rel => exact ⟨k + 1, by omega, by go_num, bdraw hb _⟩
          case measure => simp [intOf]; omega
    · have HB := btrans HB6 hb
      go_wp2_with fail
      refine (cPassN aL cL Nn AL _ ((Ints.own oLw hALl).below hb) hALl (by omega) hAall).mono ?_
      rintro e w9 ⟨rfl, hw⟩
      subst w9
      go_wp2
      go_ret
      exact ⟨rfl, HB⟩
end Go.Proofs.YtcfapadcgboalaaDoor
