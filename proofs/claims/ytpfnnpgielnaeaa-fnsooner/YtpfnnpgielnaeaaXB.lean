/- The walk of FnSooner. -/
import Derived.Test.YtpfnnpgielnaeaaDV
import Derived.Test.YtpfnnpgielnaeaaFT
import Derived.Test.YtpfnnpgielnaeaaWN
namespace Go.Proofs.Ytpfnnpgielnaeaa
open Go.RowKit
theorem soon_in {ts : List TripV} {f u m ch h x : Int} (q : AskP ts f u m ch h) (s : SoonAns ts f u m ch h x) (h0 : 0 ≤ x) : InTime ts f u ch x h.toNat m :=
  Classical.byContradiction fun hn => by have := (soon_late (by_ := x) q s).2 hn; omega
theorem soon_le {ts : List TripV} {f u m ch h x b : Int} (q : AskP ts f u m ch h) (s : SoonAns ts f u m ch h x) (hi : InTime ts f u ch b h.toNat m) : 0 ≤ x ∧ x ≤ b := by
  have := mt (soon_late (by_ := b) q s).1 (fun hn => hn hi)
  omega
theorem soon_hops {ts : List TripV} {f u m ch h h' x x' : Int} (q : AskP ts f u m ch h) (q' : AskP ts f u m ch h') (hh : h ≤ h') (s : SoonAns ts f u m ch h x) (s' : SoonAns ts f u m ch h' x') (h0 : 0 ≤ x) : 0 ≤ x' ∧ x' ≤ x := by
  obtain ⟨z, hz, hj⟩ := soon_in q s h0
  exact soon_le q' s' ⟨z, hz, hj.more (by omega)⟩
theorem soon_start {ts : List TripV} {f u m m' ch h x y : Int} (q : AskP ts f u m ch h) (q' : AskP ts f u m' ch h) (hm : m ≤ m') (s : SoonAns ts f u m ch h x) (s' : SoonAns ts f u m' ch h y) (h0 : 0 ≤ y) : 0 ≤ x ∧ x ≤ y :=
  soon_le q s ((soon_in q' s' h0).early q.parts.2.2.2.2.1.1 hm)
theorem soon_change {ts : List TripV} {f u m ch ch' h x y : Int} (q : AskP ts f u m ch h) (q' : AskP ts f u m ch' h) (hc : ch ≤ ch') (s : SoonAns ts f u m ch h x) (s' : SoonAns ts f u m ch' h y) (h0 : 0 ≤ y) : 0 ≤ x ∧ x ≤ y := by
  obtain ⟨z, hz, hj⟩ := soon_in q' s' h0
  exact soon_le q s ⟨z, hz, hj.change hc⟩
theorem soon_within {ts : List TripV} {f u m ch x : Int} {L : List Int} (q : AskP ts f u m ch 5) (s : SoonAns ts f u m ch 5 x) (hW : WithL ts f m ch 5 L) : u ∈ L ↔ 0 ≤ x := by
  have q' : AskP ts f f m ch 5 := ⟨q.1, q.2.1, q.2.1, q.2.2.2⟩
  rcases hW with ⟨h, _⟩ | ⟨_, _, _, h⟩
  · exact absurd q' h
  · rw [h u]
    constructor
    · rintro ⟨y, hy⟩
      exact (soon_le q s ⟨y, Int.le_refl _, hy⟩).1
    · intro h0
      obtain ⟨z, _, hj⟩ := soon_in q s h0
      exact ⟨z, hj⟩
theorem with_len {ts : List TripV} {f m ch : Int} {L : List Int} (hW : WithL ts f m ch 5 L) : L.length ≤ 1000 := by
  rcases hW with ⟨_, rfl⟩ | ⟨_, h, _⟩
  · simp
  · exact h
theorem fast_five {ts : List TripV} {f u m ch : Int} {L : List Int} {w : World} {B : Nat} {v : Value} (q : AskP ts f u m ch 5) (hP : FastL ts f u m ch L) (O : w.ownsRow B 3 1 v L.length (L.map (.int .i64))) :
    ∃ (X : Nat → Int) (g c : Nat), v = .slice (some ⟨g, 0, none⟩) 5 c ∧ Hid (∀ k : Nat, k < 5 → SoonAns ts f u m ch ((k : Int) + 1) (X k)) ∧ Hid (∀ k, k < 5 → w.cell? ⟨g, k, none⟩ = some (.int .i64 (X k))) := by
  rcases hP with ⟨h, _⟩ | ⟨_, h5, h⟩
  · exact absurd q h
  · rw [h5] at O
    rcases O.2 with ⟨_, h⟩ | ⟨g, c, cur, rfl, _⟩
    · omega
    · refine ⟨fun k => L.getD k 0, g, c, rfl, h, fun k hk => ?_⟩
      rw [O.cellAt _ (by omega)]
      simp [List.getD, show k < L.length by omega]
theorem has_drop {zs : List Int} {x : Int} {k : Nat} (hk : k < zs.length) : decide (x ∈ zs.drop k) = (decide (zs[k] = x) || decide (x ∈ zs.drop (k + 1))) := by
  have e : zs.drop k = zs[k] :: zs.drop (k + 1) := List.drop_eq_getElem_cons hk
  rw [e, Bool.eq_iff_iff]
  simp only [decide_eq_true_eq, Bool.or_eq_true, List.mem_cons]
  exact ⟨fun h => h.elim (fun h => .inl h.symm) .inr, fun h => h.elim (fun h => .inl h.symm) .inr⟩

set_option maxHeartbeats 800000 in
theorem cWithinL (a : Option Addr) (cap : Nat) (zs : List Int) (x : Int) (w : World) (hz : Ints w a zs) (hl : zs.length ≤ 1048576) :
    Calls Try.prog 16 #[.slice a zs.length cap, .int .i64 x] w fun e w' => e = .returned (.bool (decide (x ∈ zs))) ∧ w' = w := by
  generalize hr : decide (x ∈ zs) = res
  have hr0 : Hid (decide (x ∈ zs.drop 0) = res) := hr
  clear hr
  go_enter Try.func16, Try.ntmps16
  go_wp2
  go_loop [5] (fun i => ∃ k : Nat, k ≤ zs.length ∧ i = .int .i64 k ∧ Hid (decide (x ∈ zs.drop k) = res)) (fun i => zs.length - (intOf i).toNat)
  case atStart => exact ⟨0, Nat.zero_le _, rfl, hr0⟩
  case round =>
    obtain ⟨k, hk, rfl, hres⟩ := hrel
    clear hr0
    by_cases hlt : k < zs.length
    · rcases hz with h | ⟨b, off, rfl, hc⟩
      · simp [h] at hlt
      have q0 := hc k hlt
      have e0 : zs.getD k 0 = zs[k] := by simp [List.getD, hlt]
      rw [e0] at q0
      have hd := hide ((has_drop (x := x) hlt).symm.trans hres.out)
      generalize zs[k] = y at *
      clear hc e0 hres
      by_cases hy : y = x
      · have hf := hide (show res = true by rw [← hd.out]; simp [hy])
        clear hd
        subst hy
        go_wp2
        go_ret
        exact ⟨ret_bool hf.out.symm, rfl⟩
      · have hf := hide (show decide (x ∈ zs.drop (k + 1)) = res by rw [← hd.out]; simp [hy])
        clear hd
        go_wp2
        go_round
        case rel => exact ⟨k + 1, by omega, by go_num, hf⟩
        case measure => simp [intOf]; omega
    · obtain rfl : k = zs.length := by omega
      have hf := hide (show res = false by rw [← hres.out, List.drop_length]; simp)
      clear hz
      go_wp2
      go_ret
      exact ⟨ret_bool hf.out.symm, rfl⟩


set_option maxRecDepth 100000 in
set_option maxHeartbeats 12800000 in
theorem walkSoonerD (a : Option Addr) (cap : Nat) (zs : List Int) (w : World) (hz : Bytes w a zs) (hm : zs.length ≤ maxLen) :
    Calls Try.prog 3 #[.slice a zs.length cap] w fun e w' => e = .returned (.bool true) ∧ Below w.heap.size w w' := by
  by_cases hbig : 1048576 < zs.length
  · have hd : decide (1048576 < zs.length) = true := by simp [hbig]
    go_enter Try.func3, Try.ntmps3
    go_wp2_with fail
    refine (cbig a cap zs.length _ hm).mono ?_
    rintro e w1 ⟨rfl, hw⟩
    subst w1
    rw [hd]
    go_wp2
    go_ret
    exact ⟨rfl, Below.refl _ _⟩
  have hd : decide (1048576 < zs.length) = false := by simp; omega
  have hl : zs.length ≤ 1048576 := by omega
  obtain ⟨z5, z50, z51, C5⟩ : ∃ z5 : Int, 0 ≤ z5 ∧ z5 ≤ 255 ∧ ∀ w', Below w.heap.size w w' → Calls Try.prog 15 #[.slice a zs.length cap, .int .i64 5] w' (fun e w'' => e = .returned (.int .i64 z5) ∧ w'' = w') :=
    ⟨atZ zs 5, (atZ_in hz 5).1, (atZ_in hz 5).2, fun w' hb => cat a cap zs 5 w' (hz.below hb) hl (by omega)⟩
  obtain ⟨z6, z60, z61, C6⟩ : ∃ z6 : Int, 0 ≤ z6 ∧ z6 ≤ 255 ∧ ∀ w', Below w.heap.size w w' → Calls Try.prog 15 #[.slice a zs.length cap, .int .i64 6] w' (fun e w'' => e = .returned (.int .i64 z6) ∧ w'' = w') :=
    ⟨atZ zs 6, (atZ_in hz 6).1, (atZ_in hz 6).2, fun w' hb => cat a cap zs 6 w' (hz.below hb) hl (by omega)⟩
  obtain ⟨r1, r2, r3⟩ := rem_in (x := z5) (n := 32) z50 (by omega) (by omega)
  obtain ⟨s1, s2, s3⟩ := rem_in (x := z6) (n := 9) z60 (by omega) (by omega)
  go_enter Try.func3, Try.ntmps3
  go_wp2_with fail
  refine (cbig a cap zs.length _ hm).mono ?_
  rintro e w1 ⟨rfl, hw⟩
  subst w1
  rw [hd]
  clear hd hbig hm
  go_wp2_with fail
  refine (cDrawQ a cap zs _ hz hl).mono ?_
  rintro e w1 ⟨ao, cp, ts, f, u, m, ch, rfl, hT, hS, hTab, ⟨f0, f1⟩, ⟨u0, u1⟩, ⟨m0, m1⟩, ⟨ch0, ch1⟩, HB⟩
  replace hTab := hide hTab
  replace hS := hide hS
  replace hT := hide hT
  by_cases hfu : f = u
  · subst hfu
    obtain ⟨q1, q2, q3⟩ := rem_in (x := f + 1) (n := 5) (by omega) (by omega) (by omega)
    go_wp2_with fail
    generalize (f + 1) % 5 = v at *
    clear q1
    have qa : ∀ (M c h : Int), 0 ≤ M → M ≤ 200 → 0 ≤ c → c ≤ 20 → 1 ≤ h → h ≤ 5 → AskP ts f v M c h := fun M c h a1 a2 a3 a4 a5 a6 => ⟨hTab.out, inB_yes (by omega) (by omega), inB_yes (by omega) (by omega), inB_yes (by omega) (by omega), inB_yes (by omega) (by omega), inB_yes (by omega) (by omega)⟩
    have q : Hid (∀ h : Int, 1 ≤ h → h ≤ 5 → AskP ts f v m ch h) := fun h a b => qa m ch h (by omega) (by omega) (by omega) (by omega) a b
    have qY : Hid (∀ h : Int, 1 ≤ h → h ≤ 5 → AskP ts f v (m + z5 % 32) ch h) := fun h a b => qa _ ch h (by omega) (by omega) (by omega) (by omega) a b
    have qZ : Hid (∀ h : Int, 1 ≤ h → h ≤ 5 → AskP ts f v m (ch + z6 % 9) h) := fun h a b => qa m _ h (by omega) (by omega) (by omega) (by omega) a b
    clear qa
    refine (cFastI ao cp ts f v m ch _ hT.out hS.out).mono ?_
    rintro e w2 ⟨vv, rfl, L, hP, O, hb⟩
    replace HB := btrans HB hb
    replace hT := hide (hT.out.below hb)
    obtain ⟨X, g, c, rfl, hA, hc⟩ := fast_five (q.out 5 (by omega) (by omega)) hP O
    clear hP O hb
    go_wp2
    go_loopw [9] (fun hh wr => ∃ h : Int, 1 ≤ h ∧ h ≤ 6 ∧ hh = .int .i64 h ∧ Below w2.heap.size w2 wr) (fun hh _ => 6 - (intOf hh).toNat)
    case atStart => exact ⟨1, by omega, by omega, rfl, Below.refl _ _⟩
    case round =>
      obtain ⟨h, h1, h6, rfl, hbr⟩ := hrel
      have HBr := btrans HB hbr
      have hTr := hide (hT.out.below hbr)
      clear hT
      by_cases hk6 : h = 6
      · subst hk6
        have d4 := ble hbr (hc.out 4 (by omega))
        have hswH := hide (fun (L : List Int) (hW : WithL ts f m ch 5 L) => soon_within (q.out 5 (by omega) (by omega)) (hA.out 4 (by omega)) hW)
        generalize X 4 = x4 at *
        clear hA hc q qY qZ C5 C6
        by_cases gx : 0 ≤ x4
        · have m5 : Hid (∀ L, WithL ts f m ch 5 L → decide (v ∈ L) = true) := fun L hL => by simp [hswH.out L hL, gx]
          clear hswH
          go_wp2_with fail
          go_region_with (first
            | (go_at_call 17; refine (cWithI ao cp ts f m ch 5 _ (hTr.out.below (Below.refl _ _).drew) hS.out).mono ?_; rintro e w6 ⟨v6, rfl, L6, hP6, O6, hb6⟩; obtain ⟨a6, k6, rfl⟩ := own_form O6; have e4 := ble (undrew hb6) d4; have HB6 := hide (btrans HBr (undrew hb6)); have I6 := hide (Ints.own O6 rfl); have l6 := with_len hP6; have m6 := m5.out L6 hP6; clear O6 hP6 hb6)
            | (go_at_call 16; refine (cWithinL _ _ L6 v _ (by first | exact I6.out | exact I6.out.below (Below.refl _ _).drew) (by omega)).mono ?_; rintro e w7 ⟨rfl, hw⟩; subst w7; rw [m6]))
          all_goals go_wp2
          all_goals go_ret
          all_goals exact ⟨by first | rfl | (rw [show decide (0 ≤ x4) = false from decide_eq_false (by omega)]; rfl) | (rw [show decide (0 ≤ x4) = true from decide_eq_true (by omega)]; rfl), HB6.out⟩
        · have m5 : Hid (∀ L, WithL ts f m ch 5 L → decide (v ∈ L) = false) := fun L hL => by simp [hswH.out L hL, gx]
          clear hswH
          go_wp2_with fail
          go_region_with (first
            | (go_at_call 17; refine (cWithI ao cp ts f m ch 5 _ (hTr.out.below (Below.refl _ _).drew) hS.out).mono ?_; rintro e w6 ⟨v6, rfl, L6, hP6, O6, hb6⟩; obtain ⟨a6, k6, rfl⟩ := own_form O6; have e4 := ble (undrew hb6) d4; have HB6 := hide (btrans HBr (undrew hb6)); have I6 := hide (Ints.own O6 rfl); have l6 := with_len hP6; have m6 := m5.out L6 hP6; clear O6 hP6 hb6)
            | (go_at_call 16; refine (cWithinL _ _ L6 v _ (by first | exact I6.out | exact I6.out.below (Below.refl _ _).drew) (by omega)).mono ?_; rintro e w7 ⟨rfl, hw⟩; subst w7; rw [m6]))
          all_goals go_wp2
          all_goals go_ret
          all_goals exact ⟨by first | rfl | (rw [show decide (0 ≤ x4) = false from decide_eq_false (by omega)]; rfl) | (rw [show decide (0 ≤ x4) = true from decide_eq_true (by omega)]; rfl), HB6.out⟩
      by_cases hk : h = 1
      · subst hk
        obtain ⟨x, d0, A⟩ : ∃ x, wr.cell? ⟨g, 0, none⟩ = some (.int .i64 x) ∧ Hid (SoonAns ts f v m ch 1 x) := ⟨X 0, ble hbr (hc.out 0 (by omega)), hA.out 0 (by omega)⟩
        clear hc hA
        have CS := cSoonI ao cp ts f v m ch 1 wr hTr.out hS.out
        go_wp2_with fail
        refine CS.mono ?_
        rintro e w3 ⟨r, rfl, hr, hb3⟩
        obtain rfl : x = r := A.out.uniq hr
        clear hr CS
        have hT3 := hide (hTr.out.below hb3)
        have HB3 := btrans HBr hb3
        replace d0 := ble hb3 d0
        go_wp2_with fail
        refine (C5 _ HB3).mono ?_
        rintro e w4 ⟨rfl, hw⟩
        subst w4
        clear d0
        go_wp2_with fail
        refine (cSoonI ao cp ts f v (m + z5 % 32) ch 1 _ hT3.out hS.out).mono ?_
        rintro e w4 ⟨y, rfl, hy, hb4⟩
        have hT4 := hide (hT3.out.below hb4)
        have HB4 := btrans HB3 hb4
        have hy2 := soon_start (q.out 1 (by omega) (by omega)) (qY.out 1 (by omega) (by omega)) (by omega) A.out hy
        clear hy
        replace hy2 := hide hy2
        go_wp2_with fail
        refine (C6 _ HB4).mono ?_
        rintro e w5 ⟨rfl, hw⟩
        subst w5
        go_wp2_with fail
        refine (cSoonI ao cp ts f v m (ch + z6 % 9) 1 _ hT4.out hS.out).mono ?_
        rintro e w5 ⟨z, rfl, hzz, hb5⟩
        have hz2 := soon_change (q.out 1 (by omega) (by omega)) (qZ.out 1 (by omega) (by omega)) (by omega) A.out hzz
        have hbr2 := hide (btrans (btrans (btrans hbr hb3) hb4) hb5)
        clear hzz hb3 hb4 hb5 hT4 hT3 C5 C6 A q qY qZ HB HB3 HB4 HBr hbr hTab hS hz
        replace hz2 := hide hz2
        by_cases g1 : 0 ≤ y
        · obtain ⟨g3, g4⟩ := hy2.out g1
          by_cases g2 : 0 ≤ z
          · obtain ⟨g5, g6⟩ := hz2.out g2
            clear hy2 hz2
            go_wp2
            go_roundw
            case rel => exact ⟨2, by omega, by omega, rfl, hbr2.out⟩
            case measure => simp [intOf]
          · clear hy2 hz2
            go_wp2
            go_roundw
            case rel => exact ⟨2, by omega, by omega, rfl, hbr2.out⟩
            case measure => simp [intOf]
        · by_cases g2 : 0 ≤ z
          · obtain ⟨g5, g6⟩ := hz2.out g2
            clear hy2 hz2
            go_wp2
            go_roundw
            case rel => exact ⟨2, by omega, by omega, rfl, hbr2.out⟩
            case measure => simp [intOf]
          · clear hy2 hz2
            go_wp2
            go_roundw
            case rel => exact ⟨2, by omega, by omega, rfl, hbr2.out⟩
            case measure => simp [intOf]
      obtain ⟨j, rfl⟩ : ∃ j : Nat, h = (j : Int) + 2 := ⟨(h - 2).toNat, by omega⟩
      have hj4 : j < 4 := by omega
      obtain ⟨x, d1, A⟩ : ∃ x, wr.cell? ⟨g, j + 1, none⟩ = some (.int .i64 x) ∧ Hid (SoonAns ts f v m ch ((j : Int) + 2) x) := ⟨X (j + 1), ble hbr (hc.out (j + 1) (by omega)), by have := hA.out (j + 1) (by omega); rw [show ((j + 1 : Nat) : Int) + 1 = (j : Int) + 2 by omega] at this; exact this⟩
      obtain ⟨p, d0, A1⟩ : ∃ x, wr.cell? ⟨g, j, none⟩ = some (.int .i64 x) ∧ Hid (SoonAns ts f v m ch ((j : Int) + 1) x) := ⟨X j, ble hbr (hc.out j (by omega)), hA.out j (by omega)⟩
      clear hc hA hk hk6
      have CS := cSoonI ao cp ts f v m ch ((j : Int) + 2) wr hTr.out hS.out
      go_wp2_with fail
      refine CS.mono ?_
      rintro e w3 ⟨r, rfl, hr, hb3⟩
      obtain rfl : x = r := A.out.uniq hr
      clear hr CS
      have hT3 := hide (hTr.out.below hb3)
      have HB3 := btrans HBr hb3
      replace d0 := ble hb3 d0
      replace d1 := ble hb3 d1
      have hhp := hide (soon_hops (q.out ((j : Int) + 1) (by omega) (by omega)) (q.out ((j : Int) + 2) (by omega) (by omega)) (by omega) A1.out A.out)
      clear A1
      by_cases gp : 0 ≤ p
      · obtain ⟨ga, gb⟩ := hhp.out gp
        clear hhp
        go_wp2_with fail
        refine (C5 _ HB3).mono ?_
        rintro e w4 ⟨rfl, hw⟩
        subst w4
        clear d0 d1
        go_wp2_with fail
        refine (cSoonI ao cp ts f v (m + z5 % 32) ch ((j : Int) + 2) _ hT3.out hS.out).mono ?_
        rintro e w4 ⟨y, rfl, hy, hb4⟩
        have hT4 := hide (hT3.out.below hb4)
        have HB4 := btrans HB3 hb4
        have hy2 := soon_start (q.out ((j : Int) + 2) (by omega) (by omega)) (qY.out ((j : Int) + 2) (by omega) (by omega)) (by omega) A.out hy
        clear hy
        replace hy2 := hide hy2
        go_wp2_with fail
        refine (C6 _ HB4).mono ?_
        rintro e w5 ⟨rfl, hw⟩
        subst w5
        go_wp2_with fail
        refine (cSoonI ao cp ts f v m (ch + z6 % 9) ((j : Int) + 2) _ hT4.out hS.out).mono ?_
        rintro e w5 ⟨z, rfl, hzz, hb5⟩
        have hz2 := soon_change (q.out ((j : Int) + 2) (by omega) (by omega)) (qZ.out ((j : Int) + 2) (by omega) (by omega)) (by omega) A.out hzz
        have hbr2 := hide (btrans (btrans (btrans hbr hb3) hb4) hb5)
        clear hzz hb3 hb4 hb5 hT4 hT3 C5 C6 A q qY qZ HB HB3 HB4 HBr hbr hTab hS hz
        replace hz2 := hide hz2
        by_cases g1 : 0 ≤ y
        · obtain ⟨g3, g4⟩ := hy2.out g1
          by_cases g2 : 0 ≤ z
          · obtain ⟨g5, g6⟩ := hz2.out g2
            clear hy2 hz2
            go_wp2
            go_roundw
            case rel => exact ⟨(j : Int) + 3, by omega, by omega, by go_num, hbr2.out⟩
            case measure => simp [intOf]; omega
          · clear hy2 hz2
            go_wp2
            go_roundw
            case rel => exact ⟨(j : Int) + 3, by omega, by omega, by go_num, hbr2.out⟩
            case measure => simp [intOf]; omega
        · by_cases g2 : 0 ≤ z
          · obtain ⟨g5, g6⟩ := hz2.out g2
            clear hy2 hz2
            go_wp2
            go_roundw
            case rel => exact ⟨(j : Int) + 3, by omega, by omega, by go_num, hbr2.out⟩
            case measure => simp [intOf]; omega
          · clear hy2 hz2
            go_wp2
            go_roundw
            case rel => exact ⟨(j : Int) + 3, by omega, by omega, by go_num, hbr2.out⟩
            case measure => simp [intOf]; omega
      · clear hhp
        go_wp2_with fail
        refine (C5 _ HB3).mono ?_
        rintro e w4 ⟨rfl, hw⟩
        subst w4
        clear d0 d1
        go_wp2_with fail
        refine (cSoonI ao cp ts f v (m + z5 % 32) ch ((j : Int) + 2) _ hT3.out hS.out).mono ?_
        rintro e w4 ⟨y, rfl, hy, hb4⟩
        have hT4 := hide (hT3.out.below hb4)
        have HB4 := btrans HB3 hb4
        have hy2 := soon_start (q.out ((j : Int) + 2) (by omega) (by omega)) (qY.out ((j : Int) + 2) (by omega) (by omega)) (by omega) A.out hy
        clear hy
        replace hy2 := hide hy2
        go_wp2_with fail
        refine (C6 _ HB4).mono ?_
        rintro e w5 ⟨rfl, hw⟩
        subst w5
        go_wp2_with fail
        refine (cSoonI ao cp ts f v m (ch + z6 % 9) ((j : Int) + 2) _ hT4.out hS.out).mono ?_
        rintro e w5 ⟨z, rfl, hzz, hb5⟩
        have hz2 := soon_change (q.out ((j : Int) + 2) (by omega) (by omega)) (qZ.out ((j : Int) + 2) (by omega) (by omega)) (by omega) A.out hzz
        have hbr2 := hide (btrans (btrans (btrans hbr hb3) hb4) hb5)
        clear hzz hb3 hb4 hb5 hT4 hT3 C5 C6 A q qY qZ HB HB3 HB4 HBr hbr hTab hS hz
        replace hz2 := hide hz2
        by_cases g1 : 0 ≤ y
        · obtain ⟨g3, g4⟩ := hy2.out g1
          by_cases g2 : 0 ≤ z
          · obtain ⟨g5, g6⟩ := hz2.out g2
            clear hy2 hz2
            go_wp2
            go_roundw
            case rel => exact ⟨(j : Int) + 3, by omega, by omega, by go_num, hbr2.out⟩
            case measure => simp [intOf]; omega
          · clear hy2 hz2
            go_wp2
            go_roundw
            case rel => exact ⟨(j : Int) + 3, by omega, by omega, by go_num, hbr2.out⟩
            case measure => simp [intOf]; omega
        · by_cases g2 : 0 ≤ z
          · obtain ⟨g5, g6⟩ := hz2.out g2
            clear hy2 hz2
            go_wp2
            go_roundw
            case rel => exact ⟨(j : Int) + 3, by omega, by omega, by go_num, hbr2.out⟩
            case measure => simp [intOf]; omega
          · clear hy2 hz2
            go_wp2
            go_roundw
            case rel => exact ⟨(j : Int) + 3, by omega, by omega, by go_num, hbr2.out⟩
            case measure => simp [intOf]; omega
  · go_wp2_with fail
    generalize u = v at *
    have qa : ∀ (M c h : Int), 0 ≤ M → M ≤ 200 → 0 ≤ c → c ≤ 20 → 1 ≤ h → h ≤ 5 → AskP ts f v M c h := fun M c h a1 a2 a3 a4 a5 a6 => ⟨hTab.out, inB_yes (by omega) (by omega), inB_yes (by omega) (by omega), inB_yes (by omega) (by omega), inB_yes (by omega) (by omega), inB_yes (by omega) (by omega)⟩
    have q : Hid (∀ h : Int, 1 ≤ h → h ≤ 5 → AskP ts f v m ch h) := fun h a b => qa m ch h (by omega) (by omega) (by omega) (by omega) a b
    have qY : Hid (∀ h : Int, 1 ≤ h → h ≤ 5 → AskP ts f v (m + z5 % 32) ch h) := fun h a b => qa _ ch h (by omega) (by omega) (by omega) (by omega) a b
    have qZ : Hid (∀ h : Int, 1 ≤ h → h ≤ 5 → AskP ts f v m (ch + z6 % 9) h) := fun h a b => qa m _ h (by omega) (by omega) (by omega) (by omega) a b
    clear qa
    refine (cFastI ao cp ts f v m ch _ hT.out hS.out).mono ?_
    rintro e w2 ⟨vv, rfl, L, hP, O, hb⟩
    replace HB := btrans HB hb
    replace hT := hide (hT.out.below hb)
    obtain ⟨X, g, c, rfl, hA, hc⟩ := fast_five (q.out 5 (by omega) (by omega)) hP O
    clear hP O hb
    go_wp2
    go_loopw [9] (fun hh wr => ∃ h : Int, 1 ≤ h ∧ h ≤ 6 ∧ hh = .int .i64 h ∧ Below w2.heap.size w2 wr) (fun hh _ => 6 - (intOf hh).toNat)
    case atStart => exact ⟨1, by omega, by omega, rfl, Below.refl _ _⟩
    case round =>
      obtain ⟨h, h1, h6, rfl, hbr⟩ := hrel
      have HBr := btrans HB hbr
      have hTr := hide (hT.out.below hbr)
      clear hT
      by_cases hk6 : h = 6
      · subst hk6
        have d4 := ble hbr (hc.out 4 (by omega))
        have hswH := hide (fun (L : List Int) (hW : WithL ts f m ch 5 L) => soon_within (q.out 5 (by omega) (by omega)) (hA.out 4 (by omega)) hW)
        generalize X 4 = x4 at *
        clear hA hc q qY qZ C5 C6
        by_cases gx : 0 ≤ x4
        · have m5 : Hid (∀ L, WithL ts f m ch 5 L → decide (v ∈ L) = true) := fun L hL => by simp [hswH.out L hL, gx]
          clear hswH
          go_wp2_with fail
          go_region_with (first
            | (go_at_call 17; refine (cWithI ao cp ts f m ch 5 _ (hTr.out.below (Below.refl _ _).drew) hS.out).mono ?_; rintro e w6 ⟨v6, rfl, L6, hP6, O6, hb6⟩; obtain ⟨a6, k6, rfl⟩ := own_form O6; have e4 := ble (undrew hb6) d4; have HB6 := hide (btrans HBr (undrew hb6)); have I6 := hide (Ints.own O6 rfl); have l6 := with_len hP6; have m6 := m5.out L6 hP6; clear O6 hP6 hb6)
            | (go_at_call 16; refine (cWithinL _ _ L6 v _ (by first | exact I6.out | exact I6.out.below (Below.refl _ _).drew) (by omega)).mono ?_; rintro e w7 ⟨rfl, hw⟩; subst w7; rw [m6]))
          all_goals go_wp2
          all_goals go_ret
          all_goals exact ⟨by first | rfl | (rw [show decide (0 ≤ x4) = false from decide_eq_false (by omega)]; rfl) | (rw [show decide (0 ≤ x4) = true from decide_eq_true (by omega)]; rfl), HB6.out⟩
        · have m5 : Hid (∀ L, WithL ts f m ch 5 L → decide (v ∈ L) = false) := fun L hL => by simp [hswH.out L hL, gx]
          clear hswH
          go_wp2_with fail
          go_region_with (first
            | (go_at_call 17; refine (cWithI ao cp ts f m ch 5 _ (hTr.out.below (Below.refl _ _).drew) hS.out).mono ?_; rintro e w6 ⟨v6, rfl, L6, hP6, O6, hb6⟩; obtain ⟨a6, k6, rfl⟩ := own_form O6; have e4 := ble (undrew hb6) d4; have HB6 := hide (btrans HBr (undrew hb6)); have I6 := hide (Ints.own O6 rfl); have l6 := with_len hP6; have m6 := m5.out L6 hP6; clear O6 hP6 hb6)
            | (go_at_call 16; refine (cWithinL _ _ L6 v _ (by first | exact I6.out | exact I6.out.below (Below.refl _ _).drew) (by omega)).mono ?_; rintro e w7 ⟨rfl, hw⟩; subst w7; rw [m6]))
          all_goals go_wp2
          all_goals go_ret
          all_goals exact ⟨by first | rfl | (rw [show decide (0 ≤ x4) = false from decide_eq_false (by omega)]; rfl) | (rw [show decide (0 ≤ x4) = true from decide_eq_true (by omega)]; rfl), HB6.out⟩
      by_cases hk : h = 1
      · subst hk
        obtain ⟨x, d0, A⟩ : ∃ x, wr.cell? ⟨g, 0, none⟩ = some (.int .i64 x) ∧ Hid (SoonAns ts f v m ch 1 x) := ⟨X 0, ble hbr (hc.out 0 (by omega)), hA.out 0 (by omega)⟩
        clear hc hA
        have CS := cSoonI ao cp ts f v m ch 1 wr hTr.out hS.out
        go_wp2_with fail
        refine CS.mono ?_
        rintro e w3 ⟨r, rfl, hr, hb3⟩
        obtain rfl : x = r := A.out.uniq hr
        clear hr CS
        have hT3 := hide (hTr.out.below hb3)
        have HB3 := btrans HBr hb3
        replace d0 := ble hb3 d0
        go_wp2_with fail
        refine (C5 _ HB3).mono ?_
        rintro e w4 ⟨rfl, hw⟩
        subst w4
        clear d0
        go_wp2_with fail
        refine (cSoonI ao cp ts f v (m + z5 % 32) ch 1 _ hT3.out hS.out).mono ?_
        rintro e w4 ⟨y, rfl, hy, hb4⟩
        have hT4 := hide (hT3.out.below hb4)
        have HB4 := btrans HB3 hb4
        have hy2 := soon_start (q.out 1 (by omega) (by omega)) (qY.out 1 (by omega) (by omega)) (by omega) A.out hy
        clear hy
        replace hy2 := hide hy2
        go_wp2_with fail
        refine (C6 _ HB4).mono ?_
        rintro e w5 ⟨rfl, hw⟩
        subst w5
        go_wp2_with fail
        refine (cSoonI ao cp ts f v m (ch + z6 % 9) 1 _ hT4.out hS.out).mono ?_
        rintro e w5 ⟨z, rfl, hzz, hb5⟩
        have hz2 := soon_change (q.out 1 (by omega) (by omega)) (qZ.out 1 (by omega) (by omega)) (by omega) A.out hzz
        have hbr2 := hide (btrans (btrans (btrans hbr hb3) hb4) hb5)
        clear hzz hb3 hb4 hb5 hT4 hT3 C5 C6 A q qY qZ HB HB3 HB4 HBr hbr hTab hS hz
        replace hz2 := hide hz2
        by_cases g1 : 0 ≤ y
        · obtain ⟨g3, g4⟩ := hy2.out g1
          by_cases g2 : 0 ≤ z
          · obtain ⟨g5, g6⟩ := hz2.out g2
            clear hy2 hz2
            go_wp2
            go_roundw
            case rel => exact ⟨2, by omega, by omega, rfl, hbr2.out⟩
            case measure => simp [intOf]
          · clear hy2 hz2
            go_wp2
            go_roundw
            case rel => exact ⟨2, by omega, by omega, rfl, hbr2.out⟩
            case measure => simp [intOf]
        · by_cases g2 : 0 ≤ z
          · obtain ⟨g5, g6⟩ := hz2.out g2
            clear hy2 hz2
            go_wp2
            go_roundw
            case rel => exact ⟨2, by omega, by omega, rfl, hbr2.out⟩
            case measure => simp [intOf]
          · clear hy2 hz2
            go_wp2
            go_roundw
            case rel => exact ⟨2, by omega, by omega, rfl, hbr2.out⟩
            case measure => simp [intOf]
      obtain ⟨j, rfl⟩ : ∃ j : Nat, h = (j : Int) + 2 := ⟨(h - 2).toNat, by omega⟩
      have hj4 : j < 4 := by omega
      obtain ⟨x, d1, A⟩ : ∃ x, wr.cell? ⟨g, j + 1, none⟩ = some (.int .i64 x) ∧ Hid (SoonAns ts f v m ch ((j : Int) + 2) x) := ⟨X (j + 1), ble hbr (hc.out (j + 1) (by omega)), by have := hA.out (j + 1) (by omega); rw [show ((j + 1 : Nat) : Int) + 1 = (j : Int) + 2 by omega] at this; exact this⟩
      obtain ⟨p, d0, A1⟩ : ∃ x, wr.cell? ⟨g, j, none⟩ = some (.int .i64 x) ∧ Hid (SoonAns ts f v m ch ((j : Int) + 1) x) := ⟨X j, ble hbr (hc.out j (by omega)), hA.out j (by omega)⟩
      clear hc hA hk hk6
      have CS := cSoonI ao cp ts f v m ch ((j : Int) + 2) wr hTr.out hS.out
      go_wp2_with fail
      refine CS.mono ?_
      rintro e w3 ⟨r, rfl, hr, hb3⟩
      obtain rfl : x = r := A.out.uniq hr
      clear hr CS
      have hT3 := hide (hTr.out.below hb3)
      have HB3 := btrans HBr hb3
      replace d0 := ble hb3 d0
      replace d1 := ble hb3 d1
      have hhp := hide (soon_hops (q.out ((j : Int) + 1) (by omega) (by omega)) (q.out ((j : Int) + 2) (by omega) (by omega)) (by omega) A1.out A.out)
      clear A1
      by_cases gp : 0 ≤ p
      · obtain ⟨ga, gb⟩ := hhp.out gp
        clear hhp
        go_wp2_with fail
        refine (C5 _ HB3).mono ?_
        rintro e w4 ⟨rfl, hw⟩
        subst w4
        clear d0 d1
        go_wp2_with fail
        refine (cSoonI ao cp ts f v (m + z5 % 32) ch ((j : Int) + 2) _ hT3.out hS.out).mono ?_
        rintro e w4 ⟨y, rfl, hy, hb4⟩
        have hT4 := hide (hT3.out.below hb4)
        have HB4 := btrans HB3 hb4
        have hy2 := soon_start (q.out ((j : Int) + 2) (by omega) (by omega)) (qY.out ((j : Int) + 2) (by omega) (by omega)) (by omega) A.out hy
        clear hy
        replace hy2 := hide hy2
        go_wp2_with fail
        refine (C6 _ HB4).mono ?_
        rintro e w5 ⟨rfl, hw⟩
        subst w5
        go_wp2_with fail
        refine (cSoonI ao cp ts f v m (ch + z6 % 9) ((j : Int) + 2) _ hT4.out hS.out).mono ?_
        rintro e w5 ⟨z, rfl, hzz, hb5⟩
        have hz2 := soon_change (q.out ((j : Int) + 2) (by omega) (by omega)) (qZ.out ((j : Int) + 2) (by omega) (by omega)) (by omega) A.out hzz
        have hbr2 := hide (btrans (btrans (btrans hbr hb3) hb4) hb5)
        clear hzz hb3 hb4 hb5 hT4 hT3 C5 C6 A q qY qZ HB HB3 HB4 HBr hbr hTab hS hz
        replace hz2 := hide hz2
        by_cases g1 : 0 ≤ y
        · obtain ⟨g3, g4⟩ := hy2.out g1
          by_cases g2 : 0 ≤ z
          · obtain ⟨g5, g6⟩ := hz2.out g2
            clear hy2 hz2
            go_wp2
            go_roundw
            case rel => exact ⟨(j : Int) + 3, by omega, by omega, by go_num, hbr2.out⟩
            case measure => simp [intOf]; omega
          · clear hy2 hz2
            go_wp2
            go_roundw
            case rel => exact ⟨(j : Int) + 3, by omega, by omega, by go_num, hbr2.out⟩
            case measure => simp [intOf]; omega
        · by_cases g2 : 0 ≤ z
          · obtain ⟨g5, g6⟩ := hz2.out g2
            clear hy2 hz2
            go_wp2
            go_roundw
            case rel => exact ⟨(j : Int) + 3, by omega, by omega, by go_num, hbr2.out⟩
            case measure => simp [intOf]; omega
          · clear hy2 hz2
            go_wp2
            go_roundw
            case rel => exact ⟨(j : Int) + 3, by omega, by omega, by go_num, hbr2.out⟩
            case measure => simp [intOf]; omega
      · clear hhp
        go_wp2_with fail
        refine (C5 _ HB3).mono ?_
        rintro e w4 ⟨rfl, hw⟩
        subst w4
        clear d0 d1
        go_wp2_with fail
        refine (cSoonI ao cp ts f v (m + z5 % 32) ch ((j : Int) + 2) _ hT3.out hS.out).mono ?_
        rintro e w4 ⟨y, rfl, hy, hb4⟩
        have hT4 := hide (hT3.out.below hb4)
        have HB4 := btrans HB3 hb4
        have hy2 := soon_start (q.out ((j : Int) + 2) (by omega) (by omega)) (qY.out ((j : Int) + 2) (by omega) (by omega)) (by omega) A.out hy
        clear hy
        replace hy2 := hide hy2
        go_wp2_with fail
        refine (C6 _ HB4).mono ?_
        rintro e w5 ⟨rfl, hw⟩
        subst w5
        go_wp2_with fail
        refine (cSoonI ao cp ts f v m (ch + z6 % 9) ((j : Int) + 2) _ hT4.out hS.out).mono ?_
        rintro e w5 ⟨z, rfl, hzz, hb5⟩
        have hz2 := soon_change (q.out ((j : Int) + 2) (by omega) (by omega)) (qZ.out ((j : Int) + 2) (by omega) (by omega)) (by omega) A.out hzz
        have hbr2 := hide (btrans (btrans (btrans hbr hb3) hb4) hb5)
        clear hzz hb3 hb4 hb5 hT4 hT3 C5 C6 A q qY qZ HB HB3 HB4 HBr hbr hTab hS hz
        replace hz2 := hide hz2
        by_cases g1 : 0 ≤ y
        · obtain ⟨g3, g4⟩ := hy2.out g1
          by_cases g2 : 0 ≤ z
          · obtain ⟨g5, g6⟩ := hz2.out g2
            clear hy2 hz2
            go_wp2
            go_roundw
            case rel => exact ⟨(j : Int) + 3, by omega, by omega, by go_num, hbr2.out⟩
            case measure => simp [intOf]; omega
          · clear hy2 hz2
            go_wp2
            go_roundw
            case rel => exact ⟨(j : Int) + 3, by omega, by omega, by go_num, hbr2.out⟩
            case measure => simp [intOf]; omega
        · by_cases g2 : 0 ≤ z
          · obtain ⟨g5, g6⟩ := hz2.out g2
            clear hy2 hz2
            go_wp2
            go_roundw
            case rel => exact ⟨(j : Int) + 3, by omega, by omega, by go_num, hbr2.out⟩
            case measure => simp [intOf]; omega
          · clear hy2 hz2
            go_wp2
            go_roundw
            case rel => exact ⟨(j : Int) + 3, by omega, by omega, by go_num, hbr2.out⟩
            case measure => simp [intOf]; omega
end Go.Proofs.Ytpfnnpgielnaeaa
