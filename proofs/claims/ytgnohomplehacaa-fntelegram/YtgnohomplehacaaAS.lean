/- Axles of the model. -/
import Derived.Test.YtgnohomplehacaaAZ
namespace Go.Proofs.Ytgnohomplehacaa
open Go.RowKit
set_option maxRecDepth 100000 in
set_option maxHeartbeats 25600000 in
theorem cAxS (a : Option Addr) (cap : Nat) (ts : List TelV) (w : World) (hR : Tels w a ts) (hS : Small ts) (hY : ByT ts) :
    Calls Try.prog 25 #[.slice a ts.length cap] w (AnsAx w ts) := by
  obtain ⟨hl, he⟩ := hS
  by_cases h2 : 200 < ts.length
  · have E : Hid (axA ts = (-1, -1)) := hide (by unfold axA; rw [if_neg (by omega)])
    have hgt : (200 : Int) < (ts.length : Int) := by omega
    clear hR
    go_enter Try.func25, Try.ntmps25
    go_wp2
    go_ret2
    exact ⟨by rw [E.out]; rfl, Below.refl _ _⟩
  have hgt : ¬ ((200 : Int) < (ts.length : Int)) := by omega
  have E0 : Hid (okAll ts = false → axA ts = (-1, -1)) := hide (fun h => by unfold axA; rw [if_neg (fun h2 => by rw [h] at h2; cases h2.2)])
  have E1 : Hid (okAll ts = true → axA ts = ((axF ts).c, (axF ts).o)) := hide (fun h => by unfold axA; rw [if_pos ⟨by omega, h⟩])
  have hin := hide (axF_in ts hY)
  replace he := hide he
  replace hY := hide hY
  go_enter Try.func25, Try.ntmps25
  go_wp2
  go_loopw [4] (fun i wr => ∃ k : Nat, k ≤ ts.length ∧ i = .int .i64 k ∧ Hid (okAll (ts.take k) = true) ∧ Below w.heap.size w wr) (fun i _ => ts.length - (intOf i).toNat)
  case atStart => exact ⟨0, Nat.zero_le _, rfl, hide rfl, Below.refl _ _⟩
  case round =>
    obtain ⟨j, hj, rfl, hall, hb⟩ := hrel
    by_cases hlt : j < ts.length
    · obtain ⟨bb, off, na, nc, rfl, c0, c1, c2, -, -⟩ := (hR.below hb).at hlt
      have hst : Hid (okAll (ts.take (j + 1)) = telB ts[j].q ts[j].k ts[j].b.length) := hide (by
        rw [List.take_succ_eq_append_getElem hlt]
        have h1 := hall.out
        unfold okAll at h1 ⊢
        rw [List.all_append, h1]
        simp [okT])
      have hno : Hid (telB ts[j].q ts[j].k ts[j].b.length = false → okAll ts = false) := hide (fun h => by
        cases h2 : okAll ts
        · rfl
        · have h3 := List.all_eq_true.1 h2 _ (List.getElem_mem hlt)
          have h4 : okT ts[j] = telB ts[j].q ts[j].k ts[j].b.length := rfl
          rw [h4, h] at h3; cases h3)
      generalize ts[j] = R at *
      obtain ⟨q, k, b⟩ := R
      dsimp only at c0 c1 c2 hst hno
      generalize b.length = bn at *
      have hk0 : (0 : Int) ≤ (j : Int) := by omega
      have hk1 : (j : Int) < (ts.length : Int) := by omega
      have CO := cOkS q k na bn nc wr
      clear hR hall
      cases hT : telB q k bn
      · have E := hide (E0.out (hno.out hT))
        rw [hT] at CO
        clear hst hno
        go_wp2_with fail
        refine CO.mono ?_
        rintro e w2 ⟨rfl, hb3⟩
        have HB3 := btrans hb hb3
        clear CO
        go_wp2
        go_ret2
        exact ⟨by rw [E.out]; rfl, HB3⟩
      · rw [hT] at CO hst
        clear hno
        go_wp2_with fail
        refine CO.mono ?_
        rintro e w2 ⟨rfl, hb3⟩
        have HB3 := btrans hb hb3
        clear CO hb hb3 c0 c1 c2
        go_wp2
        go_roundw
        case rel => exact ⟨j + 1, by omega, by go_num, hst, HB3⟩
        case measure => simp [intOf]; omega
    · obtain rfl : j = ts.length := by omega
      rw [List.take_length] at hall
      have E := hide (E1.out hall.out)
      clear hall E0 E1
      generalize wr = wo at *
      go_wp2
      go_loopw [5, 6, 7, 8, 9, 10, 11] (fun cv lv ov i _ _ _ wr => ∃ j : Nat, j ≤ ts.length ∧ i = .int .i64 j ∧ cv = .int .i64 (axF (ts.take j)).c ∧ lv = .int .i64 (axF (ts.take j)).l ∧ ov = .int .i64 (axF (ts.take j)).o ∧ Below w.heap.size w wr) (fun _ _ _ i _ _ _ _ => ts.length - (intOf i).toNat)
      case atStart => exact ⟨0, Nat.zero_le _, rfl, rfl, rfl, rfl, hb⟩
      case round =>
        obtain ⟨j, hj, rfl, rfl, rfl, rfl, hbr⟩ := hrel
        clear hb
        obtain ⟨hc0, hc1, ho0, ho1⟩ := hin.out j hj
        by_cases hlt : j < ts.length
        · obtain ⟨bb, off, na, nc, rfl, c0, c1, c2, -, c3⟩ := (hR.below hbr).at hlt
          have hst : Hid (axF (ts.take (j + 1)) = axS (axF (ts.take j)) ts[j]) := hide (by rw [List.take_succ_eq_append_getElem hlt, axF_snoc])
          have hby := hY.out _ (List.getElem_mem hlt)
          have hbl := he.out _ (List.getElem_mem hlt)
          generalize axF (ts.take j) = S at *
          obtain ⟨c, l, o⟩ := S
          generalize ts[j] = R at *
          obtain ⟨q, k, b⟩ := R
          dsimp only at c0 c1 c2 hst hby hbl hc0 hc1 ho0 ho1 c3 ⊢
          have hk0 : (0 : Int) ≤ (j : Int) := by omega
          have hk1 : (j : Int) < (ts.length : Int) := by omega
          have ht := toldV_in hby
          have Y := one_block wr (.cells #[.int .i64 q, .int .i64 k, .slice na b.length nc] 25)
          have hb2 := balloc wr (.cells #[.int .i64 q, .int .i64 k, .slice na b.length nc] 25)
          have HB := btrans hbr hb2
          replace c3 := c3.below hb2
          obtain ⟨⟨x0, x1, x2⟩, -⟩ := blk3 Y
          have EA : Hid (axS ⟨c, l, o⟩ ⟨q, k, b⟩ = if accV l q = 1 then ⟨c, l, o + 1⟩ else ⟨cntV (if accV l q = 2 then -1 else c) k (toldV b), q, o⟩) := hide rfl
          have CC := cAccS l q (wr.alloc (.cells #[.int .i64 q, .int .i64 k, .slice na b.length nc] 25))
          clear hb2 hbr Y
          generalize accV l q = V at *
          go_wp2_with fail
          refine CC.mono ?_
          rintro e w3 ⟨rfl, hw3⟩
          subst w3
          clear CC c0 c1 c2
          generalize wr.alloc (.cells #[.int .i64 q, .int .i64 k, .slice na b.length nc] 25) = w3 at *
          generalize wr.heap.size = tb at *
          by_cases hv1 : V = 1
          · have E8 := hide (EA.out.trans (if_pos hv1))
            have b1 : (V == 1) = true := by simp [hv1]
            have hwo : IntKind.i64.wrap (o + 1) = o + 1 := wrap_in _ (by omega) (by omega)
            replace hv1 := hide hv1
            clear EA c3
            go_wp2
            go_roundw
            case rel => exact ⟨j + 1, by omega, by go_num, by rw [hst.out, E8.out], by rw [hst.out, E8.out], by rw [hst.out, E8.out], HB⟩
            case measure => simp [intOf]; omega
          have b1 : (V == 1) = false := by simp [hv1]
          by_cases hv2 : V = 2
          · have E8 := EA.out.trans (if_neg hv1)
            rw [if_pos hv2] at E8
            have b2 : (V == 2) = true := by simp [hv2]
            replace hv1 := hide hv1
            replace hv2 := hide hv2
            clear EA
            by_cases hb0 : b.length = 0
            · have hn0 : ¬ ((0 : Int) < (b.length : Int)) := by omega
              have hto : toldV b = 0 := by unfold toldV; rw [if_pos hb0]
              clear c3
              replace hb0 := hide hb0
              by_cases h3 : k = 3
              · have k3 : (k == 3) = true := by simp [h3]
                have E9 : Hid (cntV (-1) k (toldV b) = 0) := hide (by unfold cntV; rw [if_pos h3])
                rw [E9.out] at E8
                replace E8 := hide E8
                replace h3 := hide h3
                go_wp2
                go_roundw
                case rel => exact ⟨j + 1, by omega, by go_num, by rw [hst.out, E8.out], by rw [hst.out, E8.out], by rw [hst.out, E8.out], HB⟩
                case measure => simp [intOf]; omega
              have k3 : (k == 3) = false := by simp [h3]
              have hm : (-1 : Int) = -1 := rfl
              by_cases h1 : k = 1
              · have k1 : (k == 1) = true := by simp [h1]
                have k2 : (k == 2) = false := by simp [h1]
                have E9 : Hid (cntV (-1) k (toldV b) = -1) := hide (by unfold cntV; rw [if_neg h3, if_pos hm])
                rw [E9.out] at E8
                replace E8 := hide E8
                replace h1 := hide h1
                go_wp2
                go_roundw
                case rel => exact ⟨j + 1, by omega, by go_num, by rw [hst.out, E8.out], by rw [hst.out, E8.out], by rw [hst.out, E8.out], HB⟩
                case measure => simp [intOf]; omega
              have k1 : (k == 1) = false := by simp [h1]
              by_cases h2 : k = 2
              · have k2 : (k == 2) = true := by simp [h2]
                have E9 : Hid (cntV (-1) k (toldV b) = -1) := hide (by unfold cntV; rw [if_neg h3, if_pos hm])
                rw [E9.out] at E8
                replace E8 := hide E8
                replace h2 := hide h2
                go_wp2
                go_roundw
                case rel => exact ⟨j + 1, by omega, by go_num, by rw [hst.out, E8.out], by rw [hst.out, E8.out], by rw [hst.out, E8.out], HB⟩
                case measure => simp [intOf]; omega
              have k2 : (k == 2) = false := by simp [h2]
              have E9 : Hid (cntV (-1) k (toldV b) = -1) := hide (by unfold cntV; rw [if_neg h3, if_pos hm])
              rw [E9.out] at E8
              replace E8 := hide E8
              skip
              go_wp2
              go_roundw
              case rel => exact ⟨j + 1, by omega, by go_num, by rw [hst.out, E8.out], by rw [hst.out, E8.out], by rw [hst.out, E8.out], HB⟩
              case measure => simp [intOf]; omega
            have hn0 : (0 : Int) < (b.length : Int) := by omega
            have hn1 : 0 < b.length := by omega
            rcases c3 with c3 | ⟨b3, o3, rfl, c3⟩
            · rw [c3] at hb0; exact absurd rfl hb0
            have hc0' := c3 0 hn1
            rw [Nat.add_zero] at hc0'
            have hto : toldV b = b.getD 0 0 := by unfold toldV; rw [if_neg hb0]
            rw [← hto] at hc0'
            have hwz : IntKind.i64.wrap (toldV b) = toldV b := wrap_in _ (by omega) (by omega)
            clear c3
            replace hto := hide hto
            replace hb0 := hide hb0
            by_cases h3 : k = 3
            · have k3 : (k == 3) = true := by simp [h3]
              have E9 : Hid (cntV (-1) k (toldV b) = 0) := hide (by unfold cntV; rw [if_pos h3])
              rw [E9.out] at E8
              replace E8 := hide E8
              replace h3 := hide h3
              go_wp2
              go_roundw
              case rel => exact ⟨j + 1, by omega, by go_num, by rw [hst.out, E8.out], by rw [hst.out, E8.out], by rw [hst.out, E8.out], HB⟩
              case measure => simp [intOf]; omega
            have k3 : (k == 3) = false := by simp [h3]
            have hm : (-1 : Int) = -1 := rfl
            by_cases h1 : k = 1
            · have k1 : (k == 1) = true := by simp [h1]
              have k2 : (k == 2) = false := by simp [h1]
              have E9 : Hid (cntV (-1) k (toldV b) = -1) := hide (by unfold cntV; rw [if_neg h3, if_pos hm])
              rw [E9.out] at E8
              replace E8 := hide E8
              replace h1 := hide h1
              go_wp2
              go_roundw
              case rel => exact ⟨j + 1, by omega, by go_num, by rw [hst.out, E8.out], by rw [hst.out, E8.out], by rw [hst.out, E8.out], HB⟩
              case measure => simp [intOf]; omega
            have k1 : (k == 1) = false := by simp [h1]
            by_cases h2 : k = 2
            · have k2 : (k == 2) = true := by simp [h2]
              have E9 : Hid (cntV (-1) k (toldV b) = -1) := hide (by unfold cntV; rw [if_neg h3, if_pos hm])
              rw [E9.out] at E8
              replace E8 := hide E8
              replace h2 := hide h2
              go_wp2
              go_roundw
              case rel => exact ⟨j + 1, by omega, by go_num, by rw [hst.out, E8.out], by rw [hst.out, E8.out], by rw [hst.out, E8.out], HB⟩
              case measure => simp [intOf]; omega
            have k2 : (k == 2) = false := by simp [h2]
            have E9 : Hid (cntV (-1) k (toldV b) = -1) := hide (by unfold cntV; rw [if_neg h3, if_pos hm])
            rw [E9.out] at E8
            replace E8 := hide E8
            skip
            go_wp2
            go_roundw
            case rel => exact ⟨j + 1, by omega, by go_num, by rw [hst.out, E8.out], by rw [hst.out, E8.out], by rw [hst.out, E8.out], HB⟩
            case measure => simp [intOf]; omega
          have E8 := EA.out.trans (if_neg hv1)
          rw [if_neg hv2] at E8
          have b2 : (V == 2) = false := by simp [hv2]
          replace hv1 := hide hv1
          replace hv2 := hide hv2
          clear EA
          by_cases hb0 : b.length = 0
          · have hn0 : ¬ ((0 : Int) < (b.length : Int)) := by omega
            have hto : toldV b = 0 := by unfold toldV; rw [if_pos hb0]
            clear c3
            replace hb0 := hide hb0
            by_cases h3 : k = 3
            · have k3 : (k == 3) = true := by simp [h3]
              have E9 : Hid (cntV (c) k (toldV b) = 0) := hide (by unfold cntV; rw [if_pos h3])
              rw [E9.out] at E8
              replace E8 := hide E8
              replace h3 := hide h3
              go_wp2
              go_roundw
              case rel => exact ⟨j + 1, by omega, by go_num, by rw [hst.out, E8.out], by rw [hst.out, E8.out], by rw [hst.out, E8.out], HB⟩
              case measure => simp [intOf]; omega
            have k3 : (k == 3) = false := by simp [h3]
            by_cases hm : c = -1
            · have hge : ¬ (0 ≤ c) := by omega
              by_cases h1 : k = 1
              · have k1 : (k == 1) = true := by simp [h1]
                have k2 : (k == 2) = false := by simp [h1]
                have E9 : Hid (cntV (c) k (toldV b) = c) := hide (by unfold cntV; rw [if_neg h3, if_pos hm, hm])
                rw [E9.out] at E8
                replace E8 := hide E8
                replace hm := hide hm
                replace h1 := hide h1
                go_wp2
                go_roundw
                case rel => exact ⟨j + 1, by omega, by go_num, by rw [hst.out, E8.out], by rw [hst.out, E8.out], by rw [hst.out, E8.out], HB⟩
                case measure => simp [intOf]; omega
              have k1 : (k == 1) = false := by simp [h1]
              by_cases h2 : k = 2
              · have k2 : (k == 2) = true := by simp [h2]
                have E9 : Hid (cntV (c) k (toldV b) = c) := hide (by unfold cntV; rw [if_neg h3, if_pos hm, hm])
                rw [E9.out] at E8
                replace E8 := hide E8
                replace hm := hide hm
                replace h2 := hide h2
                go_wp2
                go_roundw
                case rel => exact ⟨j + 1, by omega, by go_num, by rw [hst.out, E8.out], by rw [hst.out, E8.out], by rw [hst.out, E8.out], HB⟩
                case measure => simp [intOf]; omega
              have k2 : (k == 2) = false := by simp [h2]
              have E9 : Hid (cntV (c) k (toldV b) = c) := hide (by unfold cntV; rw [if_neg h3, if_pos hm, hm])
              rw [E9.out] at E8
              replace E8 := hide E8
              replace hm := hide hm
              skip
              go_wp2
              go_roundw
              case rel => exact ⟨j + 1, by omega, by go_num, by rw [hst.out, E8.out], by rw [hst.out, E8.out], by rw [hst.out, E8.out], HB⟩
              case measure => simp [intOf]; omega
            have hge : 0 ≤ c := by omega
            have hwc : IntKind.i64.wrap c = c := wrap_in _ (by omega) (by omega)
            by_cases h1 : k = 1
            · have k1 : (k == 1) = true := by simp [h1]
              have k2 : (k == 2) = false := by simp [h1]
              have E9 : Hid (cntV (c) k (toldV b) = c) := hide (by unfold cntV; rw [if_neg h3, if_neg hm, if_pos h1, hto, Int.add_zero])
              rw [E9.out] at E8
              replace E8 := hide E8
              replace h1 := hide h1
              go_wp2
              go_roundw
              case rel => exact ⟨j + 1, by omega, by go_num, by rw [hst.out, E8.out], by rw [hst.out, E8.out], by rw [hst.out, E8.out], HB⟩
              case measure => simp [intOf]; omega
            have k1 : (k == 1) = false := by simp [h1]
            by_cases h2 : k = 2
            · have k2 : (k == 2) = true := by simp [h2]
              have hng : ¬ (c < 0) := by omega
              have E9 : Hid (cntV (c) k (toldV b) = c) := hide (by unfold cntV; rw [if_neg h3, if_neg hm, if_neg h1, if_pos h2, hto, Int.sub_zero, if_neg (by omega)])
              rw [E9.out] at E8
              replace E8 := hide E8
              replace h2 := hide h2
              go_wp2
              go_roundw
              case rel => exact ⟨j + 1, by omega, by go_num, by rw [hst.out, E8.out], by rw [hst.out, E8.out], by rw [hst.out, E8.out], HB⟩
              case measure => simp [intOf]; omega
            have k2 : (k == 2) = false := by simp [h2]
            have E9 : Hid (cntV (c) k (toldV b) = c) := hide (by unfold cntV; rw [if_neg h3, if_neg hm, if_neg h1, if_neg h2])
            rw [E9.out] at E8
            replace E8 := hide E8
            skip
            go_wp2
            go_roundw
            case rel => exact ⟨j + 1, by omega, by go_num, by rw [hst.out, E8.out], by rw [hst.out, E8.out], by rw [hst.out, E8.out], HB⟩
            case measure => simp [intOf]; omega
          have hn0 : (0 : Int) < (b.length : Int) := by omega
          have hn1 : 0 < b.length := by omega
          rcases c3 with c3 | ⟨b3, o3, rfl, c3⟩
          · rw [c3] at hb0; exact absurd rfl hb0
          have hc0' := c3 0 hn1
          rw [Nat.add_zero] at hc0'
          have hto : toldV b = b.getD 0 0 := by unfold toldV; rw [if_neg hb0]
          rw [← hto] at hc0'
          have hwz : IntKind.i64.wrap (toldV b) = toldV b := wrap_in _ (by omega) (by omega)
          clear c3
          replace hto := hide hto
          replace hb0 := hide hb0
          by_cases h3 : k = 3
          · have k3 : (k == 3) = true := by simp [h3]
            have E9 : Hid (cntV (c) k (toldV b) = 0) := hide (by unfold cntV; rw [if_pos h3])
            rw [E9.out] at E8
            replace E8 := hide E8
            replace h3 := hide h3
            go_wp2
            go_roundw
            case rel => exact ⟨j + 1, by omega, by go_num, by rw [hst.out, E8.out], by rw [hst.out, E8.out], by rw [hst.out, E8.out], HB⟩
            case measure => simp [intOf]; omega
          have k3 : (k == 3) = false := by simp [h3]
          by_cases hm : c = -1
          · have hge : ¬ (0 ≤ c) := by omega
            by_cases h1 : k = 1
            · have k1 : (k == 1) = true := by simp [h1]
              have k2 : (k == 2) = false := by simp [h1]
              have E9 : Hid (cntV (c) k (toldV b) = c) := hide (by unfold cntV; rw [if_neg h3, if_pos hm, hm])
              rw [E9.out] at E8
              replace E8 := hide E8
              replace hm := hide hm
              replace h1 := hide h1
              go_wp2
              go_roundw
              case rel => exact ⟨j + 1, by omega, by go_num, by rw [hst.out, E8.out], by rw [hst.out, E8.out], by rw [hst.out, E8.out], HB⟩
              case measure => simp [intOf]; omega
            have k1 : (k == 1) = false := by simp [h1]
            by_cases h2 : k = 2
            · have k2 : (k == 2) = true := by simp [h2]
              have E9 : Hid (cntV (c) k (toldV b) = c) := hide (by unfold cntV; rw [if_neg h3, if_pos hm, hm])
              rw [E9.out] at E8
              replace E8 := hide E8
              replace hm := hide hm
              replace h2 := hide h2
              go_wp2
              go_roundw
              case rel => exact ⟨j + 1, by omega, by go_num, by rw [hst.out, E8.out], by rw [hst.out, E8.out], by rw [hst.out, E8.out], HB⟩
              case measure => simp [intOf]; omega
            have k2 : (k == 2) = false := by simp [h2]
            have E9 : Hid (cntV (c) k (toldV b) = c) := hide (by unfold cntV; rw [if_neg h3, if_pos hm, hm])
            rw [E9.out] at E8
            replace E8 := hide E8
            replace hm := hide hm
            skip
            go_wp2
            go_roundw
            case rel => exact ⟨j + 1, by omega, by go_num, by rw [hst.out, E8.out], by rw [hst.out, E8.out], by rw [hst.out, E8.out], HB⟩
            case measure => simp [intOf]; omega
          have hge : 0 ≤ c := by omega
          have hwc : IntKind.i64.wrap c = c := wrap_in _ (by omega) (by omega)
          by_cases h1 : k = 1
          · have k1 : (k == 1) = true := by simp [h1]
            have k2 : (k == 2) = false := by simp [h1]
            have hwr : IntKind.i64.wrap (c + toldV b) = c + toldV b := wrap_in _ (by omega) (by omega)
            have E9 : Hid (cntV (c) k (toldV b) = c + toldV b) := hide (by unfold cntV; rw [if_neg h3, if_neg hm, if_pos h1])
            rw [E9.out] at E8
            replace E8 := hide E8
            replace h1 := hide h1
            go_wp2
            go_roundw
            case rel => exact ⟨j + 1, by omega, by go_num, by rw [hst.out, E8.out], by rw [hst.out, E8.out], by rw [hst.out, E8.out], HB⟩
            case measure => simp [intOf]; omega
          have k1 : (k == 1) = false := by simp [h1]
          by_cases h2 : k = 2
          · have k2 : (k == 2) = true := by simp [h2]
            have hwr : IntKind.i64.wrap (c - toldV b) = c - toldV b := wrap_in _ (by omega) (by omega)
            by_cases hlt2 : c - toldV b < 0
            · skip
              have E9 : Hid (cntV (c) k (toldV b) = -1) := hide (by unfold cntV; rw [if_neg h3, if_neg hm, if_neg h1, if_pos h2, if_pos hlt2])
              rw [E9.out] at E8
              replace E8 := hide E8
              replace h2 := hide h2
              go_wp2
              go_roundw
              case rel => exact ⟨j + 1, by omega, by go_num, by rw [hst.out, E8.out], by rw [hst.out, E8.out], by rw [hst.out, E8.out], HB⟩
              case measure => simp [intOf]; omega
            · skip
              have E9 : Hid (cntV (c) k (toldV b) = c - toldV b) := hide (by unfold cntV; rw [if_neg h3, if_neg hm, if_neg h1, if_pos h2, if_neg hlt2])
              rw [E9.out] at E8
              replace E8 := hide E8
              replace h2 := hide h2
              go_wp2
              go_roundw
              case rel => exact ⟨j + 1, by omega, by go_num, by rw [hst.out, E8.out], by rw [hst.out, E8.out], by rw [hst.out, E8.out], HB⟩
              case measure => simp [intOf]; omega
          have k2 : (k == 2) = false := by simp [h2]
          have E9 : Hid (cntV (c) k (toldV b) = c) := hide (by unfold cntV; rw [if_neg h3, if_neg hm, if_neg h1, if_neg h2])
          rw [E9.out] at E8
          replace E8 := hide E8
          skip
          go_wp2
          go_roundw
          case rel => exact ⟨j + 1, by omega, by go_num, by rw [hst.out, E8.out], by rw [hst.out, E8.out], by rw [hst.out, E8.out], HB⟩
          case measure => simp [intOf]; omega
        · obtain rfl : j = ts.length := by omega
          have fin : AnsAx w ts (.returned (.tuple #[.int .i64 (axF (ts.take ts.length)).c, .int .i64 (axF (ts.take ts.length)).o])) wr := ⟨by rw [E.out, List.take_length], hbr⟩
          generalize axF (ts.take ts.length) = S at *
          clear hR hbr
          go_wp2
          go_ret2
          exact fin
end Go.Proofs.Ytgnohomplehacaa
