/- Scan of the model. -/
import Derived.Test.YtgnohomplehacaaTQ
namespace Go.Proofs.Ytgnohomplehacaa
open Go.RowKit
theorem app_tel {w : World} {B n : Nat} {v : Value} {cs : List TC} (t : TC) (hv : t.v.oneCell' = true) (h : w.ownsRow B 25 3 v n (flatC cs)) (hl : n ≤ 100000) (hB : B ≤ w.heap.size) :
    ∃ v2 w2, (Builtin.append_ #[33, 33] 33 #[v, .slice (some ⟨w.heap.size, 0, none⟩) 1 1]).run Try.prog (w.alloc (.cells #[.int .i64 t.q, .int .i64 t.k, t.v] 25)) = .ok v2 w2 ∧ w2.ownsRow B 25 3 v2 (n + 1) (flatC cs ++ [.int .i64 t.q, .int .i64 t.k, t.v]) ∧ (w.alloc (.cells #[.int .i64 t.q, .int .i64 t.k, t.v] 25)).grownBy w2 v.ownBlock := by
  obtain ⟨i0, hi, hz0, hz1, hz2⟩ := info_parts infoTel
  have hb := balloc w (.cells #[.int .i64 t.q, .int .i64 t.k, t.v] 25)
  obtain ⟨v2, w2, hr, h2, h3, _, h5⟩ := run_append_own_at (P := Try.prog) (w.alloc (.cells #[.int .i64 t.q, .int .i64 t.k, t.v] 25)) B 33 33 25 i0 (.agg #[.int .i64 0, .int .i64 0, .slice none 0 0]) 3 40 Try.underlying33 hi hz0 hz1 hz2 rfl (by decide) v n (flatC cs) (own_keep h hb) ⟨w.heap.size, 0, none⟩ 1 1 [.int .i64 t.q, .int .i64 t.k, t.v] rfl (World.news_of_block (heap_alloc_new w _)) (fun u hu => by simp at hu; rcases hu with hu | hu | hu <;> subst hu <;> first | rfl | exact hv) (by unfold maxLen; omega) (by omega) (by have := hb.size; omega)
  exact ⟨v2, w2, hr, h2, h3⟩
set_option maxRecDepth 100000 in
set_option maxHeartbeats 12800000 in
theorem cScanS (a : Option Addr) (c : Nat) (zs : List Int) (w : World) (hz : Bys w a zs) (hy : By zs) (hl : zs.length ≤ 1048576) : Calls Try.prog 39 #[.slice a zs.length c] w (AnsSc w zs) := by
  by_cases h3 : 3000 < zs.length
  · have E : Hid (scanV zs = ([], -1)) := hide (by unfold scanV; rw [if_pos h3])
    have hgt : (3000 : Int) < (zs.length : Int) := by omega
    go_enter Try.func39, Try.ntmps39
    go_wp2
    go_ret2
    exact ⟨.slice none 0 0, [], by rw [E.out]; rfl, by rw [E.out]; exact TabT.nil _ _, Below.refl _ _⟩
  have hngt : ¬ ((3000 : Int) < (zs.length : Int)) := by omega
  have E0 : Hid (scanV zs = if 0 ≤ zs.length then scV (zs.drop 0) (pcs zs 0 0) ([], 0) else ([], 0)) := hide (by unfold scanV; rw [if_neg h3, pcs_nil, List.drop_zero, if_pos (Nat.zero_le _)])
  have hb0 := balloc w (.cells #[] 25)
  have T0 : TabT w.heap.size (w.alloc (.cells #[] 25)) (.slice (some ⟨w.heap.size, 0, none⟩) 0 0) [] [] := TabT.of0 (World.ownsRow_made w _ 0 (Nat.le_refl _) (by unfold maxLen; omega) (by simp))
  go_enter Try.func39, Try.ntmps39
  go_wp2
  generalize w.alloc (.cells #[] 25) = w1 at *
  go_loopw [4, 5, 6, 7, 8, 9, 10, 11] (fun v bad fr i _ _ _ _ wr => ∃ (j b : Nat) (ts : List TelV) (n : Int) (cs : List TC), j ≤ zs.length + 1 ∧ b ≤ j ∧ i = .int .i64 j ∧ fr = .int .i64 b ∧ bad = .int .i64 n ∧ Hid (scanV zs = if j ≤ zs.length then scV (zs.drop j) (pcs zs b j) (ts, n) else (ts, n)) ∧ Fnd ts n j ∧ TabT w.heap.size wr v cs ts ∧ Below w.heap.size w wr) (fun _ _ _ i _ _ _ _ _ => zs.length + 2 - (intOf i).toNat)
  case atStart => exact ⟨0, 0, [], 0, [], Nat.zero_le _, Nat.zero_le _, rfl, rfl, rfl, E0, Fnd.zero, T0, hb0⟩
  case round =>
    obtain ⟨j, b, ts, n, cs, hj, hbj, rfl, rfl, rfl, hE, hF, hT, hb⟩ := hrel
    clear T0 hb0 E0
    have hn0 := hF.n0
    have hle := hF.le
    by_cases hend : zs.length < j
    · have E : Hid (scanV zs = (ts, n)) := hide (by rw [hE.out, if_neg (by omega)])
      have hcond : ¬ ((j : Int) ≤ (zs.length : Int)) := by omega
      obtain ⟨va, vc, hv⟩ := own_form hT.own
      subst hv
      clear hE hF hz
      go_wp2
      go_ret2
      exact ⟨_, cs, by rw [E.out]; rfl, by rw [E.out]; exact hT, hb⟩
    have hcond : ((j : Int) ≤ (zs.length : Int)) := by omega
    have hE1 : scanV zs = scV (zs.drop j) (pcs zs b j) (ts, n) := by rw [hE.out, if_pos (by omega)]
    obtain ⟨va0, vc0, hv0⟩ := own_form hT.own
    subst hv0
    by_cases hlt : j < zs.length
    · have hc2 : ((j : Int) < (zs.length : Int)) := by omega
      have hz0 := hz
      rcases hz0 with hz0 | ⟨bb0, off0, hadd, hcell⟩
      · simp [hz0] at hlt
      have hck := ble hb (hcell j hlt)
      have hcl := hide hcell
      clear hcell
      subst hadd
      by_cases hf : zs.getD j 0 = 126
      · have hE2 : Hid (scanV zs = if j + 1 ≤ zs.length then scV (zs.drop (j + 1)) (pcs zs (j + 1) (j + 1)) (takeP (ts, n) (pcs zs b j)) else takeP (ts, n) (pcs zs b j)) := hide (by rw [if_pos (show j + 1 ≤ zs.length from hlt), hE1, scV_flag hlt hf, pcs_nil])
        rw [hf] at hck
        clear hf hE1
        have hF2 := hF.take (hy.pcs b j)
        generalize hP : takeP (ts, n) (pcs zs b j) = P at *
        obtain ⟨ts2, n2⟩ := P
        replace hP := hide hP
        dsimp only at hF2
        clear hE hF
        by_cases hlt2 : b < j
        · skip
          have hgt : (b : Int) < (j : Int) := by omega
          have R1 : (wr.alloc (.cells #[.int .u8 126] 5)).ownsRow wr.heap.size 5 1 (.slice (some ⟨wr.heap.size, 0, none⟩) 1 1) 1 (enc8 (126 :: pcs zs b b)) := by
            have := World.ownsRow_lit (base := wr.heap.size) (e := 5) (size := 1) wr #[.int .u8 126] 1 (Nat.le_refl _) (by unfold maxLen; omega) rfl
            simpa [enc8, pcs_nil] using this
          have B1 := balloc wr (.cells #[.int .u8 126] 5)
          go_wp2
          generalize wr.alloc (.cells #[.int .u8 126] 5) = w3 at *
          generalize wr = wo at *
          go_loopw [8, 9] (fun v i wr => ∃ (k m : Nat), b ≤ k ∧ k ≤ j ∧ i = .int .i64 k ∧ Hid (m = 1 + (k - b)) ∧ m ≤ 4000 ∧ wr.ownsRow wo.heap.size 5 1 v m (enc8 (126 :: pcs zs b k)) ∧ Below wo.heap.size wo wr) (fun _ i _ => j - (intOf i).toNat)
          case atStart => exact ⟨b, 1, Nat.le_refl _, hbj, rfl, hide (by omega), by omega, R1, B1⟩
          case round =>
            clear R1 B1
            obtain ⟨k, m, hbk, hkj, rfl, hm, hm4, hown, hb2⟩ := hrel
            by_cases hlk : k < j
            · have hkz : k < zs.length := by omega
              have hkz2 : (k : Int) < (zs.length : Int) := by omega
              have hck2 := ble hb2 (ble hb (hcl.out k hkz))
              have st : Hid ((126 :: pcs zs b k) ++ [zs.getD k 0] = 126 :: pcs zs b (k + 1)) := hide (by rw [pcs_step hbk hkz]; rfl)
              obtain ⟨v2, w4, hrun, hrow, hgrow, -⟩ := app_one (zs.getD k 0) (by simp [pcs_len (show k ≤ zs.length by omega)]; have := hm.out; omega) hown (by omega) hb2.size
              have hb3 := below_app hb2 hb2.size hown hgrow
              rw [st.out] at hrow
              generalize zs.getD k 0 = z at *
              obtain ⟨va, vc, rfl⟩ := own_form hown
              obtain ⟨va2, vc2, rfl⟩ := own_form hrow
              have hm5 : m + 1 ≤ 4000 := by have := hm.out; omega
              have hm6 : Hid (m + 1 = 1 + (k + 1 - b)) := hide (by have := hm.out; omega)
              clear hown hgrow hb2 hck
              go_wp2_with (at_builtin; refine Go.Lib.wpList_append_run _ rfl _ _ _ _ rfl _ _ rfl rfl _ _ hrun ?_)
              go_roundw
              case rel => exact ⟨k + 1, m + 1, by omega, by omega, by go_num, hm6, hm5, hrow, hb3⟩
              case measure => simp [intOf]; omega
            · obtain rfl : k = j := by omega
              have hLn : Hid ((126 :: pcs zs b k).length = m) := hide (by simp [pcs_len (show k ≤ zs.length by omega)]; have := hm.out; omega)
              obtain ⟨v2, w4, hrun, hrow, hgrow, -⟩ := app_one 126 hLn.out hown (by omega) hb2.size
              have hb3 := below_app hb2 hb2.size hown hgrow
              have hp0 : pcs zs b k ≠ [] := fun e => by have h9 := congrArg List.length e; rw [pcs_len (by omega)] at h9; simp at h9; omega
              have hd := decV_mk (pcs zs b k)
              have hLy : By ((126 :: pcs zs b k) ++ [126]) := (By.cons (by omega) (by omega) (hy.pcs b k)).app (By.one (by omega) (by omega))
              have hL2 : ((126 :: pcs zs b k) ++ [126]).length = m + 1 := by rw [List.length_append, hLn.out]; rfl
              obtain ⟨va, vc, rfl⟩ := own_form hown
              obtain ⟨va2, vc2, rfl⟩ := own_form hrow
              have CD := cDecS va2 vc2 ((126 :: pcs zs b k) ++ [126]) w4 (Bys.own hrow hL2) hLy (by omega)
              rw [hL2, show (126 :: pcs zs b k) ++ [126] = 126 :: (pcs zs b k ++ [126]) from rfl, hd] at CD
              replace hL2 := hide hL2
              replace hd := hide hd
              have hwo : w.heap.size ≤ w4.heap.size := by have h1 := hb.size; have h2 := hb3.size; omega
              have hw4 := hb3.size
              clear hown hgrow hb2 hck hrow
              go_wp2_with (at_builtin; refine Go.Lib.wpList_append_run _ rfl _ _ _ _ rfl _ _ rfl rfl _ _ hrun ?_)
              refine CD.mono ?_
              rintro e w5 ⟨hans, hb5⟩
              have hb6 := btrans hb3 hb5
              have HB := btrans hb hb6
              have hblk : Hid (∀ j, (hj : j < cs.length) → ∀ k, cs[j].v.ownBlock = some k → k < wo.heap.size) := hide (fun j hj k hk => own_blk_lt (hT.each j hj).2.2 k hk)
              replace hT := hT.below hb6
              clear CD hrun
              rcases hans with ⟨t, vb, hdd, rfl, R⟩ | ⟨hdd, rfl⟩
              · have hP2 := hide ((takeP_some (st := (ts, n)) hp0 hdd).symm.trans hP.out)
                have hpr : Hid (∀ j, (hj : j < cs.length) → ∀ k, cs[j].v.ownBlock = some k → vb.ownBlock ≠ some k) := hide (fun j hj k hk e => by have h1 := hblk.out j hj k hk; have h2 := own_from R (Nat.le_refl _) k e; omega)
                replace R := own_base R hwo
                obtain ⟨tq, tk, bd⟩ := t
                dsimp only at R
                obtain ⟨bn, hbn⟩ : ∃ bn, bd.length = bn := ⟨_, rfl⟩
                rw [hbn] at R
                replace hbn := hide hbn
                obtain ⟨ba, bc, rfl⟩ := own_form R
                have K0 := one_block w5 (.cells #[.int .i64 tq, .int .i64 tk, .slice ba bn bc] 25)
                have hb7 := balloc w5 (.cells #[.int .i64 tq, .int .i64 tk, .slice ba bn bc] 25)
                replace hT := hT.below hb7
                replace R := own_keep R hb7
                replace HB := btrans HB hb7
                obtain ⟨⟨x0, x1, x2⟩, -⟩ := blk3 K0
                obtain ⟨w6, hw6⟩ : ∃ w6, w6 = w5.alloc (.cells #[.int .i64 tq, .int .i64 tk, .slice ba bn bc] 25) := ⟨_, rfl⟩
                rw [← hw6] at hT R HB
                have hot := hT.own
                obtain ⟨v3, w7, hrun, hrow, hgrow⟩ := app_tel ⟨tq, tk, .slice ba bn bc⟩ rfl hot (by omega) HB.size
                have A := balloc w6 (.cells #[.int .i64 tq, .int .i64 tk, .slice ba bn bc] 25)
                have hT3 : TabT w.heap.size w7 v3 (cs ++ [⟨tq, tk, .slice ba bn bc⟩]) (ts ++ [⟨tq, tk, bd⟩]) := (hT.below A).push (t := ⟨tq, tk, bd⟩) (by exact hrow) (by exact hgrow) (by rw [hbn.out]; exact own_keep R A) hpr.out
                have B7 := below_app HB HB.size hot hgrow
                have hts : ts2 = ts ++ [⟨tq, tk, bd⟩] := (congrArg Prod.fst hP2.out).symm
                have hnn : n2 = n := (congrArg Prod.snd hP2.out).symm
                subst hts hnn
                obtain ⟨ra2, rc2, rfl⟩ := own_form hrow
                dsimp only at hrun
                clear hrow hgrow hot R K0 hT hblk hpr hp0 hLy hb7 A HB
                subst hw6
                have sz6 : (w5.alloc (.cells #[.int .i64 tq, .int .i64 tk, .slice ba bn bc] 25)).heap.size = w5.heap.size + 1 := by simp
                rw [sz6] at hrun
                clear sz6
                dsimp only
                go_wp2_with (at_builtin; refine Go.Lib.wpList_append_run _ rfl _ _ _ _ rfl _ _ rfl rfl _ _ hrun ?_)
                go_roundw
                case rel => exact ⟨k + 1, k + 1, _, _, _, by omega, Nat.le_refl _, by go_num, by go_num, rfl, hE2, hF2, hT3, B7⟩
                case measure => simp [intOf]; omega
              · have hP2 := hide ((takeP_none (st := (ts, n)) hp0 hdd).symm.trans hP.out)
                have hb7 := balloc w5 (.cells #[.int .i64 0, .int .i64 0, .slice none 0 0] 25)
                replace hT := hT.below hb7
                replace HB := btrans HB hb7
                have hts : ts2 = ts := (congrArg Prod.fst hP2.out).symm
                have hnn : n2 = n + 1 := (congrArg Prod.snd hP2.out).symm
                subst hts hnn
                have hwn : IntKind.i64.wrap (n + 1) = n + 1 := wrap_in _ (by omega) (by omega)
                clear hblk hp0 hLy hb7
                go_wp2
                go_roundw
                case rel => exact ⟨k + 1, k + 1, _, _, _, by omega, Nat.le_refl _, by go_num, by go_num, rfl, hE2, hF2, hT, HB⟩
                case measure => simp [intOf]; omega
        · skip
          have hng : ¬ ((b : Int) < (j : Int)) := by omega
          have hp0 : pcs zs b j = [] := by rw [show b = j by omega, pcs_nil]
          rw [hp0, takeP_nil] at hP
          have hts : ts2 = ts := (congrArg Prod.fst hP.out).symm
          have hnn : n2 = n := (congrArg Prod.snd hP.out).symm
          subst hts hnn
          clear hp0 hP
          go_wp2
          go_roundw
          case rel => exact ⟨j + 1, j + 1, _, _, _, by omega, Nat.le_refl _, by go_num, by go_num, rfl, hE2, hF2, hT, hb⟩
          case measure => simp [intOf]; omega
      · have hE2 : Hid (scanV zs = if j + 1 ≤ zs.length then scV (zs.drop (j + 1)) (pcs zs b (j + 1)) (ts, n) else (ts, n)) := hide (by rw [if_pos (show j + 1 ≤ zs.length from hlt), hE1, scV_plain hlt hf, pcs_step hbj hlt])
        have hF2 := hF.mono (Nat.le_succ j)
        generalize zs.getD j 0 = z at *
        have h5 : (z != 126) = true := by simp [bne, hf]
        clear hE hF hf hle hE1
        go_wp2
        go_roundw
        case rel => exact ⟨j + 1, b, ts, n, cs, by omega, by omega, by go_num, rfl, rfl, hE2, hF2, hT, hb⟩
        case measure => simp [intOf]; omega
    · have hje : j = zs.length := by omega
      have hE2 : Hid (scanV zs = if j + 1 ≤ zs.length then scV (zs.drop (j + 1)) (pcs zs (j + 1) (j + 1)) (takeP (ts, n) (pcs zs b j)) else takeP (ts, n) (pcs zs b j)) := hide (by rw [if_neg (by omega), hE1, hje, scV_end])
      have hc2 : ¬ ((j : Int) < (zs.length : Int)) := by omega
      have hck : True := trivial
      replace hje := hide hje
      clear hE1
      have hF2 := hF.take (hy.pcs b j)
      generalize hP : takeP (ts, n) (pcs zs b j) = P at *
      obtain ⟨ts2, n2⟩ := P
      replace hP := hide hP
      dsimp only at hF2
      clear hE hF
      rcases hz with hz0 | ⟨bb0, off0, rfl, hcell⟩
      · have hj0 : j = 0 := by rw [hje.out, hz0]; rfl
        replace hz0 := hide hz0
        have hng : ¬ ((b : Int) < (j : Int)) := by omega
        have hp0 : pcs zs b j = [] := by rw [show b = j by omega, pcs_nil]
        rw [hp0, takeP_nil] at hP
        have hts : ts2 = ts := (congrArg Prod.fst hP.out).symm
        have hnn : n2 = n := (congrArg Prod.snd hP.out).symm
        subst hts hnn
        clear hp0 hP
        go_wp2
        go_roundw
        case rel => exact ⟨j + 1, j + 1, _, _, _, by omega, Nat.le_refl _, by go_num, by go_num, rfl, hE2, hF2, hT, hb⟩
        case measure => simp [intOf]; omega
      · have hcl := hide hcell
        clear hcell
        by_cases hlt2 : b < j
        · skip
          have hgt : (b : Int) < (j : Int) := by omega
          have R1 : (wr.alloc (.cells #[.int .u8 126] 5)).ownsRow wr.heap.size 5 1 (.slice (some ⟨wr.heap.size, 0, none⟩) 1 1) 1 (enc8 (126 :: pcs zs b b)) := by
            have := World.ownsRow_lit (base := wr.heap.size) (e := 5) (size := 1) wr #[.int .u8 126] 1 (Nat.le_refl _) (by unfold maxLen; omega) rfl
            simpa [enc8, pcs_nil] using this
          have B1 := balloc wr (.cells #[.int .u8 126] 5)
          go_wp2
          generalize wr.alloc (.cells #[.int .u8 126] 5) = w3 at *
          generalize wr = wo at *
          go_loopw [8, 9] (fun v i wr => ∃ (k m : Nat), b ≤ k ∧ k ≤ j ∧ i = .int .i64 k ∧ Hid (m = 1 + (k - b)) ∧ m ≤ 4000 ∧ wr.ownsRow wo.heap.size 5 1 v m (enc8 (126 :: pcs zs b k)) ∧ Below wo.heap.size wo wr) (fun _ i _ => j - (intOf i).toNat)
          case atStart => exact ⟨b, 1, Nat.le_refl _, hbj, rfl, hide (by omega), by omega, R1, B1⟩
          case round =>
            clear R1 B1
            obtain ⟨k, m, hbk, hkj, rfl, hm, hm4, hown, hb2⟩ := hrel
            by_cases hlk : k < j
            · have hkz : k < zs.length := by omega
              have hkz2 : (k : Int) < (zs.length : Int) := by omega
              have hck2 := ble hb2 (ble hb (hcl.out k hkz))
              have st : Hid ((126 :: pcs zs b k) ++ [zs.getD k 0] = 126 :: pcs zs b (k + 1)) := hide (by rw [pcs_step hbk hkz]; rfl)
              obtain ⟨v2, w4, hrun, hrow, hgrow, -⟩ := app_one (zs.getD k 0) (by simp [pcs_len (show k ≤ zs.length by omega)]; have := hm.out; omega) hown (by omega) hb2.size
              have hb3 := below_app hb2 hb2.size hown hgrow
              rw [st.out] at hrow
              generalize zs.getD k 0 = z at *
              obtain ⟨va, vc, rfl⟩ := own_form hown
              obtain ⟨va2, vc2, rfl⟩ := own_form hrow
              have hm5 : m + 1 ≤ 4000 := by have := hm.out; omega
              have hm6 : Hid (m + 1 = 1 + (k + 1 - b)) := hide (by have := hm.out; omega)
              clear hown hgrow hb2 hck
              go_wp2_with (at_builtin; refine Go.Lib.wpList_append_run _ rfl _ _ _ _ rfl _ _ rfl rfl _ _ hrun ?_)
              go_roundw
              case rel => exact ⟨k + 1, m + 1, by omega, by omega, by go_num, hm6, hm5, hrow, hb3⟩
              case measure => simp [intOf]; omega
            · obtain rfl : k = j := by omega
              have hLn : Hid ((126 :: pcs zs b k).length = m) := hide (by simp [pcs_len (show k ≤ zs.length by omega)]; have := hm.out; omega)
              obtain ⟨v2, w4, hrun, hrow, hgrow, -⟩ := app_one 126 hLn.out hown (by omega) hb2.size
              have hb3 := below_app hb2 hb2.size hown hgrow
              have hp0 : pcs zs b k ≠ [] := fun e => by have h9 := congrArg List.length e; rw [pcs_len (by omega)] at h9; simp at h9; omega
              have hd := decV_mk (pcs zs b k)
              have hLy : By ((126 :: pcs zs b k) ++ [126]) := (By.cons (by omega) (by omega) (hy.pcs b k)).app (By.one (by omega) (by omega))
              have hL2 : ((126 :: pcs zs b k) ++ [126]).length = m + 1 := by rw [List.length_append, hLn.out]; rfl
              obtain ⟨va, vc, rfl⟩ := own_form hown
              obtain ⟨va2, vc2, rfl⟩ := own_form hrow
              have CD := cDecS va2 vc2 ((126 :: pcs zs b k) ++ [126]) w4 (Bys.own hrow hL2) hLy (by omega)
              rw [hL2, show (126 :: pcs zs b k) ++ [126] = 126 :: (pcs zs b k ++ [126]) from rfl, hd] at CD
              replace hL2 := hide hL2
              replace hd := hide hd
              have hwo : w.heap.size ≤ w4.heap.size := by have h1 := hb.size; have h2 := hb3.size; omega
              have hw4 := hb3.size
              clear hown hgrow hb2 hck hrow
              go_wp2_with (at_builtin; refine Go.Lib.wpList_append_run _ rfl _ _ _ _ rfl _ _ rfl rfl _ _ hrun ?_)
              refine CD.mono ?_
              rintro e w5 ⟨hans, hb5⟩
              have hb6 := btrans hb3 hb5
              have HB := btrans hb hb6
              have hblk : Hid (∀ j, (hj : j < cs.length) → ∀ k, cs[j].v.ownBlock = some k → k < wo.heap.size) := hide (fun j hj k hk => own_blk_lt (hT.each j hj).2.2 k hk)
              replace hT := hT.below hb6
              clear CD hrun
              rcases hans with ⟨t, vb, hdd, rfl, R⟩ | ⟨hdd, rfl⟩
              · have hP2 := hide ((takeP_some (st := (ts, n)) hp0 hdd).symm.trans hP.out)
                have hpr : Hid (∀ j, (hj : j < cs.length) → ∀ k, cs[j].v.ownBlock = some k → vb.ownBlock ≠ some k) := hide (fun j hj k hk e => by have h1 := hblk.out j hj k hk; have h2 := own_from R (Nat.le_refl _) k e; omega)
                replace R := own_base R hwo
                obtain ⟨tq, tk, bd⟩ := t
                dsimp only at R
                obtain ⟨bn, hbn⟩ : ∃ bn, bd.length = bn := ⟨_, rfl⟩
                rw [hbn] at R
                replace hbn := hide hbn
                obtain ⟨ba, bc, rfl⟩ := own_form R
                have K0 := one_block w5 (.cells #[.int .i64 tq, .int .i64 tk, .slice ba bn bc] 25)
                have hb7 := balloc w5 (.cells #[.int .i64 tq, .int .i64 tk, .slice ba bn bc] 25)
                replace hT := hT.below hb7
                replace R := own_keep R hb7
                replace HB := btrans HB hb7
                obtain ⟨⟨x0, x1, x2⟩, -⟩ := blk3 K0
                obtain ⟨w6, hw6⟩ : ∃ w6, w6 = w5.alloc (.cells #[.int .i64 tq, .int .i64 tk, .slice ba bn bc] 25) := ⟨_, rfl⟩
                rw [← hw6] at hT R HB
                have hot := hT.own
                obtain ⟨v3, w7, hrun, hrow, hgrow⟩ := app_tel ⟨tq, tk, .slice ba bn bc⟩ rfl hot (by omega) HB.size
                have A := balloc w6 (.cells #[.int .i64 tq, .int .i64 tk, .slice ba bn bc] 25)
                have hT3 : TabT w.heap.size w7 v3 (cs ++ [⟨tq, tk, .slice ba bn bc⟩]) (ts ++ [⟨tq, tk, bd⟩]) := (hT.below A).push (t := ⟨tq, tk, bd⟩) (by exact hrow) (by exact hgrow) (by rw [hbn.out]; exact own_keep R A) hpr.out
                have B7 := below_app HB HB.size hot hgrow
                have hts : ts2 = ts ++ [⟨tq, tk, bd⟩] := (congrArg Prod.fst hP2.out).symm
                have hnn : n2 = n := (congrArg Prod.snd hP2.out).symm
                subst hts hnn
                obtain ⟨ra2, rc2, rfl⟩ := own_form hrow
                dsimp only at hrun
                clear hrow hgrow hot R K0 hT hblk hpr hp0 hLy hb7 A HB
                subst hw6
                have sz6 : (w5.alloc (.cells #[.int .i64 tq, .int .i64 tk, .slice ba bn bc] 25)).heap.size = w5.heap.size + 1 := by simp
                rw [sz6] at hrun
                clear sz6
                dsimp only
                go_wp2_with (at_builtin; refine Go.Lib.wpList_append_run _ rfl _ _ _ _ rfl _ _ rfl rfl _ _ hrun ?_)
                go_roundw
                case rel => exact ⟨k + 1, k + 1, _, _, _, by omega, Nat.le_refl _, by go_num, by go_num, rfl, hE2, hF2, hT3, B7⟩
                case measure => simp [intOf]; omega
              · have hP2 := hide ((takeP_none (st := (ts, n)) hp0 hdd).symm.trans hP.out)
                have hb7 := balloc w5 (.cells #[.int .i64 0, .int .i64 0, .slice none 0 0] 25)
                replace hT := hT.below hb7
                replace HB := btrans HB hb7
                have hts : ts2 = ts := (congrArg Prod.fst hP2.out).symm
                have hnn : n2 = n + 1 := (congrArg Prod.snd hP2.out).symm
                subst hts hnn
                have hwn : IntKind.i64.wrap (n + 1) = n + 1 := wrap_in _ (by omega) (by omega)
                clear hblk hp0 hLy hb7
                go_wp2
                go_roundw
                case rel => exact ⟨k + 1, k + 1, _, _, _, by omega, Nat.le_refl _, by go_num, by go_num, rfl, hE2, hF2, hT, HB⟩
                case measure => simp [intOf]; omega
        · skip
          have hng : ¬ ((b : Int) < (j : Int)) := by omega
          have hp0 : pcs zs b j = [] := by rw [show b = j by omega, pcs_nil]
          rw [hp0, takeP_nil] at hP
          have hts : ts2 = ts := (congrArg Prod.fst hP.out).symm
          have hnn : n2 = n := (congrArg Prod.snd hP.out).symm
          subst hts hnn
          clear hp0 hP
          go_wp2
          go_roundw
          case rel => exact ⟨j + 1, j + 1, _, _, _, by omega, Nat.le_refl _, by go_num, by go_num, rfl, hE2, hF2, hT, hb⟩
          case measure => simp [intOf]; omega
end Go.Proofs.Ytgnohomplehacaa
