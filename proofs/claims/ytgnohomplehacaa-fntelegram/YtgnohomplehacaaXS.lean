/- FnScan. -/
import Derived.Test.YtgnohomplehacaaSX
namespace Go.Proofs.Ytgnohomplehacaa
open Go.RowKit
/-- A row of bytes that is there. -/
theorem row_some {w : World} {B n : Nat} {v : Value} {xs : List Value} (h : w.ownsRow B 5 1 v n xs) (h0 : 0 < n) : ∃ g c, v = .slice (some ⟨g, 0, none⟩) n c := by
  rcases h.2 with ⟨_, e⟩ | ⟨g, cap, cur, rfl, _⟩
  · omega
  · exact ⟨g, cap, rfl⟩
theorem tab_some {w : World} {B n c : Nat} {a : Option Addr} {xs : List Value} (h : w.ownsRow B 25 3 (.slice a n c) n xs) (h0 : 0 < n) : ∃ g, a = some ⟨g, 0, none⟩ := by
  rcases h.2 with ⟨_, e⟩ | ⟨g, cap, cur, he, _⟩
  · omega
  · simp only [Value.slice.injEq] at he
    exact ⟨g, he.1⟩
set_option maxRecDepth 100000 in
set_option maxHeartbeats 12800000 in
theorem walkScanD (a : Option Addr) (cap : Nat) (bs : List Int) (w : World) (hz : Bytes w a bs) (hl0 : bs.length ≤ maxLen) :
    Calls Try.prog 4 #[.slice a bs.length cap] w fun e w' => e = .returned (.bool true) ∧ Below w.heap.size w w' := by
  by_cases hbig : 1048576 < bs.length
  · have CB := cbig a cap bs.length w hl0
    rw [decide_eq_true hbig] at CB
    go_enter Try.func4, Try.ntmps4
    go_wp2_with fail
    refine CB.mono ?_
    rintro e w1 ⟨rfl, hw1⟩
    subst w1
    go_wp2
    go_ret
    exact ⟨rfl, Below.refl _ _⟩
  have hl : bs.length ≤ 1048576 := by omega
  have CB := cbig a cap bs.length w hl0
  rw [decide_eq_false hbig] at CB
  go_enter Try.func4, Try.ntmps4
  go_wp2_with fail
  refine CB.mono ?_
  rintro e w1 ⟨rfl, hw1⟩
  subst w1
  clear CB
  go_wp2_with fail
  refine (cDrawTs cap a bs w hz hl).mono ?_
  rintro e wL ⟨ts, cs, v, rfl, hts, hD, T, HB0⟩
  have hzL := hz.below HB0
  have hLo := T.own
  have hLt := T.len
  have hTe := hide T.each
  have hOk : Hid (∀ t ∈ ts, okT t = true) := hide (fun t ht => (hD t ht).ok)
  have hY : ByT ts := fun t ht => (hD t ht).by_
  have hSm : Small ts := ⟨by omega, fun t ht => by have := (hD t ht).len; omega⟩
  obtain ⟨n, hn⟩ : ∃ n, ts.length = n := ⟨_, rfl⟩
  have hTT := hide T
  rw [hn] at hLo hts hLt
  obtain ⟨la, lc, rfl⟩ := own_form hLo
  replace hn := hide hn
  replace hD := hide hD
  clear T hz
  have A0 := balloc wL (.cells #[] 5)
  have R0 : (wL.alloc (.cells #[] 5)).ownsRow wL.heap.size 5 1 (.slice (some ⟨wL.heap.size, 0, none⟩) 0 0) 0 (enc8 []) := World.ownsRow_made wL _ 0 (Nat.le_refl _) (by unfold maxLen; omega) (by simp)
  go_wp2
  go_loopw [4, 5, 6] (fun sv pv i wr => ∃ (j m : Nat) (sp : Int) (xs : List Int) (g c : Nat), j ≤ n ∧ i = .int .i64 j ∧ pv = .int .i64 sp ∧ sv = .slice (some ⟨g, 0, none⟩) m c ∧ Hid (xs.length = m ∧ m ≤ 134 * j) ∧ 0 ≤ sp ∧ sp ≤ j ∧ Hid (∀ l, scV (xs ++ l) [] ([], 0) = scV l [] (ts.take j, sp)) ∧ Hid (By xs) ∧ wr.ownsRow wL.heap.size 5 1 sv m (enc8 xs) ∧ Below wL.heap.size wL wr) (fun _ _ i _ => n - (intOf i).toNat)
  case atStart => exact ⟨0, 0, 0, [], _, _, Nat.zero_le _, rfl, rfl, rfl, hide ⟨rfl, by omega⟩, by omega, by omega, hide (fun l => rfl), hide By.nil, R0, A0⟩
  case round =>
    clear R0 A0
    obtain ⟨j, m, sp, xs, g, c, hj, rfl, rfl, rfl, hm, sp0, sp1, hE, hyx, hown, hb⟩ := hrel
    by_cases hlt : j < n
    · have hjc : j < cs.length := by omega
      have hjt : j < ts.length := by rw [hn.out]; exact hlt
      have hm1 := hm.out.1
      have hm2 := hm.out.2
      obtain ⟨lb, rfl⟩ := tab_some hLo (by omega)
      obtain ⟨t1, t2, t3⟩ := hTe.out j hjc
      obtain ⟨y0, y1, y2⟩ := flatC_get cs j hjc
      have hl3 := flatC_len cs
      have x0 := ble hb ((hLo.cellAt (j * 3) (by omega)).trans y0)
      have x1 := ble hb ((hLo.cellAt (j * 3 + 1) (by omega)).trans y1)
      have x2 := ble hb ((hLo.cellAt (j * 3 + 2) (by omega)).trans y2)
      rw [t1] at x0
      rw [t2] at x1
      have hte : ts.getD j TelV.zero = ts[j] := by simp [List.getD, hjt]
      have hDj := hD.out _ (List.getElem_mem hjt)
      have htk : ts.take (j + 1) = ts.take j ++ [ts.getD j TelV.zero] := by rw [List.take_succ_eq_append_getElem hjt, hte]
      rw [← hte] at hDj
      obtain ⟨t, ht⟩ : ∃ t, t = ts.getD j TelV.zero := ⟨_, rfl⟩
      rw [← ht] at x0 x1 t3 hDj htk
      obtain ⟨na, nc, hnv⟩ := own_form t3
      rw [hnv] at x2 t3
      have hokt := hDj.ok
      have CE := cEncI t.q t.k na nc t.b wr ((Bys.own t3 rfl).below hb) hDj.by_ (own_cap t3)
      obtain ⟨tq, tk, bd⟩ := t
      dsimp only at x0 x1 x2 t3 CE
      rw [show encV ⟨tq, tk, bd⟩ = encL ⟨tq, tk, bd⟩ from encV_yes hokt] at CE
      have hel := enc_len hokt
      have hey := enc_by hokt hDj.by_
      have hsc := scV_enc hokt hDj.by_
      obtain ⟨EL, hEL⟩ : ∃ EL, EL = encL ⟨tq, tk, bd⟩ := ⟨_, rfl⟩
      rw [← hEL] at CE hel hey hsc
      have CA := fun W hW => cat a cap bs j W (hzL.below (w' := W) hW) hl (by omega)
      have hat := atZ_in hzL j
      have hk0 : (0 : Int) ≤ (j : Int) := by omega
      have hk1 : (j : Int) < (n : Int) := by omega
      have hE1 : Hid (∀ l, scV ((xs ++ EL) ++ l) [] ([], 0) = scV l [] (ts.take (j + 1), sp)) := hide (fun l => by rw [List.append_assoc, hE.out, hsc, htk])
      have hE2 : Hid (∀ l, scV (((xs ++ EL) ++ [1, 2, 3, 126]) ++ l) [] ([], 0) = scV l [] (ts.take (j + 1), sp + 1)) := hide (fun l => by rw [List.append_assoc, hE1.out, scV_bad])
      have hy1' : By (xs ++ EL) := hyx.out.app hey
      have hy2' : By ((xs ++ EL) ++ [1, 2, 3, 126]) := hy1'.app (By.cons (by omega) (by omega) (By.cons (by omega) (by omega) (By.cons (by omega) (by omega) (By.one (by omega) (by omega)))))
      replace hy1' := hide hy1'
      replace hy2' := hide hy2'
      clear y0 y1 y2 t1 t2 hte htk ht hnv hEL hsc hDj hokt hE hyx
      go_wp2_with fail
      refine CE.mono ?_
      rintro e w2 ⟨vE, rfl, RE, hb2⟩
      have hown2 := own_keep hown hb2
      have HB2 := hb.trans (hb2.mono hb.size)
      obtain ⟨aE, cE, rfl⟩ := own_form RE
      obtain ⟨v3, w3, hrun, hrow, hgrow, -⟩ := app_by hm1 hown2 aE cE (Bys.own RE rfl) (by omega) HB2.size
      have HB3 : Below wL.heap.size wL w3 := HB2.grown hgrow HB2.size (fun x hx => own_from hown2 (Nat.le_refl _) x hx)
      obtain ⟨g3, c3, rfl⟩ := row_some hrow (by omega)
      have hL3 : (xs ++ EL).length = m + EL.length := by rw [List.length_append, hm1]
      obtain ⟨M, hM⟩ : ∃ M, M = m + EL.length := ⟨_, rfl⟩
      rw [← hM] at hrow hrun hL3
      have hM1 : M ≤ 134 * j + 130 := by omega
      have hM2 : M ≤ 3000 := by omega
      have DA := CA w3 HB3
      clear CE CA hown hown2 RE hb2 HB2 hgrow hb x0 x1 x2 hm1 hm2 hm hM hel t3 hl3
      replace hL3 := hide hL3
      go_wp2_with (at_builtin; refine Go.Lib.wpList_append_run _ rfl _ _ _ _ rfl _ _ rfl rfl _ _ hrun ?_)
      refine DA.mono ?_
      rintro e w4 ⟨rfl, hw4⟩
      subst w4
      clear DA hrun
      generalize atZ bs j = az at *
      by_cases hpar : az % 2 = 0
      · have htm : az.tmod 2 = 0 := by rw [Int.tmod_eq_emod_of_nonneg (by omega)]; exact hpar
        have hQ : (w3.alloc (.cells #[.int .u8 1, .int .u8 2, .int .u8 3, .int .u8 126] 5)).ownsRow w3.heap.size 5 1 (.slice (some ⟨w3.heap.size, 0, none⟩) 4 4) 4 (enc8 [1, 2, 3, 126]) := by
          have := World.ownsRow_lit (base := w3.heap.size) (e := 5) (size := 1) w3 #[.int .u8 1, .int .u8 2, .int .u8 3, .int .u8 126] 4 (Nat.le_refl _) (by unfold maxLen; omega) rfl
          simpa [enc8] using this
        have A4 := balloc w3 (.cells #[.int .u8 1, .int .u8 2, .int .u8 3, .int .u8 126] 5)
        have hrow2 := own_keep hrow A4
        have HB4 := HB3.trans (A4.mono HB3.size)
        obtain ⟨v5, w5, hrun, hrow5, hgrow, -⟩ := app_by hL3.out hrow2 (some ⟨w3.heap.size, 0, none⟩) 4 (Bys.own (c := 4) (n := 4) hQ rfl) (by simp; omega) HB4.size
        have HB5 : Below wL.heap.size wL w5 := HB4.grown hgrow HB4.size (fun x hx => own_from hrow2 (Nat.le_refl _) x hx)
        have e4 : ([1, 2, 3, 126] : List Int).length = 4 := rfl
        rw [e4] at hrun hrow5
        obtain ⟨g5, c5, rfl⟩ := row_some hrow5 (by omega)
        have hm9 : Hid (((xs ++ EL) ++ [1, 2, 3, 126]).length = M + 4 ∧ M + 4 ≤ 134 * (j + 1)) := hide ⟨by rw [List.length_append, hL3.out]; rfl, by omega⟩
        have hws : IntKind.i64.wrap (sp + 1) = sp + 1 := wrap_in _ (by omega) (by omega)
        clear hrow hrow2 hQ A4 HB4 HB3 hgrow hL3 hE1 hy1' hpar e4
        go_wp2_with (at_builtin; refine Go.Lib.wpList_append_run _ rfl _ _ _ _ rfl _ _ rfl rfl _ _ hrun ?_)
        go_roundw
        case rel => exact ⟨j + 1, _, sp + 1, _, _, _, by omega, by go_num, rfl, rfl, hm9, by omega, by push_cast; omega, hE2, hy2', hrow5, HB5⟩
        case measure => simp [intOf]; omega
      · have htm : az.tmod 2 = 1 := by rw [Int.tmod_eq_emod_of_nonneg (by omega)]; omega
        have hm9 : Hid ((xs ++ EL).length = M ∧ M ≤ 134 * (j + 1)) := hide ⟨hL3.out, by omega⟩
        clear hL3 hE2 hy2' hpar
        go_wp2
        go_roundw
        case rel => exact ⟨j + 1, _, sp, _, _, _, by omega, by go_num, rfl, rfl, hm9, sp0, by push_cast; omega, hE1, hy1', hrow, HB3⟩
        case measure => simp [intOf]; omega
    · have hjn : j = n := by omega
      subst j
      have hSV : scanV xs = (ts, sp) := by
        have h1 := hE.out []
        rw [List.append_nil, show ts.take n = ts by rw [← hn.out, List.take_length]] at h1
        unfold scanV
        rw [if_neg (by have := hm.out; omega), h1]
        exact takeP_nil _
      have hm1 := hm.out.1
      have CS := (cScanI g 0 c xs wr (Bys.own hown hm1) hyx.out (by have := hm.out; omega) (by have := own_cap hown; omega)).mono fun e w' h => h.open hSV
      rw [hm1] at CS
      clear hE hm hyx hSV hm1
      go_wp2_with fail
      refine CS.mono ?_
      rintro e w2 ⟨vG, csG, rfl, TG, hb2⟩
      have HL2 := hb.trans (hb2.mono hb.size)
      have hGo := TG.own
      have hGt := TG.len
      have hGe := hide TG.each
      have hTG := hide TG
      rw [hn.out] at hGo hGt
      obtain ⟨ga, gc, rfl⟩ := own_form hGo
      have hsq : Hid (ts.length = n) := hn
      clear CS TG hown hb hb2
      go_wp2
      generalize wr = wo at *
      go_loopw [9] (fun i wr => ∃ j : Nat, j ≤ n ∧ i = .int .i64 j ∧ Below w2.heap.size w2 wr) (fun i _ => n - (intOf i).toNat)
      case atStart => exact ⟨0, Nat.zero_le _, rfl, Below.refl _ _⟩
      case round =>
        obtain ⟨j, hj, rfl, hb⟩ := hrel
        by_cases hlt : j < n
        · have hjc : j < cs.length := by omega
          have hjg : j < csG.length := by omega
          have hjt : j < ts.length := by rw [hn.out]; exact hlt
          obtain ⟨lb, rfl⟩ := tab_some hLo (by omega)
          obtain ⟨gb, rfl⟩ := tab_some hGo (by omega)
          obtain ⟨t1, t2, t3⟩ := hTe.out j hjc
          obtain ⟨u1, u2, u3⟩ := hGe.out j hjg
          have HLr := HL2.trans (hb.mono HL2.size)
          obtain ⟨y0, y1, y2⟩ := flatC_get cs j hjc
          obtain ⟨z0, z1, z2⟩ := flatC_get csG j hjg
          have hl3 := flatC_len cs
          have hl4 := flatC_len csG
          have x0 := ble hb ((hGo.cellAt (j * 3) (by omega)).trans z0)
          have x1 := ble hb ((hGo.cellAt (j * 3 + 1) (by omega)).trans z1)
          have x2 := ble hb ((hGo.cellAt (j * 3 + 2) (by omega)).trans z2)
          have x3 := ble HLr ((hLo.cellAt (j * 3) (by omega)).trans y0)
          have x4 := ble HLr ((hLo.cellAt (j * 3 + 1) (by omega)).trans y1)
          have x5 := ble HLr ((hLo.cellAt (j * 3 + 2) (by omega)).trans y2)
          rw [u1] at x0
          rw [u2] at x1
          rw [t1] at x3
          rw [t2] at x4
          have hte : ts.getD j TelV.zero = ts[j] := by simp [List.getD, hjt]
          have hDj := hD.out _ (List.getElem_mem hjt)
          rw [← hte] at hDj
          obtain ⟨t, ht⟩ : ∃ t, t = ts.getD j TelV.zero := ⟨_, rfl⟩
          rw [← ht] at x0 x1 x3 x4 t3 u3 hDj
          have hby := hDj.by_
          obtain ⟨tq, tk, bd⟩ := t
          dsimp only at x0 x1 x3 x4 t3 u3 hby
          obtain ⟨dn, hdn⟩ : ∃ dn, bd.length = dn := ⟨_, rfl⟩
          rw [hdn] at t3 u3
          obtain ⟨a1, p1, e1⟩ := own_form u3
          obtain ⟨a2, p2, e2⟩ := own_form t3
          rw [e1] at x2 u3
          rw [e2] at x5 t3
          have hsb : Hid (sameB ⟨tq, tk, bd⟩ ⟨tq, tk, bd⟩ = true) := hide (sameB_self _)
          have CE0 : ∀ W, Below wr.heap.size wr W → Calls Try.prog 18 #[.agg #[.int .i64 tq, .int .i64 tk, .slice a1 dn p1], .agg #[.int .i64 tq, .int .i64 tk, .slice a2 dn p2]] W (fun e w' => e = .returned (.bool (sameB ⟨tq, tk, bd⟩ ⟨tq, tk, bd⟩)) ∧ Below W.heap.size W w') := fun W hW => cSameT _ _ dn dn tq tk tq tk _ _ bd bd W hdn hdn (own_keep (own_keep u3 hb) hW) (own_keep (own_keep t3 (Below.up HLr)) hW) hby hby
          have hk0 : (0 : Int) ≤ (j : Int) := by omega
          have hk1 : (j : Int) < (n : Int) := by omega
          clear y0 y1 y2 z0 z1 z2 t1 t2 t3 u1 u2 u3 hte ht hDj hl3 hl4 e1 e2 hby HLr
          replace hdn := hide hdn
          go_wp2_with fail
          refine wp_region_held_drew (S := (fun w' => w'.cell? ⟨gb, j * 3, none⟩ = some (.int .i64 tq) ∧ w'.cell? ⟨gb, j * 3 + 1, none⟩ = some (.int .i64 tk) ∧ w'.cell? ⟨gb, j * 3 + 2, none⟩ = some (.slice a1 dn p1) ∧ w'.cell? ⟨lb, j * 3, none⟩ = some (.int .i64 tq) ∧ w'.cell? ⟨lb, j * 3 + 1, none⟩ = some (.int .i64 tk) ∧ w'.cell? ⟨lb, j * 3 + 2, none⟩ = some (.slice a2 dn p2))) (by kernel_rfl) ?_ (fun hHeld => ?_)
          · exact ⟨x0, x1, x2, x3, x4, x5⟩
          have B0 : Below wr.heap.size wr wr.drew := (Below.refl _ _).drew
          have CE := CE0 wr.drew B0
          clear CE0
          generalize wr.drew = wd at *
          refine wpAnyH_take (i := 0) (v := .slice (some ⟨gb, 0, none⟩) n gc) rfl (by kernel_rfl) (by kernel_rfl) (by kernel_rfl) (fun _ _ _ h => h) (Or.inl ⟨by kernel_rfl, fun w hS => by go_simp⟩) hHeld ?_
          change wpAnyH _ _ _ _ _ _ _ { tmps := List.toArray (_ :: _ :: _ :: _ :: _ :: _ :: _ :: _ :: _ :: _ :: _ :: _ :: _ :: _ :: _ :: _ :: _ :: _ :: _ :: _ :: _ :: _ :: _ :: _ :: _ :: _ :: _ :: _ :: _ :: _ :: _ :: _ :: _ :: _ :: _ :: _ :: _ :: _ :: _ :: _ :: _ :: _ :: _ :: _ :: _ :: _ :: _ :: _ :: _ :: _ :: _ :: _ :: _ :: _ :: _ :: _ :: _ :: _ :: _ :: _ :: _ :: _ :: _ :: .slice (some ⟨gb, 0, none⟩) n gc :: _ :: _ :: _ :: _ :: _ :: _ :: _ :: _ :: _ :: _ :: _ :: _ :: _ :: _ :: _ :: _ :: _ :: _ :: _ :: _ :: _ :: _ :: _ :: _ :: _ :: _ :: _ :: []), defers := [] } _
          refine wpAnyH_take (i := 1) (v := .int .i64 (j : Int)) rfl (by kernel_rfl) (by kernel_rfl) (by kernel_rfl) (fun _ _ _ h => h) (Or.inl ⟨by kernel_rfl, fun w hS => by go_simp⟩) hHeld ?_
          change wpAnyH _ _ _ _ _ _ _ { tmps := List.toArray (_ :: _ :: _ :: _ :: _ :: _ :: _ :: _ :: _ :: _ :: _ :: _ :: _ :: _ :: _ :: _ :: _ :: _ :: _ :: _ :: _ :: _ :: _ :: _ :: _ :: _ :: _ :: _ :: _ :: _ :: _ :: _ :: _ :: _ :: _ :: _ :: _ :: _ :: _ :: _ :: _ :: _ :: _ :: _ :: _ :: _ :: _ :: _ :: _ :: _ :: _ :: _ :: _ :: _ :: _ :: _ :: _ :: _ :: _ :: _ :: _ :: _ :: _ :: .slice (some ⟨gb, 0, none⟩) n gc :: .int .i64 (j : Int) :: _ :: _ :: _ :: _ :: _ :: _ :: _ :: _ :: _ :: _ :: _ :: _ :: _ :: _ :: _ :: _ :: _ :: _ :: _ :: _ :: _ :: _ :: _ :: _ :: _ :: _ :: []), defers := [] } _
          refine wpAnyH_take (i := 2) (v := .pointer (some ⟨gb, j * 3, none⟩)) rfl (by kernel_rfl) (by kernel_rfl) (by kernel_rfl) (fun _ _ _ h => h) (Or.inl ⟨by kernel_rfl, fun w hS => by go_simp⟩) hHeld ?_
          change wpAnyH _ _ _ _ _ _ _ { tmps := List.toArray (_ :: _ :: _ :: _ :: _ :: _ :: _ :: _ :: _ :: _ :: _ :: _ :: _ :: _ :: _ :: _ :: _ :: _ :: _ :: _ :: _ :: _ :: _ :: _ :: _ :: _ :: _ :: _ :: _ :: _ :: _ :: _ :: _ :: _ :: _ :: _ :: _ :: _ :: _ :: _ :: _ :: _ :: _ :: _ :: _ :: _ :: _ :: _ :: _ :: _ :: _ :: _ :: _ :: _ :: _ :: _ :: _ :: _ :: _ :: _ :: _ :: _ :: _ :: .slice (some ⟨gb, 0, none⟩) n gc :: .int .i64 (j : Int) :: .pointer (some ⟨gb, j * 3, none⟩) :: _ :: _ :: _ :: _ :: _ :: _ :: _ :: _ :: _ :: _ :: _ :: _ :: _ :: _ :: _ :: _ :: _ :: _ :: _ :: _ :: _ :: _ :: _ :: _ :: _ :: []), defers := [] } _
          refine wpAnyH_take (i := 3) (v := .agg #[.int .i64 tq, .int .i64 tk, .slice a1 dn p1]) rfl (by kernel_rfl) (by kernel_rfl) (by kernel_rfl) (fun _ _ _ h => h) (Or.inl ⟨by kernel_rfl, fun w hS => by (obtain ⟨hS0, hS1, hS2, hS3, hS4, hS5⟩ := hS; go_simp)⟩) hHeld ?_
          change wpAnyH _ _ _ _ _ _ _ { tmps := List.toArray (_ :: _ :: _ :: _ :: _ :: _ :: _ :: _ :: _ :: _ :: _ :: _ :: _ :: _ :: _ :: _ :: _ :: _ :: _ :: _ :: _ :: _ :: _ :: _ :: _ :: _ :: _ :: _ :: _ :: _ :: _ :: _ :: _ :: _ :: _ :: _ :: _ :: _ :: _ :: _ :: _ :: _ :: _ :: _ :: _ :: _ :: _ :: _ :: _ :: _ :: _ :: _ :: _ :: _ :: _ :: _ :: _ :: _ :: _ :: _ :: _ :: _ :: _ :: .slice (some ⟨gb, 0, none⟩) n gc :: .int .i64 (j : Int) :: .pointer (some ⟨gb, j * 3, none⟩) :: .agg #[.int .i64 tq, .int .i64 tk, .slice a1 dn p1] :: _ :: _ :: _ :: _ :: _ :: _ :: _ :: _ :: _ :: _ :: _ :: _ :: _ :: _ :: _ :: _ :: _ :: _ :: _ :: _ :: _ :: _ :: _ :: _ :: []), defers := [] } _
          refine wpAnyH_take (i := 4) (v := .slice (some ⟨lb, 0, none⟩) n lc) rfl (by kernel_rfl) (by kernel_rfl) (by kernel_rfl) (fun _ _ _ h => h) (Or.inl ⟨by kernel_rfl, fun w hS => by go_simp⟩) hHeld ?_
          change wpAnyH _ _ _ _ _ _ _ { tmps := List.toArray (_ :: _ :: _ :: _ :: _ :: _ :: _ :: _ :: _ :: _ :: _ :: _ :: _ :: _ :: _ :: _ :: _ :: _ :: _ :: _ :: _ :: _ :: _ :: _ :: _ :: _ :: _ :: _ :: _ :: _ :: _ :: _ :: _ :: _ :: _ :: _ :: _ :: _ :: _ :: _ :: _ :: _ :: _ :: _ :: _ :: _ :: _ :: _ :: _ :: _ :: _ :: _ :: _ :: _ :: _ :: _ :: _ :: _ :: _ :: _ :: _ :: _ :: _ :: .slice (some ⟨gb, 0, none⟩) n gc :: .int .i64 (j : Int) :: .pointer (some ⟨gb, j * 3, none⟩) :: .agg #[.int .i64 tq, .int .i64 tk, .slice a1 dn p1] :: .slice (some ⟨lb, 0, none⟩) n lc :: _ :: _ :: _ :: _ :: _ :: _ :: _ :: _ :: _ :: _ :: _ :: _ :: _ :: _ :: _ :: _ :: _ :: _ :: _ :: _ :: _ :: _ :: _ :: []), defers := [] } _
          refine wpAnyH_take (i := 5) (v := .int .i64 (j : Int)) rfl (by kernel_rfl) (by kernel_rfl) (by kernel_rfl) (fun _ _ _ h => h) (Or.inl ⟨by kernel_rfl, fun w hS => by go_simp⟩) hHeld ?_
          change wpAnyH _ _ _ _ _ _ _ { tmps := List.toArray (_ :: _ :: _ :: _ :: _ :: _ :: _ :: _ :: _ :: _ :: _ :: _ :: _ :: _ :: _ :: _ :: _ :: _ :: _ :: _ :: _ :: _ :: _ :: _ :: _ :: _ :: _ :: _ :: _ :: _ :: _ :: _ :: _ :: _ :: _ :: _ :: _ :: _ :: _ :: _ :: _ :: _ :: _ :: _ :: _ :: _ :: _ :: _ :: _ :: _ :: _ :: _ :: _ :: _ :: _ :: _ :: _ :: _ :: _ :: _ :: _ :: _ :: _ :: .slice (some ⟨gb, 0, none⟩) n gc :: .int .i64 (j : Int) :: .pointer (some ⟨gb, j * 3, none⟩) :: .agg #[.int .i64 tq, .int .i64 tk, .slice a1 dn p1] :: .slice (some ⟨lb, 0, none⟩) n lc :: .int .i64 (j : Int) :: _ :: _ :: _ :: _ :: _ :: _ :: _ :: _ :: _ :: _ :: _ :: _ :: _ :: _ :: _ :: _ :: _ :: _ :: _ :: _ :: _ :: _ :: []), defers := [] } _
          refine wpAnyH_take (i := 6) (v := .pointer (some ⟨lb, j * 3, none⟩)) rfl (by kernel_rfl) (by kernel_rfl) (by kernel_rfl) (fun _ _ _ h => h) (Or.inl ⟨by kernel_rfl, fun w hS => by go_simp⟩) hHeld ?_
          change wpAnyH _ _ _ _ _ _ _ { tmps := List.toArray (_ :: _ :: _ :: _ :: _ :: _ :: _ :: _ :: _ :: _ :: _ :: _ :: _ :: _ :: _ :: _ :: _ :: _ :: _ :: _ :: _ :: _ :: _ :: _ :: _ :: _ :: _ :: _ :: _ :: _ :: _ :: _ :: _ :: _ :: _ :: _ :: _ :: _ :: _ :: _ :: _ :: _ :: _ :: _ :: _ :: _ :: _ :: _ :: _ :: _ :: _ :: _ :: _ :: _ :: _ :: _ :: _ :: _ :: _ :: _ :: _ :: _ :: _ :: .slice (some ⟨gb, 0, none⟩) n gc :: .int .i64 (j : Int) :: .pointer (some ⟨gb, j * 3, none⟩) :: .agg #[.int .i64 tq, .int .i64 tk, .slice a1 dn p1] :: .slice (some ⟨lb, 0, none⟩) n lc :: .int .i64 (j : Int) :: .pointer (some ⟨lb, j * 3, none⟩) :: _ :: _ :: _ :: _ :: _ :: _ :: _ :: _ :: _ :: _ :: _ :: _ :: _ :: _ :: _ :: _ :: _ :: _ :: _ :: _ :: _ :: []), defers := [] } _
          refine wpAnyH_take (i := 7) (v := .agg #[.int .i64 tq, .int .i64 tk, .slice a2 dn p2]) rfl (by kernel_rfl) (by kernel_rfl) (by kernel_rfl) (fun _ _ _ h => h) (Or.inl ⟨by kernel_rfl, fun w hS => by (obtain ⟨hS0, hS1, hS2, hS3, hS4, hS5⟩ := hS; go_simp)⟩) hHeld ?_
          change wpAnyH _ _ _ _ _ _ _ { tmps := List.toArray (_ :: _ :: _ :: _ :: _ :: _ :: _ :: _ :: _ :: _ :: _ :: _ :: _ :: _ :: _ :: _ :: _ :: _ :: _ :: _ :: _ :: _ :: _ :: _ :: _ :: _ :: _ :: _ :: _ :: _ :: _ :: _ :: _ :: _ :: _ :: _ :: _ :: _ :: _ :: _ :: _ :: _ :: _ :: _ :: _ :: _ :: _ :: _ :: _ :: _ :: _ :: _ :: _ :: _ :: _ :: _ :: _ :: _ :: _ :: _ :: _ :: _ :: _ :: .slice (some ⟨gb, 0, none⟩) n gc :: .int .i64 (j : Int) :: .pointer (some ⟨gb, j * 3, none⟩) :: .agg #[.int .i64 tq, .int .i64 tk, .slice a1 dn p1] :: .slice (some ⟨lb, 0, none⟩) n lc :: .int .i64 (j : Int) :: .pointer (some ⟨lb, j * 3, none⟩) :: .agg #[.int .i64 tq, .int .i64 tk, .slice a2 dn p2] :: _ :: _ :: _ :: _ :: _ :: _ :: _ :: _ :: _ :: _ :: _ :: _ :: _ :: _ :: _ :: _ :: _ :: _ :: _ :: _ :: []), defers := [] } _
          refine wpAnyH_ready (rs := [8]) (by kernel_rfl) (by simp) ?_
          refine (AllReadyH.cons rfl (fun KK hK => ?_) AllReadyH.nil)
          go_simp
          refine CE.mono ?_
          rintro e wp ⟨rfl, hbp⟩
          rw [hsb.out]
          have Bp := btrans B0 hbp
          go_wp2_with fail
          clear hHeld
          refine hK.out _ _ (⟨ble Bp x0, ble Bp x1, ble Bp x2, ble Bp x3, ble Bp x4, ble Bp x5⟩) (fun hHeld => ?_)
          clear hK KK
          change wpAnyH _ _ _ _ _ _ _ { tmps := List.toArray (_ :: _ :: _ :: _ :: _ :: _ :: _ :: _ :: _ :: _ :: _ :: _ :: _ :: _ :: _ :: _ :: _ :: _ :: _ :: _ :: _ :: _ :: _ :: _ :: _ :: _ :: _ :: _ :: _ :: _ :: _ :: _ :: _ :: _ :: _ :: _ :: _ :: _ :: _ :: _ :: _ :: _ :: _ :: _ :: _ :: _ :: _ :: _ :: _ :: _ :: _ :: _ :: _ :: _ :: _ :: _ :: _ :: _ :: _ :: _ :: _ :: _ :: _ :: .slice (some ⟨gb, 0, none⟩) n gc :: .int .i64 (j : Int) :: .pointer (some ⟨gb, j * 3, none⟩) :: .agg #[.int .i64 tq, .int .i64 tk, .slice a1 dn p1] :: .slice (some ⟨lb, 0, none⟩) n lc :: .int .i64 (j : Int) :: .pointer (some ⟨lb, j * 3, none⟩) :: .agg #[.int .i64 tq, .int .i64 tk, .slice a2 dn p2] :: .bool true :: _ :: _ :: _ :: _ :: _ :: _ :: _ :: _ :: _ :: _ :: _ :: _ :: _ :: _ :: _ :: _ :: _ :: _ :: _ :: []), defers := [] } _
          refine wpAnyH_take (i := 9) (v := .bool false) rfl (by kernel_rfl) (by kernel_rfl) (by kernel_rfl) (fun _ _ _ h => h) (Or.inl ⟨by kernel_rfl, fun w hS => by go_simp⟩) hHeld ?_
          change wpAnyH _ _ _ _ _ _ _ { tmps := List.toArray (_ :: _ :: _ :: _ :: _ :: _ :: _ :: _ :: _ :: _ :: _ :: _ :: _ :: _ :: _ :: _ :: _ :: _ :: _ :: _ :: _ :: _ :: _ :: _ :: _ :: _ :: _ :: _ :: _ :: _ :: _ :: _ :: _ :: _ :: _ :: _ :: _ :: _ :: _ :: _ :: _ :: _ :: _ :: _ :: _ :: _ :: _ :: _ :: _ :: _ :: _ :: _ :: _ :: _ :: _ :: _ :: _ :: _ :: _ :: _ :: _ :: _ :: _ :: .slice (some ⟨gb, 0, none⟩) n gc :: .int .i64 (j : Int) :: .pointer (some ⟨gb, j * 3, none⟩) :: .agg #[.int .i64 tq, .int .i64 tk, .slice a1 dn p1] :: .slice (some ⟨lb, 0, none⟩) n lc :: .int .i64 (j : Int) :: .pointer (some ⟨lb, j * 3, none⟩) :: .agg #[.int .i64 tq, .int .i64 tk, .slice a2 dn p2] :: .bool true :: .bool false :: _ :: _ :: _ :: _ :: _ :: _ :: _ :: _ :: _ :: _ :: _ :: _ :: _ :: _ :: _ :: _ :: _ :: _ :: []), defers := [] } _
          refine wpAnyH_done (by kernel_rfl) ?_ _
          clear hbp CE x0 x1 x2 x3 x4 x5
          have HB2 := btrans hb Bp
          go_wp2
          go_roundw
          case rel => exact ⟨j + 1, by omega, by go_num, HB2⟩
          case measure => simp [intOf]; omega
        · have hjn : j = n := by omega
          subst j
          have HLr := HL2.trans (hb.mono HL2.size)
          have TL : Tels wr la ts := (TabT.tels (B := w.heap.size) (c := lc) (cs := cs) (by rw [hn.out]; exact hTT.out)).below HLr
          have TG2 : Tels wr ga ts := (TabT.tels (c := gc) (cs := csG) (by rw [hn.out]; exact hTG.out)).below hb
          have C1 := cAxI ga gc ts wr TG2 hSm hY
          have C2 := fun W (hW : Below wr.heap.size wr W) => cAxS la lc ts W (TL.below hW) hSm hY
          rw [hn.out] at C1 C2
          unfold AnsAx at C1 C2
          generalize axA ts = P at *
          obtain ⟨A, O⟩ := P
          dsimp only at C1 C2
          clear TL TG2
          go_wp2_with fail
          refine C1.mono ?_
          rintro e w3 ⟨rfl, hb3⟩
          have D2 := C2 w3 hb3
          have HL3 := HLr.trans (hb3.mono HLr.size)
          clear C1 C2 HLr hb hb3
          go_wp2_with fail
          refine D2.mono ?_
          rintro e w4 ⟨rfl, hb4⟩
          have HL4 := HL3.trans (hb4.mono HL3.size)
          clear D2 hb4 HL3
          go_wp2
          go_ret
          exact ⟨rfl, HB0.trans (HL4.mono HB0.size)⟩
end Go.Proofs.Ytgnohomplehacaa
