/- The walk of the law on shunts one after the other. -/
import Derived.Test.YtipechbhhpagiaaSP
import Derived.Test.YtipechbhhpagiaaWO
namespace Go.Proofs.Ytipechbhhpagiaa
open Go.RowKit
theorem pl_small (room : List Int) (rows : List (List Int)) (l : List ShV) : (plR room rows l).length = rows.length ∧ sm (plR room rows l) (plR room rows l).length = sm rows rows.length ∧ (plC room rows l).length ≤ l.length := by
  by_cases h : okPl room rows l
  · obtain ⟨h1, h2⟩ := pl_yes h
    rw [h1, h2]
    exact ⟨playR_len, by rw [sm_flat, sm_flat]; exact playR_perm.length_eq, Nat.le_of_eq playC_len⟩
  · obtain ⟨h1, h2⟩ := pl_no h
    rw [h1, h2]
    exact ⟨rfl, rfl, by simp⟩
theorem fr_own {P : Nat → Prop} {w w' : World} {B e sz n : Nat} {v : Value} {xs : List Value} (f : Fr P w w') (h : w.ownsRow B e sz v n xs) (hn : ∀ k, v.ownBlock = some k → ¬ P k) : w'.ownsRow B e sz v n xs := by
  have hl := own_blk_lt h
  refine ⟨h.1, ?_⟩
  rcases h.2 with h2 | ⟨g, cap', cur, rfl, hg, hh, hr⟩
  · exact .inl h2
  · exact .inr ⟨g, cap', cur, rfl, hg, (f.block g (lt_of_block hh) (hn g (by simp [Value.ownBlock]))).trans hh, hr⟩
theorem own_blk_neS {B e n sz : Nat} {w : World} {u : Value} {xs : List Value} {g : Nat} {cs : Array Value} {t : TypeId} (h : w.ownsRow B e sz u n xs) (hg : w.heap[g]? = some (.cells cs t (0, 0))) (ht : t ≠ e) : ∀ k, u.ownBlock = some k → k ≠ g := by
  intro k hk e1
  subst e1
  rcases h.2 with ⟨rfl, _⟩ | ⟨g', cap', cur, rfl, _, hh, _⟩
  · simp [Value.ownBlock] at hk
  · simp [Value.ownBlock] at hk
    subst hk
    rw [hh] at hg
    simp only [Option.some.injEq, Obj.cells.injEq] at hg
    exact ht hg.2.1.symm
set_option maxRecDepth 20000 in
set_option maxHeartbeats 12800000 in
theorem walkPlayShunts (ra : Option Addr) (rc : Nat) (room : List Int) (a : Option Addr) (c : Nat) (us : List Value) (rows : List (List Int)) (la : Option Addr) (lc : Nat) (l : List ShV) (w : World) (hM : Ints w ra room) (nM : room.length ≤ maxLen) (hR : RowsW w a us rows) (nR : rows.length ≤ maxLen) (nr : ∀ i, i < rows.length → (rwA rows i).length ≤ maxLen) (hL : Shs w la l) (nL : l.length ≤ maxLen) :
    Calls Try.prog 7 #[.agg #[.slice ra room.length rc, .slice a rows.length c], .slice la l.length lc] w fun e w' => e = .returned (.bool true) ∧ Below w.heap.size w w' := by
  have hsmO := pl_small room rows l
  have CSp := fun ra rc a c us la lc w hM hR hL lM lR lr lL => cPlayS ra rc room a c us rows la lc l w hM hR hL lM lR lr lL
  have CIm := fun ra rc a c us la lc w hM hR hL lM lR lr lL => cPlayI ra rc room a c us rows la lc l w hM hR hL lM lR lr lL
  generalize plR room rows l = rows' at *
  generalize plC room rows l = cs at *
  have HB := balloc w (.cells #[.slice ra room.length rc, .slice a rows.length c] 48)
  have A0 := heap_alloc_new w (.cells #[.slice ra room.length rc, .slice a rows.length c] 48)
  go_enter Try.func7, Try.ntmps7
  go_wp2_with fail
  refine (cSzSid ra rc room a c us rows 1048576 _ (hR.below HB) (by omega) (by omega) nM nR nr).mono ?_
  rintro e w1 ⟨r, rfl, hrr, hb⟩
  replace HB := btrans HB hb
  replace A0 := blk_keep hb A0
  clear hb
  rcases hrr with rfl | ⟨r0, r1⟩
  · go_wp2
    go_ret
    exact ⟨rfl, HB⟩
  have hr5 : ¬ r < 0 := by omega
  have lM : room.length ≤ 1048576 := by omega
  have lR : rows.length ≤ 1048576 := by omega
  have hsm : sm rows rows.length ≤ 1048576 := by omega
  have hr9 : r ≤ 1048576 := by omega
  have lr : ∀ i, i < rows.length → (rwA rows i).length ≤ 1048576 := fun i hi => by have := sm_row hi; omega
  have hsm' : sm rows' rows'.length ≤ 1048576 := by rw [hsmO.2.1]; exact hsm
  have lR' : rows'.length ≤ 1048576 := by rw [hsmO.1]; exact lR
  have lr' : ∀ i, i < rows'.length → (rwA rows' i).length ≤ 1048576 := fun i hi => by have := sm_row hi; omega
  clear r1 nr
  go_wp2_with fail
  refine (cSzShs la _ lc r _ r0 hr9 nL).mono ?_
  rintro e w2 ⟨r2, rfl, hq, hw⟩
  subst w2
  rcases hq with rfl | ⟨hq, hq0⟩
  · go_wp2
    go_ret
    exact ⟨rfl, HB⟩
  have lL : l.length ≤ 1048576 := by omega
  have hq5 : ¬ r2 < 0 := by omega
  clear hq hr5 hr9 r0
  have lC : cs.length ≤ 1048576 := Nat.le_trans hsmO.2.2 lL
  clear hsmO
  have CT := fun w hM hR => cToSid ra rc room a c us rows w hM hR lM lR lr
  have CL := fun w hL => cToShs la lc l w hL lL
  have CS := fun ra rc a c us la lc w hM hR hL => CSp ra rc a c us la lc w hM hR hL lM lR lr lL
  have CI := fun ra rc a c us la lc w hM hR hL => CIm ra rc a c us la lc w hM hR hL lM lR lr lL
  clear CSp CIm
  obtain ⟨⟨x0, x1⟩, -⟩ := blk2 A0
  go_wp2_with fail
  refine (CT _ (hM.below HB) (hR.below HB)).mono ?_
  rintro e w2 ⟨g0, T0, vs0, rfl, S0, hb⟩
  replace HB := btrans HB hb
  replace A0 := blk_keep hb A0
  clear hb
  clear x0 x1
  go_wp2_with fail
  refine (CL _ (hL.below HB)).mono ?_
  rintro e w3 ⟨gl0, rfl, OL0, hgl0, hb⟩
  clear hgl0
  replace HB := btrans HB hb
  replace A0 := blk_keep hb A0
  replace S0 := S0.below hb
  clear hb
  obtain ⟨ra1, rc1, a1, c1, e1, e2, I1, R1, -⟩ := S0.arg
  have C9 := CS ra1 rc1 a1 c1 _ _ l.length _ I1 R1 (Shs.of_owns OL0)
  rw [← e1, ← e2] at C9
  clear e1 e2 I1 R1
  go_wp2_with fail
  refine C9.mono ?_
  rintro e w4 ⟨rvW, vW, vsW, cvW, rfl, SW, OW, farW, hb⟩
  clear C9
  replace HB := btrans HB hb
  replace A0 := blk_keep hb A0
  replace S0 := S0.below hb
  replace OL0 := own_keep OL0 hb
  clear hb
  clear S0 OL0
  clear farW
  obtain ⟨raW, rcW, aW, cW, rfl, rfl, -⟩ := SW.arg
  obtain ⟨caW, ccW, hcv⟩ := own_form OW
  subst hcv
  have KW := heap_alloc_new w4 (.cells #[.slice raW room.length rcW, .slice aW rows'.length cW] 27)
  have hb := balloc w4 (.cells #[.slice raW room.length rcW, .slice aW rows'.length cW] 27)
  replace HB := btrans HB hb
  replace A0 := blk_keep hb A0
  replace SW := SW.below hb
  replace OW := own_keep OW hb
  clear hb
  have hWlt := fun k hk => (SW.blk k hk).2
  have hCWlt := own_blk_lt OW
  have hw0 := HB.size
  go_upto_region 9 with fail
  generalize (w4.alloc (.cells #[.slice raW room.length rcW, .slice aW rows'.length cW] 27)) = wW at *
  generalize hnW : wW.heap.size = nW at *
  obtain ⟨⟨x0, x1⟩, -⟩ := blk2 A0
  go_wp2_with fail
  refine (CT _ (hM.below HB) (hR.below HB)).mono ?_
  rintro e w5 ⟨g1, T1, vs1, rfl, S1, hb⟩
  have hnx0 := hb.size
  replace HB := btrans HB hb
  replace A0 := blk_keep hb A0
  replace KW := blk_keep hb KW
  replace SW := SW.below hb
  replace OW := own_keep OW hb
  clear hb
  clear x0 x1
  rw [hnW] at S1 hnx0
  have X0 := heap_alloc_new w5 (.cells #[.slice (some ⟨g1, 0, none⟩) room.length room.length, .slice (some ⟨T1, 0, none⟩) rows.length rows.length] 27)
  have hb := balloc w5 (.cells #[.slice (some ⟨g1, 0, none⟩) room.length room.length, .slice (some ⟨T1, 0, none⟩) rows.length rows.length] 27)
  replace HB := btrans HB hb
  replace A0 := blk_keep hb A0
  replace KW := blk_keep hb KW
  replace SW := SW.below hb
  replace S1 := S1.below hb
  replace OW := own_keep OW hb
  clear hb
  have hXb := fun k hk => (S1.blk k hk)
  have hnx1 : w5.heap.size ≤ (w5.alloc (.cells #[.slice (some ⟨g1, 0, none⟩) room.length room.length, .slice (some ⟨T1, 0, none⟩) rows.length rows.length] 27)).heap.size := by rw [sz1]; omega
  generalize hxB : w5.heap.size = xB at *
  go_upto_region 10 with fail
  generalize w5.alloc (.cells #[.slice (some ⟨g1, 0, none⟩) room.length room.length, .slice (some ⟨T1, 0, none⟩) rows.length rows.length] 27) = wx at *
  go_wp2_with fail
  refine (CL _ (hL.below HB)).mono ?_
  rintro e w6 ⟨gL, rfl, OL1, hgL, hb⟩
  have hnl := hb.size
  have hgLx : wx.heap.size ≤ gL := by omega
  replace hgL := hide hgL
  replace HB := btrans HB hb
  replace A0 := blk_keep hb A0
  replace KW := blk_keep hb KW
  replace X0 := blk_keep hb X0
  replace SW := SW.below hb
  replace S1 := S1.below hb
  replace OW := own_keep OW hb
  clear hb
  have hgLl : gL < w6.heap.size := owns_lt OL1
  obtain ⟨⟨x0, x1⟩, -⟩ := blk2 X0
  obtain ⟨ra1, rc1, a1, c1, e1, e2, I1, R1, -⟩ := S1.arg
  have C9 := CI ra1 rc1 a1 c1 _ _ l.length _ I1 R1 (Shs.of_owns OL1)
  rw [← e1, ← e2] at C9
  clear e1 e2 I1 R1
  go_wp2_with fail
  refine C9.mono ?_
  rintro e w7 ⟨rvG, vG, vsG, cvG, rfl, SG, OG, farG, hb⟩
  clear C9
  replace HB := btrans HB hb
  replace A0 := blk_keep hb A0
  replace KW := blk_keep hb KW
  replace X0 := blk_keep hb X0
  replace SW := SW.below hb
  replace S1 := S1.below hb
  replace OW := own_keep OW hb
  replace OL1 := own_keep OL1 hb
  clear hb
  clear x0 x1
  have hGlo := fun k hk => (SG.blk k hk).1
  have hCGlo := own_from OG (Nat.le_refl _)
  obtain ⟨raG, rcG, aG, cG, rfl, rfl, -⟩ := SG.arg
  obtain ⟨caG, ccG, hcv⟩ := own_form OG
  subst hcv
  have KG := heap_alloc_new w7 (.cells #[.slice raG room.length rcG, .slice aG rows'.length cG] 27)
  have hb := balloc w7 (.cells #[.slice raG room.length rcG, .slice aG rows'.length cG] 27)
  replace HB := btrans HB hb
  replace A0 := blk_keep hb A0
  replace KW := blk_keep hb KW
  replace X0 := blk_keep hb X0
  replace SW := SW.below hb
  replace S1 := S1.below hb
  replace SG := SG.below hb
  replace OW := own_keep OW hb
  replace OL1 := own_keep OL1 hb
  replace OG := own_keep OG hb
  clear hb
  generalize hnL : w6.heap.size = nLL at *
  obtain ⟨⟨kg0, kg1⟩, -⟩ := blk2 KG
  obtain ⟨⟨kw0, kw1⟩, -⟩ := blk2 KW
  go_wp2_with fail
  refine (cEqSid _ _ _ _ _ _ _ _ room rows' _ SG SW lM lR' lr').mono ?_
  rintro e w8 ⟨rfl, hb⟩
  replace HB := btrans HB hb
  replace A0 := blk_keep hb A0
  replace KW := blk_keep hb KW
  replace X0 := blk_keep hb X0
  replace KG := blk_keep hb KG
  replace SW := SW.below hb
  replace S1 := S1.below hb
  replace SG := SG.below hb
  replace OW := own_keep OW hb
  replace OL1 := own_keep OL1 hb
  replace OG := own_keep OG hb
  clear hb
  clear kg0 kg1 kw0 kw1
  go_wp2_with fail
  refine (cEqInts _ _ _ _ cs _ (Ints.own OG rfl) (Ints.own OW rfl) (by unfold maxLen; omega)).mono ?_
  rintro e w9 ⟨rfl, hb⟩
  replace HB := btrans HB hb
  replace A0 := blk_keep hb A0
  replace KW := blk_keep hb KW
  replace X0 := blk_keep hb X0
  replace KG := blk_keep hb KG
  replace SW := SW.below hb
  replace S1 := S1.below hb
  replace SG := SG.below hb
  replace OW := own_keep OW hb
  replace OL1 := own_keep OL1 hb
  replace OG := own_keep OG hb
  clear hb
  go_wp2_with fail
  obtain ⟨⟨x0, x1⟩, -⟩ := blk2 A0
  obtain ⟨⟨y0, y1⟩, -⟩ := blk2 X0
  have hMd : Ints w9.drew ra room := (hM.below HB).below (bdraw (Below.refl _ _) 1)
  have hRd : RowsW w9.drew a us rows := (hR.below HB).below (bdraw (Below.refl _ _) 1)
  have CTd := CT w9.drew hMd hRd
  clear hMd hRd
  go_region_held3 (fun w' => w'.cell? ⟨w.heap.size, 0, none⟩ = some (.slice ra room.length rc) ∧ w'.cell? ⟨w.heap.size, 1, none⟩ = some (.slice a rows.length c) ∧ w'.cell? ⟨xB, 0, none⟩ = some (.slice (some ⟨g1, 0, none⟩) room.length room.length) ∧ w'.cell? ⟨xB, 1, none⟩ = some (.slice (some ⟨T1, 0, none⟩) rows.length rows.length)) (go_keep) (first
    | (go_at_call 30; with_reducible refine CTd.mono ?_; rintro e wa ⟨g2, T2, vs2, rfl, S2, hba⟩; have Ba := undrew hba; have i0 := ble Ba x0; have i1 := ble Ba x1; have i2 := ble Ba y0; have i3 := ble Ba y1; have S1a := S1.below Ba)
    | (go_at_call 31; with_reducible refine (cEqSid _ _ _ _ _ _ _ _ room rows _ S1a S2 lM lR lr).mono ?_; rintro e wb ⟨rfl, hbb⟩; have Bb := btrans Ba hbb; have j0 := ble Bb x0; have j1 := ble Bb x1; have j2 := ble Bb y0; have j3 := ble Bb y1))
  clear CTd S1a S2 hba hbb Ba x0 x1 y0 y1 i0 i1 i2 i3 j0 j1 j2 j3
  replace HB := btrans HB Bb
  replace A0 := blk_keep Bb A0
  replace KW := blk_keep Bb KW
  replace X0 := blk_keep Bb X0
  replace KG := blk_keep Bb KG
  replace SW := SW.below Bb
  replace S1 := S1.below Bb
  replace SG := SG.below Bb
  replace OW := own_keep OW Bb
  replace OL1 := own_keep OL1 Bb
  replace OG := own_keep OG Bb
  clear Bb
  go_wp2_with fail
  refine (CL _ (hL.below HB)).mono ?_
  rintro e w10 ⟨gl5, rfl, OL5, hgl5, hb⟩
  clear hgl5
  replace HB := btrans HB hb
  replace A0 := blk_keep hb A0
  replace KW := blk_keep hb KW
  replace X0 := blk_keep hb X0
  replace KG := blk_keep hb KG
  replace SW := SW.below hb
  replace S1 := S1.below hb
  replace SG := SG.below hb
  replace OW := own_keep OW hb
  replace OL1 := own_keep OL1 hb
  replace OG := own_keep OG hb
  clear hb
  go_wp2_with fail
  refine (cEqShs _ _ _ _ l _ (Shs.of_owns OL1) (Shs.of_owns OL5) lL).mono ?_
  rintro e w11 ⟨rfl, hb⟩
  clear OL5
  replace HB := btrans HB hb
  replace A0 := blk_keep hb A0
  replace KW := blk_keep hb KW
  replace X0 := blk_keep hb X0
  replace KG := blk_keep hb KG
  replace SW := SW.below hb
  replace S1 := S1.below hb
  replace SG := SG.below hb
  replace OW := own_keep OW hb
  replace OL1 := own_keep OL1 hb
  replace OG := own_keep OG hb
  clear hb
  obtain ⟨⟨x0, x1⟩, -⟩ := blk2 X0
  go_wp2_with fail
  have S10 := S1
  refine (cMarkSid _ _ _ _ room rows 1 _ S1 lM lR hsm (by omega) (by omega)).mono ?_
  rintro e w12 ⟨rfl, -, F⟩
  clear x0 x1 S1
  obtain ⟨K2, hK2⟩ : ∃ K2, (1 : Int) + room.length + sm rows rows.length = K2 := ⟨_, rfl⟩
  rw [hK2]
  have hK20 : 0 ≤ K2 := by omega
  have hK21 : K2 ≤ 3000000 := by omega
  clear hK2
  replace HB := F.to_below HB HB.size (fun k hk => by have := hXb k hk; omega)
  replace A0 := F.blk A0 (S10.ne A0 (by decide) (by decide))
  replace KW := F.blk KW (S10.ne KW (by decide) (by decide))
  replace X0 := F.blk X0 (S10.ne X0 (by decide) (by decide))
  replace KG := F.blk KG (S10.ne KG (by decide) (by decide))
  replace SW := SW.fr F (fun k hk hp => by have := hWlt k hk; have := hXb k hp; omega)
  replace SG := SG.fr F (fun k hk hp => by have := hGlo k hk; have := hXb k hp; omega)
  replace OW := fr_own F OW (fun k hk hp => by have := hCWlt k hk; have := hXb k hp; omega)
  replace OG := fr_own F OG (fun k hk hp => by have := hCGlo k hk; have := hXb k hp; omega)
  replace OL1 := fr_own F OL1 (fun k hk hp => by simp [Value.ownBlock] at hk; have := hXb k hp; omega)
  clear F S10
  go_wp2_with fail
  have OL0 := OL1
  refine (cMarkShsg _ gL _ l K2 _ OL1 lL (by omega) (by omega)).mono ?_
  rintro e w13 ⟨rfl, -, hg⟩
  clear OL1
  replace HB := HB.grown hg HB.size (fun j e => by simp at e; omega)
  replace A0 := (hg.block _ (lt_of_block A0) (fun e => own_blk_neS OL0 A0 (by decide) _ e.symm rfl)).trans A0
  replace KW := (hg.block _ (lt_of_block KW) (fun e => own_blk_neS OL0 KW (by decide) _ e.symm rfl)).trans KW
  replace X0 := (hg.block _ (lt_of_block X0) (fun e => own_blk_neS OL0 X0 (by decide) _ e.symm rfl)).trans X0
  replace KG := (hg.block _ (lt_of_block KG) (fun e => own_blk_neS OL0 KG (by decide) _ e.symm rfl)).trans KG
  replace SW := SW.keep (fun k hk => hg.block k (SW.blk k hk).2 (fun e => by have := hWlt k hk; simp at e; omega))
  replace SG := SG.keep (fun k hk => hg.block k (SG.blk k hk).2 (fun e => by have := hGlo k hk; simp at e; omega))
  replace OW := own_far OW hg (fun k hk e => by have := hCWlt k hk; simp at e; omega)
  replace OG := own_far OG hg (fun k hk e => by have := hCGlo k hk; simp at e; omega)
  clear hg OL0
  have hk9 : ¬ (K2 + 3 * (l.length : Int) < 0) := by omega
  obtain ⟨⟨kg0, kg1⟩, -⟩ := blk2 KG
  obtain ⟨⟨kw0, kw1⟩, -⟩ := blk2 KW
  go_wp2_with fail
  refine (cEqSid _ _ _ _ _ _ _ _ room rows' _ SG SW lM lR' lr').mono ?_
  rintro e w14 ⟨rfl, hb⟩
  replace HB := btrans HB hb
  replace A0 := blk_keep hb A0
  replace KW := blk_keep hb KW
  replace X0 := blk_keep hb X0
  replace KG := blk_keep hb KG
  replace SW := SW.below hb
  replace SG := SG.below hb
  replace OW := own_keep OW hb
  replace OG := own_keep OG hb
  clear hb
  clear kg0 kg1 kw0 kw1
  go_wp2_with fail
  refine (cEqInts _ _ _ _ cs _ (Ints.own OG rfl) (Ints.own OW rfl) (by unfold maxLen; omega)).mono ?_
  rintro e w15 ⟨rfl, hb⟩
  replace HB := btrans HB hb
  replace A0 := blk_keep hb A0
  replace KW := blk_keep hb KW
  replace X0 := blk_keep hb X0
  replace KG := blk_keep hb KG
  replace SW := SW.below hb
  replace SG := SG.below hb
  replace OW := own_keep OW hb
  replace OG := own_keep OG hb
  clear hb
  obtain ⟨⟨x0, x1⟩, -⟩ := blk2 KG
  go_wp2_with fail
  have SG0 := SG
  refine (cMarkSid _ _ _ _ room rows' 1 _ SG lM lR' hsm' (by omega) (by omega)).mono ?_
  rintro e w16 ⟨rfl, QG, F⟩
  clear x0 x1 SG
  have CHd := fun w9 h => cHeldSid nLL (.slice raG room.length rcG) (.slice aG rows'.length cG) vsG room.length rows' 1 w9 h lM lR' hsm' (by omega) (by omega)
  obtain ⟨K1, hK1⟩ : ∃ K1, (1 : Int) + room.length + sm rows' rows'.length = K1 := ⟨_, rfl⟩
  rw [hK1]
  rw [hK1] at CHd
  have hK10 : 0 ≤ K1 := by omega
  have hK11 : K1 ≤ 3000000 := by omega
  clear hK1
  replace HB := F.to_below HB HB.size (fun k hk => by have := hGlo k hk; omega)
  replace A0 := F.blk A0 (SG0.ne A0 (by decide) (by decide))
  replace KW := F.blk KW (SG0.ne KW (by decide) (by decide))
  replace X0 := F.blk X0 (SG0.ne X0 (by decide) (by decide))
  replace KG := F.blk KG (SG0.ne KG (by decide) (by decide))
  replace SW := SW.fr F (fun k hk hp => by have := hWlt k hk; have := hGlo k hp; omega)
  replace OW := fr_own F OW (fun k hk hp => by have := hCWlt k hk; have := hGlo k hp; omega)
  replace OG := fr_own F OG (fun k hk hp => farG k hk hp)
  clear F SG0
  go_wp2_with fail
  have OG0 := OG
  refine (cMarkInts _ cs.length _ cs K1 _ rfl OG lC (by omega) (by omega)).mono ?_
  rintro e w17 ⟨rfl, QC, hg⟩
  clear OG
  replace HB := HB.grown hg HB.size (fun j e => by have := hCGlo j e; omega)
  replace A0 := (hg.block _ (lt_of_block A0) (fun e => own_blk_ne OG0 A0 (by decide) _ e.symm rfl)).trans A0
  replace KW := (hg.block _ (lt_of_block KW) (fun e => own_blk_ne OG0 KW (by decide) _ e.symm rfl)).trans KW
  replace X0 := (hg.block _ (lt_of_block X0) (fun e => own_blk_ne OG0 X0 (by decide) _ e.symm rfl)).trans X0
  replace KG := (hg.block _ (lt_of_block KG) (fun e => own_blk_ne OG0 KG (by decide) _ e.symm rfl)).trans KG
  replace SW := SW.keep (fun k hk => hg.block k (SW.blk k hk).2 (fun e => by have := hWlt k hk; have := hCGlo k e.symm; omega))
  replace QG := QG.keep (fun k hk => hg.block k (QG.blk k hk).2 (fun e => farG k e.symm hk))
  replace OW := own_far OW hg (fun k hk e => by have := hCWlt k hk; have := hCGlo k e.symm; omega)
  clear hg OG0
  have hq9 : ¬ (K1 < 0) := by omega
  have hq8 : ¬ (K1 + (cs.length : Int) < 0) := by omega
  obtain ⟨⟨x0, x1⟩, -⟩ := blk2 KG
  go_wp2_with fail
  refine (CHd _ QG).mono ?_
  rintro e w18 ⟨rfl, hb⟩
  replace HB := btrans HB hb
  replace A0 := blk_keep hb A0
  replace KW := blk_keep hb KW
  replace X0 := blk_keep hb X0
  replace KG := blk_keep hb KG
  replace SW := SW.below hb
  replace QG := QG.below hb
  replace OW := own_keep OW hb
  replace QC := own_keep QC hb
  clear hb
  clear x0 x1
  go_wp2_with fail
  refine (cHeldInts _ cs.length _ K1 _ QC lC (by omega) (by omega)).mono ?_
  rintro e w19 ⟨rfl, hw⟩
  subst w19
  obtain ⟨⟨x0, x1⟩, -⟩ := blk2 A0
  go_wp2_with fail
  refine (CT _ (hM.below HB) (hR.below HB)).mono ?_
  rintro e w19 ⟨g3, T3, vs3, rfl, S3, hb⟩
  replace HB := btrans HB hb
  replace A0 := blk_keep hb A0
  replace KW := blk_keep hb KW
  replace X0 := blk_keep hb X0
  replace KG := blk_keep hb KG
  replace SW := SW.below hb
  replace QG := QG.below hb
  replace OW := own_keep OW hb
  replace QC := own_keep QC hb
  clear hb
  clear x0 x1
  go_wp2_with fail
  refine (CL _ (hL.below HB)).mono ?_
  rintro e w20 ⟨gl3, rfl, OL3, hgl3, hb⟩
  clear hgl3
  replace HB := btrans HB hb
  replace A0 := blk_keep hb A0
  replace KW := blk_keep hb KW
  replace X0 := blk_keep hb X0
  replace KG := blk_keep hb KG
  replace SW := SW.below hb
  replace QG := QG.below hb
  replace S3 := S3.below hb
  replace OW := own_keep OW hb
  replace QC := own_keep QC hb
  clear hb
  obtain ⟨ra1, rc1, a1, c1, e1, e2, I1, R1, -⟩ := S3.arg
  have C9 := CI ra1 rc1 a1 c1 _ _ l.length _ I1 R1 (Shs.of_owns OL3)
  rw [← e1, ← e2] at C9
  clear e1 e2 I1 R1
  go_wp2_with fail
  refine C9.mono ?_
  rintro e w21 ⟨rvH, vH, vsH, cvH, rfl, SH, OH, farH, hb⟩
  clear C9
  replace HB := btrans HB hb
  replace A0 := blk_keep hb A0
  replace KW := blk_keep hb KW
  replace X0 := blk_keep hb X0
  replace KG := blk_keep hb KG
  replace SW := SW.below hb
  replace QG := QG.below hb
  replace S3 := S3.below hb
  replace OW := own_keep OW hb
  replace QC := own_keep QC hb
  replace OL3 := own_keep OL3 hb
  clear hb
  clear S3 OL3 farH
  obtain ⟨raH, rcH, aH, cH, rfl, rfl, -⟩ := SH.arg
  obtain ⟨caH, ccH, hcv⟩ := own_form OH
  subst hcv
  have KH := heap_alloc_new w21 (.cells #[.slice raH room.length rcH, .slice aH rows'.length cH] 27)
  have hb := balloc w21 (.cells #[.slice raH room.length rcH, .slice aH rows'.length cH] 27)
  replace HB := btrans HB hb
  replace A0 := blk_keep hb A0
  replace KW := blk_keep hb KW
  replace X0 := blk_keep hb X0
  replace KG := blk_keep hb KG
  replace SW := SW.below hb
  replace QG := QG.below hb
  replace SH := SH.below hb
  replace OW := own_keep OW hb
  replace QC := own_keep QC hb
  replace OH := own_keep OH hb
  clear hb
  obtain ⟨⟨kh0, kh1⟩, -⟩ := blk2 KH
  obtain ⟨⟨kw0, kw1⟩, -⟩ := blk2 KW
  go_wp2_with fail
  refine (cEqSid _ _ _ _ _ _ _ _ room rows' _ SH SW lM lR' lr').mono ?_
  rintro e w22 ⟨rfl, hb⟩
  replace HB := btrans HB hb
  replace A0 := blk_keep hb A0
  replace KW := blk_keep hb KW
  replace X0 := blk_keep hb X0
  replace KG := blk_keep hb KG
  replace KH := blk_keep hb KH
  replace SW := SW.below hb
  replace QG := QG.below hb
  replace SH := SH.below hb
  replace OW := own_keep OW hb
  replace QC := own_keep QC hb
  replace OH := own_keep OH hb
  clear hb
  clear kh0 kh1 kw0 kw1
  go_wp2_with fail
  refine (cEqInts _ _ _ _ cs _ (Ints.own OH rfl) (Ints.own OW rfl) (by unfold maxLen; omega)).mono ?_
  rintro e w23 ⟨rfl, hb⟩
  replace HB := btrans HB hb
  replace A0 := blk_keep hb A0
  replace KW := blk_keep hb KW
  replace X0 := blk_keep hb X0
  replace KG := blk_keep hb KG
  replace KH := blk_keep hb KH
  replace SW := SW.below hb
  replace QG := QG.below hb
  replace SH := SH.below hb
  replace OW := own_keep OW hb
  replace QC := own_keep QC hb
  replace OH := own_keep OH hb
  clear hb
  obtain ⟨⟨x0, x1⟩, -⟩ := blk2 KG
  go_wp2_with fail
  refine (CHd _ QG).mono ?_
  rintro e w24 ⟨rfl, hb⟩
  replace HB := btrans HB hb
  replace A0 := blk_keep hb A0
  replace KW := blk_keep hb KW
  replace X0 := blk_keep hb X0
  replace KG := blk_keep hb KG
  replace KH := blk_keep hb KH
  replace SW := SW.below hb
  replace QG := QG.below hb
  replace SH := SH.below hb
  replace OW := own_keep OW hb
  replace QC := own_keep QC hb
  replace OH := own_keep OH hb
  clear hb
  clear x0 x1
  go_wp2_with fail
  refine (cHeldInts _ cs.length _ K1 _ QC lC (by omega) (by omega)).mono ?_
  rintro e w25 ⟨rfl, hw⟩
  subst w25
  go_wp2
  go_ret
  exact ⟨rfl, HB⟩
end Go.Proofs.Ytipechbhhpagiaa
