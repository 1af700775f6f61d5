/- The program's search goes on from a stretch. -/
import Derived.Test.YtajeiiebddnchaaGreatDoorSF
namespace Go.Proofs.YtajeiiebddnchaaGreatDoor
open Go.RowKit Go.Maps

set_option maxRecDepth 20000 in
set_option maxHeartbeats 3200000 in
theorem cGoOn (a : Option Addr) (cap : Nat) (ts : List TripV) (w0 : World) (bs bm : Nat) (v : Value) (ch : Int) (bks : List Nat) (R : List Rec) (D : DataW Unit) (j : Nat) (w : World) (hz : Trips w0 a ts) (hg : Gd ts)
    (hb0 : Below w0.heap.size w0 w) (hS : Stt w bs bm w0.heap.size (.slice a ts.length cap) ch v bks R D) (hj : j < R.length) (hc0 : 0 ≤ ch) (hc1 : ch ≤ 60)
    (hm0 : 0 ≤ (R.getD j Rec.zero).m) (hm1 : (R.getD j Rec.zero).m ≤ 1000000) (hlv : (R.getD j Rec.zero).lv ≤ 8) (hfew : (goF ts ch R j).length ≤ 900) :
    Calls Tryz.prog 54 #[.pointer (some ⟨bs, 0, none⟩), .pointer (some ⟨bks.getD j 0, 0, none⟩), .int .i64 ((R.getD j Rec.zero).lv + 1 : Nat)] w (GoPost w0 bs bm (.slice a ts.length cap) ch bks (goF ts ch R j)) := by
  have CR := fun w' (hb : Below w.heap.size w w') => cReady bs bm w0.heap.size (.slice a ts.length cap) v ch bks R D j w' (hS.below hb) hj hm0 hm1 hc0 hc1
  have hbl := hide hS.len
  have hgj := hS.st j hj
  obtain ⟨-, -, -, y3, -, -⟩ := six_cells (by unfold recCells at hgj; exact hgj)
  have hgl := lt_of_block hgj
  have h0 : Below w.heap.size w w.drew := (Below.refl _ _).drew
  have hE : Hid (goF ts ch R j = addF ts ((R.getD j Rec.zero).lv + 1) j (R.getD j Rec.zero).pa R (legsF ts (depsOf ts (wantB (R.getD j Rec.zero).n (rdyF ch j (R.getD j Rec.zero)))))) := rfl
  generalize hN : goF ts ch R j = G at *
  replace hN := hide hN
  generalize rdyF ch j (R.getD j Rec.zero) = rd at *
  generalize hn : (R.getD j Rec.zero).n = n at *
  replace hn := hide hn
  generalize hlvv : (R.getD j Rec.zero).lv = lv at *
  replace hlvv := hide hlvv
  generalize hgg : bks.getD j 0 = g at *
  replace hgg := hide hgg
  go_enter Tryz.func54, Tryz.ntmps54
  go_wp2_with fail
  go_cut [6, 7] from 22 to 72 (fun sv cv wc => GotNR w n rd sv cv wc)
  case first =>
    have d1 := fun (w1 : World) (o1 : Obj) (h : Below (w.alloc o1).drew.heap.size (w.alloc o1).drew w1) => keep_blk h (one_block w o1)
    have d2 := fun (w1 : World) (o1 o2 : Obj) (h : Below ((w.alloc o1).alloc o2).drew.heap.size ((w.alloc o1).alloc o2).drew w1) => keep_blk h (two_blocks w o1 o2).1
    have d3 := fun (w1 : World) (o1 o2 : Obj) (h : Below ((w.alloc o1).alloc o2).drew.heap.size ((w.alloc o1).alloc o2).drew w1) => keep_blk h (two_blocks w o1 o2).2
    go_region_with (go_at_call 66; first
      | (with_reducible refine (CR _ h0).mono ?_; rintro e w1 ⟨rfl, hb1⟩; have hB1 := btrans h0 hb1; have y3b := ble hB1 y3; have hg1 := cell_lt y3b)
      | (with_reducible refine (CR _ (balloc _ _).drew).mono ?_; rintro e w1 ⟨rfl, hb1⟩; have hB1 := btrans (balloc _ _).drew hb1; have y3b := ble hB1 y3; have hg1 := cell_lt y3b; have K1 := d1 _ _ hb1; have k1 := cell_of_blk (i := 0) K1 rfl; have f1 := frozen_of_blk (i := 0) K1; have z1 := lt_of_block K1)
      | (with_reducible refine (CR _ (btrans (balloc _ _) (balloc _ _)).drew).mono ?_; rintro e w1 ⟨rfl, hb1⟩; have hB1 := btrans (btrans (balloc _ _) (balloc _ _)).drew hb1; have y3b := ble hB1 y3; have hg1 := cell_lt y3b; have K1 := d2 _ _ _ hb1; have k1 := cell_of_blk (i := 0) K1 rfl; have f1 := frozen_of_blk (i := 0) K1; have z1 := lt_of_block K1; have K2 := d3 _ _ _ hb1; have k2 := cell_of_blk (i := 0) K2 rfl; have f2 := frozen_of_blk (i := 0) K2; have z2 := lt_of_block K2))
    all_goals go_wp2_with fail
    all_goals go_meet
    all_goals first
      | (with_reducible exact gA hB1 _ _)
      | (with_reducible exact gB hB1 _ _)
      | (with_reducible exact gC hB1 K1 _ _)
      | (with_reducible exact gE hB1 K1 _ _)
      | (with_reducible exact gD hB1 K1 K2 _ _)
      | (with_reducible exact gF hB1 K1 K2 _ _)
  case rest =>
  clear CR y3 h0
  obtain ⟨p, q, rfl, rfl, P, Q, hb1⟩ := hcut
  have hbw := btrans hb0 hb1
  have S1 := hS.below hb1
  have x0 := cell_of_blk (i := 0) S1.blk rfl
  have hp := cell_of_blk (i := 0) P rfl
  have hq := cell_of_blk (i := 0) Q rfl
  have hbB := S1.bB
  have hbsl := S1.lt.1
  obtain ⟨b, off, hab⟩ : ∃ b off, 0 < ts.length → a = some ⟨b, off, none⟩ := by
    by_cases hn : 0 < ts.length
    · obtain ⟨b, off, _, _, e, _⟩ := hz.at hn
      exact ⟨b, off, fun _ => e⟩
    · exact ⟨0, 0, fun h => absurd h hn⟩
  have CD := cDeps a b off cap ts p q n rd wc (hz.below hbw) hab hg hp hq
  clear hb0 hS hb1 hgj hgl
  go_wp2_with fail
  refine CD.mono ?_
  rintro e w2 ⟨v2, rfl, ho2, hlen, hb2⟩
  obtain ⟨va, vc, rfl⟩ := own_form ho2
  have Dr := Drow.of_own ho2
  have S2 := S1.below hb2
  have hbw2 := btrans hbw hb2
  have hin : Hid (∀ d ∈ depsOf ts (wantB n rd), d.1 < ts.length ∧ d.2 + 1 < ncA ts d.1) := hide (fun d hd => by obtain ⟨h1, h2, _⟩ := mem_deps.1 hd; exact ⟨h1, h2⟩)
  generalize depsOf ts (wantB n rd) = ds at *
  clear CD ho2 hb2 S1 hbw x0 P Q hp hq
  go_wp2
  go_loopw [29] (fun xx wr => ∃ (x : Nat) (v' : Value) (bks' : List Nat) (D' : DataW Unit), x ≤ ds.length ∧ xx = .int .i64 x ∧ Stt wr bs bm w0.heap.size (.slice a ts.length cap) ch v' bks' (addF ts (lv + 1) j (R.getD j Rec.zero).pa R (legsF ts (ds.take x))) D' ∧ (∃ l, bks' = bks ++ l) ∧ Drow wr b off va ds ∧ Below w0.heap.size w0 wr) (fun xx _ => ds.length - (intOf xx).toNat)
  case atStart => exact ⟨0, v, bks, D, Nat.zero_le _, rfl, by simpa [legsF, addF_nil] using S2, ⟨[], by simp⟩, Dr, hbw2⟩
  case round =>
    clear S2 Dr hbw2
    obtain ⟨x, v', bks', D', hxl, rfl, S, hbk, Dr, hb⟩ := hrel
    by_cases hlt : x < ds.length
    · have hlt' : (x : Int) < (ds.length : Int) := by omega
      rcases Dr with h | ⟨gd, cur, rfl, hgd, hcur⟩
      · simp [h] at hlt
      obtain ⟨k0, k1, k2⟩ := hcur x hlt
      have Dr : Drow wr b off (some ⟨gd, 0, none⟩) ds := .inr ⟨gd, cur, rfl, hgd, hcur⟩
      have r0 := cell_of_blk hgd k0
      have r1 := cell_of_blk hgd k1
      have r2 := cell_of_blk hgd k2
      obtain ⟨hi1, hi2⟩ := hin.out _ (getD_mem (d := (0, 0)) hlt)
      have hU0 : Hid (upTo ts ds x ((ds.getD x (0, 0)).2 + 1) = legsF ts (ds.take x)) := hide (upTo_start ts ds x)
      have hUn := hide (fun l => upTo_next (ts := ts) (ds := ds) (x := x) (l := l))
      have hUe := hide (upTo_end (ts := ts) hlt)
      have hUs := hide (fun l => legsF_split (ts := ts) (l := l) hlt)
      generalize ds.getD x (0, 0) = d at *
      obtain ⟨di, dk⟩ := d
      dsimp only at *
      have hNew := one_block wr (.cells #[.pointer (some ⟨b, off + di * 2, none⟩), .int .i64 di, .int .i64 dk] 115)
      have hba := balloc wr (.cells #[.pointer (some ⟨b, off + di * 2, none⟩), .int .i64 di, .int .i64 dk] 115)
      have SA := S.below hba
      have DA := Dr.kp (Kp.of_below hba)
      have HB := btrans hb hba
      have hw1 : IntKind.i64.wrap ((dk : Int) + 1) = (dk : Int) + 1 := wrap_in _ (by have := (hg.len di hi1).2; omega) (by have := (hg.len di hi1).2; omega)
      have hgl := lt_of_block hgd
      clear k0 k1 k2 hcur
      obtain ⟨wo, rfl⟩ : ∃ wo, wo = wr := ⟨wr, rfl⟩
      go_wp2
      go_loopw [11] (fun ll wr => ∃ (l : Nat) (v' : Value) (bks' : List Nat) (D' : DataW Unit), dk + 1 ≤ l ∧ l ≤ ncA ts di ∧ ll = .int .i64 l ∧ Stt wr bs bm w0.heap.size (.slice a ts.length cap) ch v' bks' (addF ts (lv + 1) j (R.getD j Rec.zero).pa R (upTo ts ds x l)) D' ∧ (∃ l, bks' = bks ++ l) ∧ Drow wr b off (some ⟨gd, 0, none⟩) ds ∧ wr.heap[wo.heap.size]? = some (.cells #[.pointer (some ⟨b, off + di * 2, none⟩), .int .i64 di, .int .i64 dk] 115 (0, 0)) ∧ Below w0.heap.size w0 wr) (fun ll _ => ncA ts di - (intOf ll).toNat)
      case atStart => exact ⟨dk + 1, v', bks', D', Nat.le_refl _, by omega, by go_num, by rw [hU0.out]; exact SA, hbk, DA, hNew, HB⟩
      case round =>
        clear SA DA HB S Dr hb hNew hba r0 r1 r2 hgd hU0 hbk v' bks' D'
        obtain ⟨l, v', bks', D', hl1, hl2, rfl, S, hbk, Dr, hBx, hb⟩ := hrel
        obtain ⟨r0, r1, r2⟩ := three_cells hBx
        obtain ⟨b', off', na, cn, hA, -, c2, -, -⟩ := (hz.below hb).at hi1
        rw [hab (by omega)] at hA
        simp only [Option.some.injEq, Addr.mk.injEq, and_true] at hA
        obtain ⟨rfl, rfl⟩ := hA
        have c2' : wr.cell? ⟨b, off + di * 2 + 1, none⟩ = some (.slice na (ncA ts di) cn) := c2
        clear c2
        by_cases hlt2 : l < ncA ts di
        · have hlt2' : (l : Int) < (ncA ts di : Int) := by omega
          have hbal := balloc wr (.cells #[.int .i64 di, .int .i64 dk, .int .i64 l] 38)
          have LB := one_block wr (.cells #[.int .i64 di, .int .i64 dk, .int .i64 l] 38)
          have S1 := S.below hbal
          have Dr1 := Dr.kp (Kp.of_below hbal)
          have hBx1 := keep_blk hbal hBx
          have hb1 := btrans hb hbal
          clear S Dr hBx hb
          go_upto_region 9 with fail
          generalize wr.alloc (.cells #[.int .i64 di, .int .i64 dk, .int .i64 l] 38) = w1 at *
          generalize wr.heap.size = gl at *
          have CO := fun w' (h : Below w1.heap.size w1 w') => cOff a cap ts di l dk w' (hz.below (btrans hb1 h)) hi1 hlt2
          obtain ⟨z0, z1, z2⟩ := three_cells LB
          have x0 := cell_of_blk (i := 0) S1.blk rfl
          have hgl := lt_of_block LB
          have hbsl := S1.lt.1
          have hrn := hg.rng di l hi1 hlt2
          have hRq := hide (fun pa => show QR (recOf ts (lv + 1) j pa (di, dk, l)).q from ⟨⟨hrn.1.1, by show (hcA ts di l).n ≤ _; omega⟩, hrn.2.1, by show (hcA ts di l).a ≤ _; omega⟩)
          have hRc : Hid (∀ pa, recOf ts (lv + 1) j pa (di, dk, l) = ⟨di, dk, l, (hcA ts di l).n, (hcA ts di l).a, lv + 1, j, pa ++ [(di, dk, l)]⟩) := hide (fun pa => rfl)
          clear c2' r0 r1 r2 hbal hrn
          generalize hcA ts di l = c at *
          have h0 : Below w1.heap.size w1 w1.drew := (Below.refl _ _).drew
          go_cut [13] from 60 to 71 (fun cv wc => GotC w1 c cv wc)
          case first =>
            unfold HaltV.val at CO
            have d1 := fun (w2 : World) (o1 : Obj) (h : Below (w1.alloc o1).drew.heap.size (w1.alloc o1).drew w2) => keep_blk h (one_block w1 o1)
            go_region_with (go_at_call 26; first
              | (with_reducible refine (CO _ h0).mono ?_; rintro e w2 ⟨rfl, hb2⟩; have hB2 := btrans h0 hb2)
              | (with_reducible refine (CO _ (balloc _ _).drew).mono ?_; rintro e w2 ⟨rfl, hb2⟩; have hB2 := btrans (balloc _ _).drew hb2; have K1 := d1 _ _ hb2; obtain ⟨k0, k1, k2⟩ := three_cells K1; have f0 := frozen_of_blk (i := 0) K1; have f1 := frozen_of_blk (i := 1) K1; have f2 := frozen_of_blk (i := 2) K1; have zz := lt_of_block K1))
            all_goals go_wp2_with fail
            all_goals go_meet
            all_goals first
              | (with_reducible exact gotC1 hB2 _)
              | (with_reducible exact gotC2 hB2 K1 _)
          case rest =>
          clear CO z0 z1 z2 x0 h0
          obtain ⟨gc, rfl, C, hb2⟩ := hcut
          have S2 := S1.below hb2
          have Dr2 := Dr1.kp (Kp.of_below hb2)
          have hBx2 := keep_blk hb2 hBx1
          have LB2 := keep_blk hb2 LB
          have hb3 := btrans hb1 hb2
          have hl10 : ncA ts di ≤ 12 := (hg.len di hi1).2
          obtain ⟨z0, z1, z2⟩ := three_cells LB2
          obtain ⟨y0, y1, -⟩ := three_cells C
          clear S1 Dr1 hBx1 LB hb1 hb2 C LB2
          generalize hR' : addF ts (lv + 1) j (R.getD j Rec.zero).pa R (upTo ts ds x l) = R' at *
          have hR1 : R.length ≤ R'.length := by rw [← hR']; exact addF_pos _ _ _ _ _ _
          have hR2 : R'.length ≤ 900 := by
            obtain ⟨ys, e⟩ := hUs.out l
            have := addF_mono ts (lv + 1) j (R.getD j Rec.zero).pa R (upTo ts ds x l) ys
            rw [← e, ← hE.out, hR'] at this
            omega
          have hR3 : Hid (askF R' (recOf ts (lv + 1) j (R.getD j Rec.zero).pa (di, dk, l)) = addF ts (lv + 1) j (R.getD j Rec.zero).pa R (upTo ts ds x (l + 1))) := hide (by rw [hUn.out l (by omega) hlt2, addF_app, hR', addF_one])
          have hq := hRq.out (R.getD j Rec.zero).pa
          have hrc := hRc.out (R.getD j Rec.zero).pa
          generalize recOf ts (lv + 1) j (R.getD j Rec.zero).pa (di, dk, l) = r at *
          have hcells : recCells bks' r R'.length = #[.int .i64 di, .int .i64 dk, .int .i64 l, .int .i64 c.n, .int .i64 c.a, .pointer (some ⟨g, 0, none⟩)] := by
            obtain ⟨lb, rfl⟩ := hbk
            rw [hrc]
            unfold recCells
            rw [if_neg (by omega), getD_app_l (by rw [hbl.out]; exact hj), hgg.out]
          have hlv2 : r.lv = lv + 1 := by rw [hrc]
          have hpar : r.par = j := by rw [hrc]
          have hba := balloc wc (.cells #[.int .i64 di, .int .i64 dk, .int .i64 l, .int .i64 c.n, .int .i64 c.a, .pointer (some ⟨g, 0, none⟩)] 52)
          have NB := one_block wc (.cells #[.int .i64 di, .int .i64 dk, .int .i64 l, .int .i64 c.n, .int .i64 c.a, .pointer (some ⟨g, 0, none⟩)] 52)
          have hgn : ∀ j, j < R'.length → bks'.getD j 0 ≠ wc.heap.size := fun j hj => Nat.ne_of_lt (lt_of_block (S2.st j hj))
          have S3 := S2.below hba
          have Dr3 := Dr2.kp (Kp.of_below hba)
          have hBx3 := keep_blk hba hBx2
          have hb4 := btrans hb3 hba
          have hsz4 := hb4.size
          have CA := cAsk bs bm w0.heap.size wc.heap.size (.slice a ts.length cap) v' ch bks' R' D' r _ S3 (by rw [hcells]; exact NB) hq (by rw [hlv2]; omega) (by omega) (by rw [hpar]; omega) hsz4 (by have := hb3.size; exact this) hgn
          rw [hlv2] at CA
          have hlc : ((lv + 1 : Nat) : Int) = (lv : Int) + 1 := by omega
          rw [hlc] at CA
          replace hR' := hide hR'
          replace hrc := hide hrc
          clear hlc hcells hlv2 hpar NB S2 Dr2 hBx2 hb3 hRq hRc S3 hq hgn
          go_wp2_with fail
          refine CA.mono ?_
          rintro e w4 ⟨rfl, v4, bks4, D4, S4, ⟨l4, hl4⟩, hK4, hB4⟩
          rw [hR3.out] at S4
          have Dr4 := Dr3.kp hK4
          have hBx4 := hK4 _ _ _ _ hBx3 (by decide) (by decide)
          have hb5 := hb4.trans hB4
          have hbk4 : ∃ l, bks4 = bks ++ l := by obtain ⟨lb, rfl⟩ := hbk; exact ⟨lb ++ l4, by rw [hl4, List.append_assoc]⟩
          clear CA hK4 hB4 Dr3 hBx3 hb4 hl4 z0 z1 z2 y0 y1 hba
          go_wp2
          go_roundw
          case rel => exact ⟨l + 1, v4, bks4, D4, by omega, by omega, by go_num, S4, hbk4, Dr4, hBx4, hb5⟩
          case measure => simp [intOf]; omega
        · have hlt2' : ¬ (l : Int) < (ncA ts di : Int) := by omega
          have hll : l = ncA ts di := by omega
          rw [hll, hUe.out] at S
          clear hll
          go_wp2
          go_roundw
          case rel => exact ⟨x + 1, v', bks', D', by omega, by go_num, S, hbk, Dr, hb⟩
          case measure => simp [intOf]; omega
    · have hlt' : ¬ (x : Int) < (ds.length : Int) := by omega
      have hxx : x = ds.length := by omega
      rw [hxx, List.take_length, ← hE.out] at S
      clear hxx
      go_wp2
      go_end0
      exact ⟨rfl, _, _, _, S, hbk, hb⟩
end Go.Proofs.YtajeiiebddnchaaGreatDoor
