/- ReadTrip of the model. -/
import Derived.Test.YthlmaljgnhakfaaDoorURI
import Derived.Test.YthlmaljgnhakfaaDoorTY
import Derived.Test.YthlmaljgnhakfaaDoorSPN
import Derived.Deep.RegionHeld3
namespace Go.Proofs.YthlmaljgnhakfaaDoor
open Go.RowKit
theorem far_cell {w w' : World} {r : Option Nat} (hg : w.grownBy w' r) {g o : Nat} {v : Value} (h : w.cell? ⟨g, o, none⟩ = some v) (hne : ∀ j, r = some j → j ≠ g) : w'.cell? ⟨g, o, none⟩ = some v := by
  have hb := hg.block g (cell_lt h) (fun e => hne g e.symm rfl)
  simp only [World.cell?] at h ⊢
  rw [hb]
  exact h
theorem far_blkT {w w' : World} {r : Option Nat} (hg : w.grownBy w' r) {g : Nat} {o : Obj} (h : w.heap[g]? = some o) (hne : ∀ j, r = some j → j ≠ g) : w'.heap[g]? = some o :=
  (hg.block g (lt_of_block h) (fun e => hne g e.symm rfl)).trans h
theorem set1_cell {W : World} {e o g i : Nat} {v a : Value} (h : W.cell? ⟨e, o, none⟩ = some v) (hne : e ≠ g) : (W.setCell ⟨g, i, none⟩ a).cell? ⟨e, o, none⟩ = some v := by
  have hb : (W.setCell ⟨g, i, none⟩ a).heap[e]? = W.heap[e]? := Below.heap_setCell _ _ _ _ hne
  simp only [World.cell?] at h ⊢
  rw [hb]
  exact h
theorem OutT.pushX {W0 wr wx w2 : World} {s : ByteArray} {ao : Option Addr} {cp : Nat} {xs : List HaltV} (h : OutT W0 wr s ao cp xs) {g cap : Nat} {x : HaltV} (hx : Below wr.heap.size wr wx)
    (hown : w2.ownsRow (W0.heap.size + 1) 36 3 (.slice (some ⟨g, 0, none⟩) (xs.length + 1) cap) (xs.length + 1) (flatHalts xs ++ x.vs)) (hgrow : wx.grownBy w2 (Value.slice ao xs.length cp).ownBlock) :
    OutT W0 (w2.setCell ⟨W0.heap.size, 1, none⟩ (.slice (some ⟨g, 0, none⟩) (xs.length + 1) cap)) s (some ⟨g, 0, none⟩) cap (xs ++ [x]) := by
  have hge := own_from h.own (Nat.le_refl _)
  have hbel : Below W0.heap.size W0 w2 := (btrans h.bel hx).grown hgrow (btrans h.bel hx).size (fun k e => by have := hge k e; omega)
  have hout : w2.heap[W0.heap.size]? = some (.cells #[.string s, .slice ao xs.length cp] 26) := far_blkT hgrow (blk_keep hx h.out) (fun j hj => by have := hge j hj; omega)
  have hlen : (xs ++ [x]).length = xs.length + 1 := by simp
  refine ⟨hbel.setCell (by simp) _, ?_, ?_⟩
  · have := blk_set (i := 1) (v := .slice (some ⟨g, 0, none⟩) (xs.length + 1) cap) hout
    rw [hlen]; simpa using this
  · rw [hlen, flatHalts_app]
    have e : flatHalts [x] = x.vs := by simp [flatHalts]
    rw [e]; exact own_set hown (fun k hk => by have := own_from hown (Nat.le_refl _) k hk; omega)
set_option maxRecDepth 100000 in
set_option maxHeartbeats 6400000 in
theorem cReadTripS (l : List UInt8) (w : World) (hm : l.length ≤ 1048576) :
    Calls Tryd.prog 14 #[.string ⟨l.toArray⟩] w (TripRd w l) := by
  obtain ⟨i0, hi, hz0, hz1, hz2⟩ := info_parts infoHalts
  have hb0 := balloc w (.cells #[.string ⟨#[]⟩, .slice none 0 0] 26)
  have K0 := one_block' w (.cells #[.string ⟨#[]⟩, .slice none 0 0] 26)
  have CP0 := fun (_ : l.length ≤ 300) W => cSplit 32 32 (by decide) l W hm
  obtain ⟨T, hT⟩ : ∃ T : ByteArray, T = ⟨l.toArray⟩ := ⟨_, rfl⟩
  rw [← hT] at CP0 ⊢
  have hsz : Hid (T.size = l.length) := hide (by rw [hT]; rfl)
  obtain ⟨rb, hrb⟩ : ∃ rb, w.heap.size = rb := ⟨_, rfl⟩
  by_cases h300 : 300 < l.length
  · have hr : Hid (RdT l none) := hide (.inr ⟨rfl, fun t ht' hl => by have := tripL_len ht'; rw [hl] at this; omega⟩)
    have h1 : (300 : Int) < (T.size : Int) := by have := hsz.out; omega
    clear hT CP0
    rw [hrb] at K0
    obtain ⟨⟨v0, v1⟩, -⟩ := blk2 K0
    go_enter Tryd.func14, Tryd.ntmps14
    go_wp2_with fail
    refine bodyPost_ret (v := .tuple #[.agg #[.string ⟨#[]⟩, .slice none 0 0], .bool false]) (by simp [results, Tryd.results14, v0, v1, go_sem]) rfl ?_
    exact .no hr.out hb0
  have h1 : ¬ ((300 : Int) < (T.size : Int)) := by have := hsz.out; omega
  have CP := CP0 (by omega)
  have hbad : Hid (∀ j, j + 1 < (splitL 32 l).length → (∀ x, callB x = true → callL x ≠ (splitL 32 l).getD (j + 1) []) → RdT l none) := hide (fun j hj hb => rdt_bad hj hb)
  have hend : Hid (∀ cs q, CcI (splitL 32 l) q cs → q + 1 = (splitL 32 l).length → (tripB ⟨⟨((splitL 32 l).getD 0 []).toArray⟩, cs⟩ = true ∧ tripL ⟨⟨((splitL 32 l).getD 0 []).toArray⟩, cs⟩ = l → RdT l (some ⟨⟨((splitL 32 l).getD 0 []).toArray⟩, cs⟩)) ∧ (¬ (tripB ⟨⟨((splitL 32 l).getD 0 []).toArray⟩, cs⟩ = true ∧ tripL ⟨⟨((splitL 32 l).getD 0 []).toArray⟩, cs⟩ = l) → RdT l none)) := hide (fun cs q h hq => rdt_end h hq)
  have hpl : (splitL 32 l).length ≤ 301 := by have := splitL_len 32 l; omega
  have hp1 : 1 ≤ (splitL 32 l).length := List.length_pos_iff.2 (splitL_ne 32 l)
  have hpe : Hid (∀ p ∈ splitL 32 l, p.length ≤ 300) := hide (fun p hp => by have := splitL_each 32 l p hp; omega)
  generalize splitL 32 l = ps at *
  replace hT := hide hT
  clear h300 CP0
  go_enter Tryd.func14, Tryd.ntmps14
  go_wp2_with fail
  generalize w.alloc (.cells #[.string ⟨#[]⟩, .slice none 0 0] 26) = w0 at *
  rw [hrb] at K0
  refine (CP _).mono ?_
  rintro e w1 ⟨pa, pc, rfl, oP, hb⟩
  have HB := btrans hb0 hb
  replace K0 := blk_keep hb K0
  have hpc := own_capR oP
  obtain ⟨pg, rfl, p0⟩ := strs_cell oP (j := 0) (by omega)
  obtain ⟨s, hs⟩ : ∃ s : ByteArray, s = ⟨(ps.getD 0 []).toArray⟩ := ⟨_, rfl⟩
  rw [← hs] at p0
  rw [← hs] at hend
  have hsz2 : s.size ≤ 1048576 := by
    rw [hs]
    have := hpe.out (ps.getD 0 []) (by rw [show ps.getD 0 [] = ps[0] by simp [List.getD, show 0 < ps.length by omega]]; exact List.getElem_mem _)
    show (ps.getD 0 []).toArray.size ≤ 1048576
    simp only [List.size_toArray]
    omega
  clear hb0 hb CP hs
  have L0 : OutT w1 (w1.alloc (.cells #[.string s, .slice none 0 0] 26)) s none 0 [] := ⟨balloc _ _, one_block' _ _, World.ownsRow_nil _ _ _ _⟩
  go_wp2_with fail
  generalize w1.alloc (.cells #[.string s, .slice none 0 0] 26) = wA at *
  go_loopw [6, 7, 8] (fun ii _ _ wr => ∃ (k : Nat) (cs : List HaltV) (ao : Option Addr) (cp : Nat), k + 1 ≤ ps.length ∧ ii = .int .i64 ((k + 1 : Nat) : Int) ∧ Hid (CcI ps k cs) ∧ OutT w1 wr s ao cp cs) (fun ii _ _ _ => ps.length - (intOf ii).toNat)
  case atStart => exact ⟨0, [], none, 0, hp1, rfl, hide (CcI.zero ps), L0⟩
  case round =>
      clear L0
      obtain ⟨k, cs, ao, cp, hk, rfl, hI, L⟩ := hrel
      have hcl := hide hI.out.1
      have hcs : cs.length ≤ 301 := by have := hcl.out; omega
      have hWs := HB.size
      by_cases hlt : k + 1 < ps.length
      · have hlti : ((k + 1 : Nat) : Int) < (ps.length : Int) := by omega
        have hk0 : (0 : Int) ≤ ((k + 1 : Nat) : Int) := by omega
        obtain ⟨pg2, hge, p1⟩ := strs_cell oP hlt
        simp only [Option.some.injEq, Addr.mk.injEq, and_true] at hge
        subst hge
        have pr := ble L.bel p1
        clear p1
        have hpe1 := hpe.out (ps.getD (k + 1) []) (by rw [show ps.getD (k + 1) [] = ps[k + 1] by simp [List.getD, hlt]]; exact List.getElem_mem hlt)
        have hbadi := hide (hbad.out k hlt)
        have hpush := hide (fun y => hI.out.push (y := y))
        have hcut := hide (fun x (hx : callB x = true) (hl : callL x = ps.getD (k + 1) []) => call_cut hx hl)
        have CS := fun W => cSplit 64 64 (by decide) (ps.getD (k + 1) []) W (by omega)
        have hpl2 := hide (fun q hq => splitL_each 64 (ps.getD (k + 1) []) q hq)
        generalize splitL 64 (ps.getD (k + 1) []) = qs at *
        generalize ps.getD (k + 1) [] = p at *
        obtain ⟨t, ht2⟩ : ∃ t : ByteArray, t = ⟨p.toArray⟩ := ⟨_, rfl⟩
        rw [← ht2] at pr CS
        clear ht2 hI
        have K1 := blk_keep L.bel K0
        have HBr := btrans HB L.bel
        go_wp2_with fail
        refine (CS _).mono ?_
        rintro e w2 ⟨qa, pc2, rfl, oQ, hb2⟩
        have L2 := L.keep hb2
        have K2 := blk_keep hb2 K1
        have HB2 := btrans HBr hb2
        have hw2 := hb2.size
        clear CS hb2 K1 HBr pr
        by_cases h2 : qs.length = 2
        · obtain ⟨eg, rfl, z0⟩ := strs_cell oQ (j := 0) (by omega)
          obtain ⟨eg2, hge, z9⟩ := strs_cell oQ (j := 1) (by omega)
          simp only [Option.some.injEq, Addr.mk.injEq, and_true] at hge
          subst hge
          obtain ⟨x0, x1, rfl⟩ : ∃ x0 x1, qs = [x0, x1] := by
            match qs, h2 with
            | [a, b], _ => exact ⟨a, b, rfl⟩
          change w2.cell? ⟨eg, 0, none⟩ = some (.string ⟨x0.toArray⟩) at z0
          change w2.cell? ⟨eg, 1, none⟩ = some (.string ⟨x1.toArray⟩) at z9
          have l0 := hpl2.out x0 (by simp)
          have l1 := hpl2.out x1 (by simp)
          have hge2 := own_from oQ (Nat.le_refl _) eg rfl
          have CS := fun W => cSplit 45 45 (by decide) x1 W (by omega)
          have hpl3 := hide (fun q (hq : q ∈ splitL 45 x1) => splitL_each 45 x1 q hq)
          generalize hqs : splitL 45 x1 = us at *
          replace hqs := hide hqs
          obtain ⟨e1, he1⟩ : ∃ e1 : ByteArray, e1 = ⟨x1.toArray⟩ := ⟨_, rfl⟩
          rw [← he1] at CS z9
          clear he1
          have h2n : ([x0, x1] : List (List UInt8)).length = 2 := rfl
          clear h2
          go_wp2_with fail
          refine (CS _).mono ?_
          rintro e w5 ⟨ua, qc, rfl, oU, hb5⟩
          have hob0 := own_blk_lt L.own
          replace L2 := L2.keep hb5
          replace K2 := blk_keep hb5 K2
          replace HB2 := btrans HB2 hb5
          have hw5 := hb5.size
          replace z0 := ble hb5 z0
          clear CS z9 hb5
          by_cases h3 : us.length = 2
          · obtain ⟨tg, rfl, z1⟩ := strs_cell oU (j := 0) (by omega)
            obtain ⟨tg2, hge, z2⟩ := strs_cell oU (j := 1) (by omega)
            simp only [Option.some.injEq, Addr.mk.injEq, and_true] at hge
            subst hge
            have hge3 := own_from oU (Nat.le_refl _) tg rfl
            obtain ⟨y0, y1, rfl⟩ : ∃ y0 y1, us = [y0, y1] := by
              match us, h3 with
              | [a, b], _ => exact ⟨a, b, rfl⟩
            change w5.cell? ⟨tg, 0, none⟩ = some (.string ⟨y0.toArray⟩) at z1
            change w5.cell? ⟨tg, 1, none⟩ = some (.string ⟨y1.toArray⟩) at z2
            have m0 := hpl3.out y0 (by simp)
            have m1 := hpl3.out y1 (by simp)
            have CU := fun W (_ : Below w5.heap.size w5 W) => cNumb x0 W (by omega)
            have CT0 := fun W (_ : Below w5.heap.size w5 W) => cRTimeS y0 W (by omega)
            have CT1 := fun W (_ : Below w5.heap.size w5 W) => cRTimeS y1 W (by omega)
            unfold S at CT0 CT1
            have hX : Hid (∀ r1 : Int, (∀ n : Nat, n < 10000 → Lib.decDigits n = x0 → r1 = n) → CcI ps (k + 1) (cs ++ [⟨r1, readB y0, readB y1⟩])) := hide (fun r1 hr => hpush.out _ (fun x hx hl => by
              obtain ⟨n, a, d, rfl, c1, c2, c3, c4, c5⟩ := hcut.out x hx hl
              simp only [List.cons.injEq, and_true] at c2
              obtain ⟨c2, c2'⟩ := c2
              have := hqs.out
              rw [c2', c3] at this
              simp only [List.cons.injEq, and_true] at this
              rw [← this.1, ← this.2, c4, c5, hr n (by omega) c2.symm]))
            generalize readB y0 = A at *
            generalize readB y1 = Dd at *
            obtain ⟨e0, he0⟩ : ∃ e0 : ByteArray, e0 = ⟨x0.toArray⟩ := ⟨_, rfl⟩
            obtain ⟨t0, ht0⟩ : ∃ t0 : ByteArray, t0 = ⟨y0.toArray⟩ := ⟨_, rfl⟩
            obtain ⟨t1, ht1⟩ : ∃ t1 : ByteArray, t1 = ⟨y1.toArray⟩ := ⟨_, rfl⟩
            rw [← he0] at z0 CU
            rw [← ht0] at z1 CT0
            rw [← ht1] at z2 CT1
            have el := cell_lt z0
            have tl := cell_lt z1
            have h0b : Below w5.heap.size w5 w5.drew := (Below.refl _ _).drew
            have hob : ∀ j, (Value.slice ao cs.length cp).ownBlock = some j → j ≠ eg ∧ j ≠ tg := fun j hj => by have := hob0 j hj; omega
            have hET : eg ≠ w1.heap.size ∧ tg ≠ w1.heap.size := by have := L.lt; omega
            have hL1 := L2.bel.size
            have hLt := L2.lt
            obtain ⟨⟨-, o1⟩, -⟩ := blk2 L2.out
            clear he0 ht0 ht1 hcut hpl2 hpl3 oQ oU hqs m0 m1 l0 l1 hbadi hpush L K2 HB2
            go_upto_region 14 with fail
            refine wp_region_held_drew (S := (fun w' => w'.cell? ⟨eg, 0, none⟩ = some (.string e0) ∧ w'.cell? ⟨tg, 0, none⟩ = some (.string t0) ∧ w'.cell? ⟨tg, 1, none⟩ = some (.string t1))) (by kernel_rfl) ?_ (fun hHeld => ?_)
            · go_keep
            have o1d := o1
            refine wpAnyH_take (i := 0) (v := .pointer (some ⟨w1.heap.size, 1, none⟩)) rfl (by kernel_rfl) (by kernel_rfl) (by kernel_rfl) (fun _ _ _ h => h) (Or.inl ⟨by kernel_rfl, fun w hS => by go_simp⟩) hHeld ?_
            change wpAnyH _ _ _ _ _ _ _ { tmps := List.toArray (_ :: _ :: _ :: _ :: .slice (some ⟨pg, 0, none⟩) ps.length pc :: .pointer (some ⟨w1.heap.size, 0, none⟩) :: _ :: .slice (some ⟨eg, 0, none⟩) 2 pc2 :: .slice (some ⟨tg, 0, none⟩) 2 qc :: _ :: _ :: _ :: _ :: _ :: _ :: _ :: _ :: _ :: _ :: _ :: _ :: _ :: _ :: _ :: _ :: _ :: _ :: _ :: _ :: _ :: _ :: _ :: _ :: _ :: _ :: _ :: _ :: _ :: _ :: _ :: _ :: _ :: .pointer (some ⟨w1.heap.size, 1, none⟩) :: _ :: _ :: _ :: _ :: _ :: _ :: _ :: _ :: _ :: _ :: _ :: _ :: _ :: _ :: _ :: _ :: _ :: _ :: _ :: _ :: _ :: _ :: _ :: _ :: _ :: _ :: _ :: _ :: []), defers := [] } _
            refine wpAnyH_take (i := 2) (v := .slice (some ⟨eg, 0, none⟩) 2 pc2) rfl (by kernel_rfl) (by kernel_rfl) (by kernel_rfl) (fun _ _ _ h => h) (Or.inl ⟨by kernel_rfl, fun w hS => by go_simp⟩) hHeld ?_
            change wpAnyH _ _ _ _ _ _ _ { tmps := List.toArray (_ :: _ :: _ :: _ :: .slice (some ⟨pg, 0, none⟩) ps.length pc :: .pointer (some ⟨w1.heap.size, 0, none⟩) :: _ :: .slice (some ⟨eg, 0, none⟩) 2 pc2 :: .slice (some ⟨tg, 0, none⟩) 2 qc :: _ :: _ :: _ :: _ :: _ :: _ :: _ :: _ :: _ :: _ :: _ :: _ :: _ :: _ :: _ :: _ :: _ :: _ :: _ :: _ :: _ :: _ :: _ :: _ :: _ :: _ :: _ :: _ :: _ :: _ :: _ :: _ :: _ :: .pointer (some ⟨w1.heap.size, 1, none⟩) :: _ :: .slice (some ⟨eg, 0, none⟩) 2 pc2 :: _ :: _ :: _ :: _ :: _ :: _ :: _ :: _ :: _ :: _ :: _ :: _ :: _ :: _ :: _ :: _ :: _ :: _ :: _ :: _ :: _ :: _ :: _ :: _ :: _ :: _ :: []), defers := [] } _
            refine wpAnyH_take (i := 3) (v := .pointer (some ⟨eg, 0, none⟩)) rfl (by kernel_rfl) (by kernel_rfl) (by kernel_rfl) (fun _ _ _ h => h) (Or.inl ⟨by kernel_rfl, fun w hS => by go_simp⟩) hHeld ?_
            change wpAnyH _ _ _ _ _ _ _ { tmps := List.toArray (_ :: _ :: _ :: _ :: .slice (some ⟨pg, 0, none⟩) ps.length pc :: .pointer (some ⟨w1.heap.size, 0, none⟩) :: _ :: .slice (some ⟨eg, 0, none⟩) 2 pc2 :: .slice (some ⟨tg, 0, none⟩) 2 qc :: _ :: _ :: _ :: _ :: _ :: _ :: _ :: _ :: _ :: _ :: _ :: _ :: _ :: _ :: _ :: _ :: _ :: _ :: _ :: _ :: _ :: _ :: _ :: _ :: _ :: _ :: _ :: _ :: _ :: _ :: _ :: _ :: _ :: .pointer (some ⟨w1.heap.size, 1, none⟩) :: _ :: .slice (some ⟨eg, 0, none⟩) 2 pc2 :: .pointer (some ⟨eg, 0, none⟩) :: _ :: _ :: _ :: _ :: _ :: _ :: _ :: _ :: _ :: _ :: _ :: _ :: _ :: _ :: _ :: _ :: _ :: _ :: _ :: _ :: _ :: _ :: _ :: _ :: _ :: []), defers := [] } _
            refine wpAnyH_take (i := 4) (v := .string e0) rfl (by kernel_rfl) (by kernel_rfl) (by kernel_rfl) (fun _ _ _ h => h) (Or.inl ⟨by kernel_rfl, fun w hS => by (obtain ⟨hS0, hS1, hS2⟩ := hS; go_simp)⟩) hHeld ?_
            change wpAnyH _ _ _ _ _ _ _ { tmps := List.toArray (_ :: _ :: _ :: _ :: .slice (some ⟨pg, 0, none⟩) ps.length pc :: .pointer (some ⟨w1.heap.size, 0, none⟩) :: _ :: .slice (some ⟨eg, 0, none⟩) 2 pc2 :: .slice (some ⟨tg, 0, none⟩) 2 qc :: _ :: _ :: _ :: _ :: _ :: _ :: _ :: _ :: _ :: _ :: _ :: _ :: _ :: _ :: _ :: _ :: _ :: _ :: _ :: _ :: _ :: _ :: _ :: _ :: _ :: _ :: _ :: _ :: _ :: _ :: _ :: _ :: _ :: .pointer (some ⟨w1.heap.size, 1, none⟩) :: _ :: .slice (some ⟨eg, 0, none⟩) 2 pc2 :: .pointer (some ⟨eg, 0, none⟩) :: .string e0 :: _ :: _ :: _ :: _ :: _ :: _ :: _ :: _ :: _ :: _ :: _ :: _ :: _ :: _ :: _ :: _ :: _ :: _ :: _ :: _ :: _ :: _ :: _ :: _ :: []), defers := [] } _
            refine wpAnyH_take (i := 6) (v := .slice (some ⟨tg, 0, none⟩) 2 qc) rfl (by kernel_rfl) (by kernel_rfl) (by kernel_rfl) (fun _ _ _ h => h) (Or.inl ⟨by kernel_rfl, fun w hS => by go_simp⟩) hHeld ?_
            change wpAnyH _ _ _ _ _ _ _ { tmps := List.toArray (_ :: _ :: _ :: _ :: .slice (some ⟨pg, 0, none⟩) ps.length pc :: .pointer (some ⟨w1.heap.size, 0, none⟩) :: _ :: .slice (some ⟨eg, 0, none⟩) 2 pc2 :: .slice (some ⟨tg, 0, none⟩) 2 qc :: _ :: _ :: _ :: _ :: _ :: _ :: _ :: _ :: _ :: _ :: _ :: _ :: _ :: _ :: _ :: _ :: _ :: _ :: _ :: _ :: _ :: _ :: _ :: _ :: _ :: _ :: _ :: _ :: _ :: _ :: _ :: _ :: _ :: .pointer (some ⟨w1.heap.size, 1, none⟩) :: _ :: .slice (some ⟨eg, 0, none⟩) 2 pc2 :: .pointer (some ⟨eg, 0, none⟩) :: .string e0 :: _ :: .slice (some ⟨tg, 0, none⟩) 2 qc :: _ :: _ :: _ :: _ :: _ :: _ :: _ :: _ :: _ :: _ :: _ :: _ :: _ :: _ :: _ :: _ :: _ :: _ :: _ :: _ :: _ :: _ :: []), defers := [] } _
            refine wpAnyH_take (i := 7) (v := .pointer (some ⟨tg, 0, none⟩)) rfl (by kernel_rfl) (by kernel_rfl) (by kernel_rfl) (fun _ _ _ h => h) (Or.inl ⟨by kernel_rfl, fun w hS => by go_simp⟩) hHeld ?_
            change wpAnyH _ _ _ _ _ _ _ { tmps := List.toArray (_ :: _ :: _ :: _ :: .slice (some ⟨pg, 0, none⟩) ps.length pc :: .pointer (some ⟨w1.heap.size, 0, none⟩) :: _ :: .slice (some ⟨eg, 0, none⟩) 2 pc2 :: .slice (some ⟨tg, 0, none⟩) 2 qc :: _ :: _ :: _ :: _ :: _ :: _ :: _ :: _ :: _ :: _ :: _ :: _ :: _ :: _ :: _ :: _ :: _ :: _ :: _ :: _ :: _ :: _ :: _ :: _ :: _ :: _ :: _ :: _ :: _ :: _ :: _ :: _ :: _ :: .pointer (some ⟨w1.heap.size, 1, none⟩) :: _ :: .slice (some ⟨eg, 0, none⟩) 2 pc2 :: .pointer (some ⟨eg, 0, none⟩) :: .string e0 :: _ :: .slice (some ⟨tg, 0, none⟩) 2 qc :: .pointer (some ⟨tg, 0, none⟩) :: _ :: _ :: _ :: _ :: _ :: _ :: _ :: _ :: _ :: _ :: _ :: _ :: _ :: _ :: _ :: _ :: _ :: _ :: _ :: _ :: _ :: []), defers := [] } _
            refine wpAnyH_take (i := 8) (v := .string t0) rfl (by kernel_rfl) (by kernel_rfl) (by kernel_rfl) (fun _ _ _ h => h) (Or.inl ⟨by kernel_rfl, fun w hS => by (obtain ⟨hS0, hS1, hS2⟩ := hS; go_simp)⟩) hHeld ?_
            change wpAnyH _ _ _ _ _ _ _ { tmps := List.toArray (_ :: _ :: _ :: _ :: .slice (some ⟨pg, 0, none⟩) ps.length pc :: .pointer (some ⟨w1.heap.size, 0, none⟩) :: _ :: .slice (some ⟨eg, 0, none⟩) 2 pc2 :: .slice (some ⟨tg, 0, none⟩) 2 qc :: _ :: _ :: _ :: _ :: _ :: _ :: _ :: _ :: _ :: _ :: _ :: _ :: _ :: _ :: _ :: _ :: _ :: _ :: _ :: _ :: _ :: _ :: _ :: _ :: _ :: _ :: _ :: _ :: _ :: _ :: _ :: _ :: _ :: .pointer (some ⟨w1.heap.size, 1, none⟩) :: _ :: .slice (some ⟨eg, 0, none⟩) 2 pc2 :: .pointer (some ⟨eg, 0, none⟩) :: .string e0 :: _ :: .slice (some ⟨tg, 0, none⟩) 2 qc :: .pointer (some ⟨tg, 0, none⟩) :: .string t0 :: _ :: _ :: _ :: _ :: _ :: _ :: _ :: _ :: _ :: _ :: _ :: _ :: _ :: _ :: _ :: _ :: _ :: _ :: _ :: _ :: []), defers := [] } _
            refine wpAnyH_take (i := 10) (v := .slice (some ⟨tg, 0, none⟩) 2 qc) rfl (by kernel_rfl) (by kernel_rfl) (by kernel_rfl) (fun _ _ _ h => h) (Or.inl ⟨by kernel_rfl, fun w hS => by go_simp⟩) hHeld ?_
            change wpAnyH _ _ _ _ _ _ _ { tmps := List.toArray (_ :: _ :: _ :: _ :: .slice (some ⟨pg, 0, none⟩) ps.length pc :: .pointer (some ⟨w1.heap.size, 0, none⟩) :: _ :: .slice (some ⟨eg, 0, none⟩) 2 pc2 :: .slice (some ⟨tg, 0, none⟩) 2 qc :: _ :: _ :: _ :: _ :: _ :: _ :: _ :: _ :: _ :: _ :: _ :: _ :: _ :: _ :: _ :: _ :: _ :: _ :: _ :: _ :: _ :: _ :: _ :: _ :: _ :: _ :: _ :: _ :: _ :: _ :: _ :: _ :: _ :: .pointer (some ⟨w1.heap.size, 1, none⟩) :: _ :: .slice (some ⟨eg, 0, none⟩) 2 pc2 :: .pointer (some ⟨eg, 0, none⟩) :: .string e0 :: _ :: .slice (some ⟨tg, 0, none⟩) 2 qc :: .pointer (some ⟨tg, 0, none⟩) :: .string t0 :: _ :: .slice (some ⟨tg, 0, none⟩) 2 qc :: _ :: _ :: _ :: _ :: _ :: _ :: _ :: _ :: _ :: _ :: _ :: _ :: _ :: _ :: _ :: _ :: _ :: _ :: []), defers := [] } _
            refine wpAnyH_take (i := 11) (v := .pointer (some ⟨tg, 1, none⟩)) rfl (by kernel_rfl) (by kernel_rfl) (by kernel_rfl) (fun _ _ _ h => h) (Or.inl ⟨by kernel_rfl, fun w hS => by go_simp⟩) hHeld ?_
            change wpAnyH _ _ _ _ _ _ _ { tmps := List.toArray (_ :: _ :: _ :: _ :: .slice (some ⟨pg, 0, none⟩) ps.length pc :: .pointer (some ⟨w1.heap.size, 0, none⟩) :: _ :: .slice (some ⟨eg, 0, none⟩) 2 pc2 :: .slice (some ⟨tg, 0, none⟩) 2 qc :: _ :: _ :: _ :: _ :: _ :: _ :: _ :: _ :: _ :: _ :: _ :: _ :: _ :: _ :: _ :: _ :: _ :: _ :: _ :: _ :: _ :: _ :: _ :: _ :: _ :: _ :: _ :: _ :: _ :: _ :: _ :: _ :: _ :: .pointer (some ⟨w1.heap.size, 1, none⟩) :: _ :: .slice (some ⟨eg, 0, none⟩) 2 pc2 :: .pointer (some ⟨eg, 0, none⟩) :: .string e0 :: _ :: .slice (some ⟨tg, 0, none⟩) 2 qc :: .pointer (some ⟨tg, 0, none⟩) :: .string t0 :: _ :: .slice (some ⟨tg, 0, none⟩) 2 qc :: .pointer (some ⟨tg, 1, none⟩) :: _ :: _ :: _ :: _ :: _ :: _ :: _ :: _ :: _ :: _ :: _ :: _ :: _ :: _ :: _ :: _ :: _ :: []), defers := [] } _
            refine wpAnyH_take (i := 12) (v := .string t1) rfl (by kernel_rfl) (by kernel_rfl) (by kernel_rfl) (fun _ _ _ h => h) (Or.inl ⟨by kernel_rfl, fun w hS => by (obtain ⟨hS0, hS1, hS2⟩ := hS; go_simp)⟩) hHeld ?_
            change wpAnyH _ _ _ _ _ _ _ { tmps := List.toArray (_ :: _ :: _ :: _ :: .slice (some ⟨pg, 0, none⟩) ps.length pc :: .pointer (some ⟨w1.heap.size, 0, none⟩) :: _ :: .slice (some ⟨eg, 0, none⟩) 2 pc2 :: .slice (some ⟨tg, 0, none⟩) 2 qc :: _ :: _ :: _ :: _ :: _ :: _ :: _ :: _ :: _ :: _ :: _ :: _ :: _ :: _ :: _ :: _ :: _ :: _ :: _ :: _ :: _ :: _ :: _ :: _ :: _ :: _ :: _ :: _ :: _ :: _ :: _ :: _ :: _ :: .pointer (some ⟨w1.heap.size, 1, none⟩) :: _ :: .slice (some ⟨eg, 0, none⟩) 2 pc2 :: .pointer (some ⟨eg, 0, none⟩) :: .string e0 :: _ :: .slice (some ⟨tg, 0, none⟩) 2 qc :: .pointer (some ⟨tg, 0, none⟩) :: .string t0 :: _ :: .slice (some ⟨tg, 0, none⟩) 2 qc :: .pointer (some ⟨tg, 1, none⟩) :: .string t1 :: _ :: _ :: _ :: _ :: _ :: _ :: _ :: _ :: _ :: _ :: _ :: _ :: _ :: _ :: _ :: _ :: []), defers := [] } _
            refine wpAnyH_ready (rs := [1, 5]) (by kernel_rfl) (by simp) ?_
            refine (AllReadyH.cons rfl (fun KK hK => ?_) (AllReadyH.cons rfl (fun KK hK => ?_) AllReadyH.nil))
            · skip
              go_simp
              clear hHeld
              refine hK.out _ _ (⟨ble h0b z0, ble h0b z1, ble h0b z2⟩) (fun hHeld => ?_)
              clear hK KK
              change wpAnyH _ _ _ _ _ _ _ { tmps := List.toArray (_ :: _ :: _ :: _ :: .slice (some ⟨pg, 0, none⟩) ps.length pc :: .pointer (some ⟨w1.heap.size, 0, none⟩) :: _ :: .slice (some ⟨eg, 0, none⟩) 2 pc2 :: .slice (some ⟨tg, 0, none⟩) 2 qc :: _ :: _ :: _ :: _ :: _ :: _ :: _ :: _ :: _ :: _ :: _ :: _ :: _ :: _ :: _ :: _ :: _ :: _ :: _ :: _ :: _ :: _ :: _ :: _ :: _ :: _ :: _ :: _ :: _ :: _ :: _ :: _ :: _ :: .pointer (some ⟨w1.heap.size, 1, none⟩) :: .slice ao cs.length cp :: .slice (some ⟨eg, 0, none⟩) 2 pc2 :: .pointer (some ⟨eg, 0, none⟩) :: .string e0 :: _ :: .slice (some ⟨tg, 0, none⟩) 2 qc :: .pointer (some ⟨tg, 0, none⟩) :: .string t0 :: _ :: .slice (some ⟨tg, 0, none⟩) 2 qc :: .pointer (some ⟨tg, 1, none⟩) :: .string t1 :: _ :: _ :: _ :: _ :: _ :: _ :: _ :: _ :: _ :: _ :: _ :: _ :: _ :: _ :: _ :: _ :: []), defers := [] } _
              refine wpAnyH_ready (rs := [5]) (by kernel_rfl) (by simp) ?_
              refine (AllReadyH.cons rfl (fun KK hK => ?_) AllReadyH.nil)
              go_simp
              go_wp2_with fail
              refine (CU _ h0b).mono ?_
              rintro e1 wa ⟨r1, rfl, hr1, hbx⟩
              have B1 := btrans h0b hbx
              clear hbx
              clear hHeld
              refine hK.out _ _ (⟨ble B1 z0, ble B1 z1, ble B1 z2⟩) (fun hHeld => ?_)
              clear hK KK
              change wpAnyH _ _ _ _ _ _ _ { tmps := List.toArray (_ :: _ :: _ :: _ :: .slice (some ⟨pg, 0, none⟩) ps.length pc :: .pointer (some ⟨w1.heap.size, 0, none⟩) :: _ :: .slice (some ⟨eg, 0, none⟩) 2 pc2 :: .slice (some ⟨tg, 0, none⟩) 2 qc :: _ :: _ :: _ :: _ :: _ :: _ :: _ :: _ :: _ :: _ :: _ :: _ :: _ :: _ :: _ :: _ :: _ :: _ :: _ :: _ :: _ :: _ :: _ :: _ :: _ :: _ :: _ :: _ :: _ :: _ :: _ :: _ :: _ :: .pointer (some ⟨w1.heap.size, 1, none⟩) :: .slice ao cs.length cp :: .slice (some ⟨eg, 0, none⟩) 2 pc2 :: .pointer (some ⟨eg, 0, none⟩) :: .string e0 :: .int .i64 r1 :: .slice (some ⟨tg, 0, none⟩) 2 qc :: .pointer (some ⟨tg, 0, none⟩) :: .string t0 :: _ :: .slice (some ⟨tg, 0, none⟩) 2 qc :: .pointer (some ⟨tg, 1, none⟩) :: .string t1 :: _ :: _ :: _ :: _ :: _ :: _ :: _ :: _ :: _ :: _ :: _ :: _ :: _ :: _ :: _ :: _ :: []), defers := [] } _
              refine wpAnyH_ready (rs := [9]) (by kernel_rfl) (by simp) ?_
              refine (AllReadyH.cons rfl (fun KK hK => ?_) AllReadyH.nil)
              go_simp
              go_wp2_with fail
              refine (CT0 _ B1).mono ?_
              rintro e1 wb ⟨rfl, hbx⟩
              have B2 := btrans B1 hbx
              clear hbx
              clear hHeld
              refine hK.out _ _ (⟨ble B2 z0, ble B2 z1, ble B2 z2⟩) (fun hHeld => ?_)
              clear hK KK
              change wpAnyH _ _ _ _ _ _ _ { tmps := List.toArray (_ :: _ :: _ :: _ :: .slice (some ⟨pg, 0, none⟩) ps.length pc :: .pointer (some ⟨w1.heap.size, 0, none⟩) :: _ :: .slice (some ⟨eg, 0, none⟩) 2 pc2 :: .slice (some ⟨tg, 0, none⟩) 2 qc :: _ :: _ :: _ :: _ :: _ :: _ :: _ :: _ :: _ :: _ :: _ :: _ :: _ :: _ :: _ :: _ :: _ :: _ :: _ :: _ :: _ :: _ :: _ :: _ :: _ :: _ :: _ :: _ :: _ :: _ :: _ :: _ :: _ :: .pointer (some ⟨w1.heap.size, 1, none⟩) :: .slice ao cs.length cp :: .slice (some ⟨eg, 0, none⟩) 2 pc2 :: .pointer (some ⟨eg, 0, none⟩) :: .string e0 :: .int .i64 r1 :: .slice (some ⟨tg, 0, none⟩) 2 qc :: .pointer (some ⟨tg, 0, none⟩) :: .string t0 :: .int .i64 A :: .slice (some ⟨tg, 0, none⟩) 2 qc :: .pointer (some ⟨tg, 1, none⟩) :: .string t1 :: _ :: _ :: _ :: _ :: _ :: _ :: _ :: _ :: _ :: _ :: _ :: _ :: _ :: _ :: _ :: _ :: []), defers := [] } _
              refine wpAnyH_ready (rs := [13]) (by kernel_rfl) (by simp) ?_
              refine (AllReadyH.cons rfl (fun KK hK => ?_) AllReadyH.nil)
              go_simp
              go_wp2_with fail
              refine (CT1 _ B2).mono ?_
              rintro e1 wc_ ⟨rfl, hbx⟩
              have B3 := btrans B2 hbx
              clear hbx
              clear hHeld
              refine hK.out _ _ (⟨ble B3 z0, ble B3 z1, ble B3 z2⟩) (fun hHeld => ?_)
              clear hK KK
              change wpAnyH _ _ _ _ _ _ _ { tmps := List.toArray (_ :: _ :: _ :: _ :: .slice (some ⟨pg, 0, none⟩) ps.length pc :: .pointer (some ⟨w1.heap.size, 0, none⟩) :: _ :: .slice (some ⟨eg, 0, none⟩) 2 pc2 :: .slice (some ⟨tg, 0, none⟩) 2 qc :: _ :: _ :: _ :: _ :: _ :: _ :: _ :: _ :: _ :: _ :: _ :: _ :: _ :: _ :: _ :: _ :: _ :: _ :: _ :: _ :: _ :: _ :: _ :: _ :: _ :: _ :: _ :: _ :: _ :: _ :: _ :: _ :: _ :: .pointer (some ⟨w1.heap.size, 1, none⟩) :: .slice ao cs.length cp :: .slice (some ⟨eg, 0, none⟩) 2 pc2 :: .pointer (some ⟨eg, 0, none⟩) :: .string e0 :: .int .i64 r1 :: .slice (some ⟨tg, 0, none⟩) 2 qc :: .pointer (some ⟨tg, 0, none⟩) :: .string t0 :: .int .i64 A :: .slice (some ⟨tg, 0, none⟩) 2 qc :: .pointer (some ⟨tg, 1, none⟩) :: .string t1 :: .int .i64 Dd :: _ :: _ :: _ :: _ :: _ :: _ :: _ :: _ :: _ :: _ :: _ :: _ :: _ :: _ :: _ :: []), defers := [] } _
              refine wpAnyH_take (i := 14) (v := .agg #[.int .i64 r1, .int .i64 A, .int .i64 Dd]) rfl (by kernel_rfl) (by kernel_rfl) (by kernel_rfl) (fun _ _ _ h => h) (Or.inl ⟨by kernel_rfl, fun w hS => by go_simp⟩) hHeld ?_
              change wpAnyH _ _ _ _ _ _ _ { tmps := List.toArray (_ :: _ :: _ :: _ :: .slice (some ⟨pg, 0, none⟩) ps.length pc :: .pointer (some ⟨w1.heap.size, 0, none⟩) :: _ :: .slice (some ⟨eg, 0, none⟩) 2 pc2 :: .slice (some ⟨tg, 0, none⟩) 2 qc :: _ :: _ :: _ :: _ :: _ :: _ :: _ :: _ :: _ :: _ :: _ :: _ :: _ :: _ :: _ :: _ :: _ :: _ :: _ :: _ :: _ :: _ :: _ :: _ :: _ :: _ :: _ :: _ :: _ :: _ :: _ :: _ :: _ :: .pointer (some ⟨w1.heap.size, 1, none⟩) :: .slice ao cs.length cp :: .slice (some ⟨eg, 0, none⟩) 2 pc2 :: .pointer (some ⟨eg, 0, none⟩) :: .string e0 :: .int .i64 r1 :: .slice (some ⟨tg, 0, none⟩) 2 qc :: .pointer (some ⟨tg, 0, none⟩) :: .string t0 :: .int .i64 A :: .slice (some ⟨tg, 0, none⟩) 2 qc :: .pointer (some ⟨tg, 1, none⟩) :: .string t1 :: .int .i64 Dd :: .agg #[.int .i64 r1, .int .i64 A, .int .i64 Dd] :: _ :: _ :: _ :: _ :: _ :: _ :: _ :: _ :: _ :: _ :: _ :: _ :: _ :: _ :: []), defers := [] } _
              refine wpAnyH_ready (rs := [15]) (by kernel_rfl) (by simp) ?_
              refine (AllReadyH.cons rfl (fun KK hK => ?_) AllReadyH.nil)
              go_simp
              have hal := balloc wc_ (.cells #[.int .i64 r1, .int .i64 A, .int .i64 Dd] 36)
              have BA := btrans B3 hal
              have HN := one_block' wc_ (.cells #[.int .i64 r1, .int .i64 A, .int .i64 Dd] 36)
              clear hal
              clear hHeld
              refine hK.out _ _ (⟨ble BA z0, ble BA z1, ble BA z2⟩) (fun hHeld => ?_)
              clear hK KK
              change wpAnyH _ _ _ _ _ _ _ { tmps := List.toArray (_ :: _ :: _ :: _ :: .slice (some ⟨pg, 0, none⟩) ps.length pc :: .pointer (some ⟨w1.heap.size, 0, none⟩) :: _ :: .slice (some ⟨eg, 0, none⟩) 2 pc2 :: .slice (some ⟨tg, 0, none⟩) 2 qc :: _ :: _ :: _ :: _ :: _ :: _ :: _ :: _ :: _ :: _ :: _ :: _ :: _ :: _ :: _ :: _ :: _ :: _ :: _ :: _ :: _ :: _ :: _ :: _ :: _ :: _ :: _ :: _ :: _ :: _ :: _ :: _ :: _ :: .pointer (some ⟨w1.heap.size, 1, none⟩) :: .slice ao cs.length cp :: .slice (some ⟨eg, 0, none⟩) 2 pc2 :: .pointer (some ⟨eg, 0, none⟩) :: .string e0 :: .int .i64 r1 :: .slice (some ⟨tg, 0, none⟩) 2 qc :: .pointer (some ⟨tg, 0, none⟩) :: .string t0 :: .int .i64 A :: .slice (some ⟨tg, 0, none⟩) 2 qc :: .pointer (some ⟨tg, 1, none⟩) :: .string t1 :: .int .i64 Dd :: .agg #[.int .i64 r1, .int .i64 A, .int .i64 Dd] :: .slice (some ⟨wc_.heap.size, 0, none⟩) 1 1 :: _ :: _ :: _ :: _ :: _ :: _ :: _ :: _ :: _ :: _ :: _ :: _ :: _ :: []), defers := [] } _
              refine wpAnyH_ready (rs := [16]) (by kernel_rfl) (by simp) ?_
              refine (AllReadyH.cons rfl (fun KK hK => ?_) AllReadyH.nil)
              refine step_append_lies _ (by rfl) _ _ _ (by rfl) (w1.heap.size + 1) 36 i0 _ 3 24 Tryd.underlying24 hi hz0 hz1 hz2 rfl (by omega) (.slice ao cs.length cp) cs.length (flatHalts cs) (by rfl) (own_keep L2.own BA) ⟨wc_.heap.size, 0, none⟩ 1 1 (HaltV.vs ⟨r1, A, Dd⟩) (by rfl) (by rfl) (World.news_of_block HN) (by simp [HaltV.vs, Value.oneCell']) (by omega) (by unfold maxLen; omega) (by omega) (by have := BA.size; simp at this ⊢; omega) (wc_.heap.size + 1) (by simp) ?_
              intro g cap2 w9 hown hgrow hat hlt2
              have L4 := L2.pushX (x := ⟨r1, A, Dd⟩) BA hown hgrow
              have y0 := far_cell hgrow (ble BA z0) (fun j hj => by have := hob j hj; omega)
              have y1 := far_cell hgrow (ble BA z1) (fun j hj => by have := hob j hj; omega)
              have y2 := far_cell hgrow (ble BA z2) (fun j hj => by have := hob j hj; omega)
              obtain ⟨⟨u0, u1⟩, f0, f1⟩ := blk2 (far_blkT hgrow (blk_keep BA L2.out) (fun j hj => by have := own_from L2.own (Nat.le_refl _) j hj; omega))
              have HR := hr1
              have hI4 := hide (hX.out r1 HR)
              clear hHeld
              refine hK.out _ _ (⟨y0, y1, y2⟩) (fun hHeld => ?_)
              clear hK KK
              change wpAnyH _ _ _ _ _ _ _ { tmps := List.toArray (_ :: _ :: _ :: _ :: .slice (some ⟨pg, 0, none⟩) ps.length pc :: .pointer (some ⟨w1.heap.size, 0, none⟩) :: _ :: .slice (some ⟨eg, 0, none⟩) 2 pc2 :: .slice (some ⟨tg, 0, none⟩) 2 qc :: _ :: _ :: _ :: _ :: _ :: _ :: _ :: _ :: _ :: _ :: _ :: _ :: _ :: _ :: _ :: _ :: _ :: _ :: _ :: _ :: _ :: _ :: _ :: _ :: _ :: _ :: _ :: _ :: _ :: _ :: _ :: _ :: _ :: .pointer (some ⟨w1.heap.size, 1, none⟩) :: .slice ao cs.length cp :: .slice (some ⟨eg, 0, none⟩) 2 pc2 :: .pointer (some ⟨eg, 0, none⟩) :: .string e0 :: .int .i64 r1 :: .slice (some ⟨tg, 0, none⟩) 2 qc :: .pointer (some ⟨tg, 0, none⟩) :: .string t0 :: .int .i64 A :: .slice (some ⟨tg, 0, none⟩) 2 qc :: .pointer (some ⟨tg, 1, none⟩) :: .string t1 :: .int .i64 Dd :: .agg #[.int .i64 r1, .int .i64 A, .int .i64 Dd] :: .slice (some ⟨wc_.heap.size, 0, none⟩) 1 1 :: .slice (some ⟨g, 0, none⟩) (cs.length + 1) cap2 :: _ :: _ :: _ :: _ :: _ :: _ :: _ :: _ :: _ :: _ :: _ :: _ :: []), defers := [] } _
              refine wpAnyH_take (i := 17) (v := .pointer (some ⟨w1.heap.size, 1, none⟩)) rfl (by kernel_rfl) (by kernel_rfl) (by kernel_rfl) (fun _ _ _ h => h) (Or.inl ⟨by kernel_rfl, fun w hS => by go_simp⟩) hHeld ?_
              change wpAnyH _ _ _ _ _ _ _ { tmps := List.toArray (_ :: _ :: _ :: _ :: .slice (some ⟨pg, 0, none⟩) ps.length pc :: .pointer (some ⟨w1.heap.size, 0, none⟩) :: _ :: .slice (some ⟨eg, 0, none⟩) 2 pc2 :: .slice (some ⟨tg, 0, none⟩) 2 qc :: _ :: _ :: _ :: _ :: _ :: _ :: _ :: _ :: _ :: _ :: _ :: _ :: _ :: _ :: _ :: _ :: _ :: _ :: _ :: _ :: _ :: _ :: _ :: _ :: _ :: _ :: _ :: _ :: _ :: _ :: _ :: _ :: _ :: .pointer (some ⟨w1.heap.size, 1, none⟩) :: .slice ao cs.length cp :: .slice (some ⟨eg, 0, none⟩) 2 pc2 :: .pointer (some ⟨eg, 0, none⟩) :: .string e0 :: .int .i64 r1 :: .slice (some ⟨tg, 0, none⟩) 2 qc :: .pointer (some ⟨tg, 0, none⟩) :: .string t0 :: .int .i64 A :: .slice (some ⟨tg, 0, none⟩) 2 qc :: .pointer (some ⟨tg, 1, none⟩) :: .string t1 :: .int .i64 Dd :: .agg #[.int .i64 r1, .int .i64 A, .int .i64 Dd] :: .slice (some ⟨wc_.heap.size, 0, none⟩) 1 1 :: .slice (some ⟨g, 0, none⟩) (cs.length + 1) cap2 :: .pointer (some ⟨w1.heap.size, 1, none⟩) :: _ :: _ :: _ :: _ :: _ :: _ :: _ :: _ :: _ :: _ :: _ :: []), defers := [] } _
              refine wpAnyH_ready (rs := [18]) (by kernel_rfl) (by simp) ?_
              refine (AllReadyH.cons rfl (fun KK hK => ?_) AllReadyH.nil)
              go_simp
              clear hHeld
              refine hK.out _ _ (⟨set1_cell y0 hET.1, set1_cell y1 hET.2, set1_cell y2 hET.2⟩) (fun hHeld => ?_)
              clear hK KK
              change wpAnyH _ _ _ _ _ _ _ { tmps := List.toArray (_ :: _ :: _ :: _ :: .slice (some ⟨pg, 0, none⟩) ps.length pc :: .pointer (some ⟨w1.heap.size, 0, none⟩) :: _ :: .slice (some ⟨eg, 0, none⟩) 2 pc2 :: .slice (some ⟨tg, 0, none⟩) 2 qc :: _ :: _ :: _ :: _ :: _ :: _ :: _ :: _ :: _ :: _ :: _ :: _ :: _ :: _ :: _ :: _ :: _ :: _ :: _ :: _ :: _ :: _ :: _ :: _ :: _ :: _ :: _ :: _ :: _ :: _ :: _ :: _ :: _ :: .pointer (some ⟨w1.heap.size, 1, none⟩) :: .slice ao cs.length cp :: .slice (some ⟨eg, 0, none⟩) 2 pc2 :: .pointer (some ⟨eg, 0, none⟩) :: .string e0 :: .int .i64 r1 :: .slice (some ⟨tg, 0, none⟩) 2 qc :: .pointer (some ⟨tg, 0, none⟩) :: .string t0 :: .int .i64 A :: .slice (some ⟨tg, 0, none⟩) 2 qc :: .pointer (some ⟨tg, 1, none⟩) :: .string t1 :: .int .i64 Dd :: .agg #[.int .i64 r1, .int .i64 A, .int .i64 Dd] :: .slice (some ⟨wc_.heap.size, 0, none⟩) 1 1 :: .slice (some ⟨g, 0, none⟩) (cs.length + 1) cap2 :: .pointer (some ⟨w1.heap.size, 1, none⟩) :: _ :: _ :: _ :: _ :: _ :: _ :: _ :: _ :: _ :: _ :: _ :: []), defers := [] } _
              refine wpAnyH_done (by kernel_rfl) ?_ _
              clear hown hgrow hat u0 u1 y0 y1 y2 HR o1
              go_wp2
              go_roundw
              case rel => exact ⟨k + 1, _, some ⟨g, 0, none⟩, cap2, by omega, by go_num, hI4, by simpa using L4⟩
              case measure => simp [intOf]; omega
            · skip
              go_simp
              go_wp2_with fail
              refine (CU _ h0b).mono ?_
              rintro e1 wa ⟨r1, rfl, hr1, hbx⟩
              have B1 := btrans h0b hbx
              clear hbx
              have o1 := ble B1 o1d
              clear hHeld
              refine hK.out _ _ (⟨ble B1 z0, ble B1 z1, ble B1 z2⟩) (fun hHeld => ?_)
              clear hK KK
              change wpAnyH _ _ _ _ _ _ _ { tmps := List.toArray (_ :: _ :: _ :: _ :: .slice (some ⟨pg, 0, none⟩) ps.length pc :: .pointer (some ⟨w1.heap.size, 0, none⟩) :: _ :: .slice (some ⟨eg, 0, none⟩) 2 pc2 :: .slice (some ⟨tg, 0, none⟩) 2 qc :: _ :: _ :: _ :: _ :: _ :: _ :: _ :: _ :: _ :: _ :: _ :: _ :: _ :: _ :: _ :: _ :: _ :: _ :: _ :: _ :: _ :: _ :: _ :: _ :: _ :: _ :: _ :: _ :: _ :: _ :: _ :: _ :: _ :: .pointer (some ⟨w1.heap.size, 1, none⟩) :: _ :: .slice (some ⟨eg, 0, none⟩) 2 pc2 :: .pointer (some ⟨eg, 0, none⟩) :: .string e0 :: .int .i64 r1 :: .slice (some ⟨tg, 0, none⟩) 2 qc :: .pointer (some ⟨tg, 0, none⟩) :: .string t0 :: _ :: .slice (some ⟨tg, 0, none⟩) 2 qc :: .pointer (some ⟨tg, 1, none⟩) :: .string t1 :: _ :: _ :: _ :: _ :: _ :: _ :: _ :: _ :: _ :: _ :: _ :: _ :: _ :: _ :: _ :: _ :: []), defers := [] } _
              refine wpAnyH_ready (rs := [1, 9]) (by kernel_rfl) (by simp) ?_
              refine (AllReadyH.cons rfl (fun KK hK => ?_) (AllReadyH.cons rfl (fun KK hK => ?_) AllReadyH.nil))
              · skip
                go_simp
                clear hHeld
                refine hK.out _ _ (⟨ble B1 z0, ble B1 z1, ble B1 z2⟩) (fun hHeld => ?_)
                clear hK KK
                change wpAnyH _ _ _ _ _ _ _ { tmps := List.toArray (_ :: _ :: _ :: _ :: .slice (some ⟨pg, 0, none⟩) ps.length pc :: .pointer (some ⟨w1.heap.size, 0, none⟩) :: _ :: .slice (some ⟨eg, 0, none⟩) 2 pc2 :: .slice (some ⟨tg, 0, none⟩) 2 qc :: _ :: _ :: _ :: _ :: _ :: _ :: _ :: _ :: _ :: _ :: _ :: _ :: _ :: _ :: _ :: _ :: _ :: _ :: _ :: _ :: _ :: _ :: _ :: _ :: _ :: _ :: _ :: _ :: _ :: _ :: _ :: _ :: _ :: .pointer (some ⟨w1.heap.size, 1, none⟩) :: .slice ao cs.length cp :: .slice (some ⟨eg, 0, none⟩) 2 pc2 :: .pointer (some ⟨eg, 0, none⟩) :: .string e0 :: .int .i64 r1 :: .slice (some ⟨tg, 0, none⟩) 2 qc :: .pointer (some ⟨tg, 0, none⟩) :: .string t0 :: _ :: .slice (some ⟨tg, 0, none⟩) 2 qc :: .pointer (some ⟨tg, 1, none⟩) :: .string t1 :: _ :: _ :: _ :: _ :: _ :: _ :: _ :: _ :: _ :: _ :: _ :: _ :: _ :: _ :: _ :: _ :: []), defers := [] } _
                refine wpAnyH_ready (rs := [9]) (by kernel_rfl) (by simp) ?_
                refine (AllReadyH.cons rfl (fun KK hK => ?_) AllReadyH.nil)
                go_simp
                go_wp2_with fail
                refine (CT0 _ B1).mono ?_
                rintro e1 wb ⟨rfl, hbx⟩
                have B2 := btrans B1 hbx
                clear hbx
                clear hHeld
                refine hK.out _ _ (⟨ble B2 z0, ble B2 z1, ble B2 z2⟩) (fun hHeld => ?_)
                clear hK KK
                change wpAnyH _ _ _ _ _ _ _ { tmps := List.toArray (_ :: _ :: _ :: _ :: .slice (some ⟨pg, 0, none⟩) ps.length pc :: .pointer (some ⟨w1.heap.size, 0, none⟩) :: _ :: .slice (some ⟨eg, 0, none⟩) 2 pc2 :: .slice (some ⟨tg, 0, none⟩) 2 qc :: _ :: _ :: _ :: _ :: _ :: _ :: _ :: _ :: _ :: _ :: _ :: _ :: _ :: _ :: _ :: _ :: _ :: _ :: _ :: _ :: _ :: _ :: _ :: _ :: _ :: _ :: _ :: _ :: _ :: _ :: _ :: _ :: _ :: .pointer (some ⟨w1.heap.size, 1, none⟩) :: .slice ao cs.length cp :: .slice (some ⟨eg, 0, none⟩) 2 pc2 :: .pointer (some ⟨eg, 0, none⟩) :: .string e0 :: .int .i64 r1 :: .slice (some ⟨tg, 0, none⟩) 2 qc :: .pointer (some ⟨tg, 0, none⟩) :: .string t0 :: .int .i64 A :: .slice (some ⟨tg, 0, none⟩) 2 qc :: .pointer (some ⟨tg, 1, none⟩) :: .string t1 :: _ :: _ :: _ :: _ :: _ :: _ :: _ :: _ :: _ :: _ :: _ :: _ :: _ :: _ :: _ :: _ :: []), defers := [] } _
                refine wpAnyH_ready (rs := [13]) (by kernel_rfl) (by simp) ?_
                refine (AllReadyH.cons rfl (fun KK hK => ?_) AllReadyH.nil)
                go_simp
                go_wp2_with fail
                refine (CT1 _ B2).mono ?_
                rintro e1 wc_ ⟨rfl, hbx⟩
                have B3 := btrans B2 hbx
                clear hbx
                clear hHeld
                refine hK.out _ _ (⟨ble B3 z0, ble B3 z1, ble B3 z2⟩) (fun hHeld => ?_)
                clear hK KK
                change wpAnyH _ _ _ _ _ _ _ { tmps := List.toArray (_ :: _ :: _ :: _ :: .slice (some ⟨pg, 0, none⟩) ps.length pc :: .pointer (some ⟨w1.heap.size, 0, none⟩) :: _ :: .slice (some ⟨eg, 0, none⟩) 2 pc2 :: .slice (some ⟨tg, 0, none⟩) 2 qc :: _ :: _ :: _ :: _ :: _ :: _ :: _ :: _ :: _ :: _ :: _ :: _ :: _ :: _ :: _ :: _ :: _ :: _ :: _ :: _ :: _ :: _ :: _ :: _ :: _ :: _ :: _ :: _ :: _ :: _ :: _ :: _ :: _ :: .pointer (some ⟨w1.heap.size, 1, none⟩) :: .slice ao cs.length cp :: .slice (some ⟨eg, 0, none⟩) 2 pc2 :: .pointer (some ⟨eg, 0, none⟩) :: .string e0 :: .int .i64 r1 :: .slice (some ⟨tg, 0, none⟩) 2 qc :: .pointer (some ⟨tg, 0, none⟩) :: .string t0 :: .int .i64 A :: .slice (some ⟨tg, 0, none⟩) 2 qc :: .pointer (some ⟨tg, 1, none⟩) :: .string t1 :: .int .i64 Dd :: _ :: _ :: _ :: _ :: _ :: _ :: _ :: _ :: _ :: _ :: _ :: _ :: _ :: _ :: _ :: []), defers := [] } _
                refine wpAnyH_take (i := 14) (v := .agg #[.int .i64 r1, .int .i64 A, .int .i64 Dd]) rfl (by kernel_rfl) (by kernel_rfl) (by kernel_rfl) (fun _ _ _ h => h) (Or.inl ⟨by kernel_rfl, fun w hS => by go_simp⟩) hHeld ?_
                change wpAnyH _ _ _ _ _ _ _ { tmps := List.toArray (_ :: _ :: _ :: _ :: .slice (some ⟨pg, 0, none⟩) ps.length pc :: .pointer (some ⟨w1.heap.size, 0, none⟩) :: _ :: .slice (some ⟨eg, 0, none⟩) 2 pc2 :: .slice (some ⟨tg, 0, none⟩) 2 qc :: _ :: _ :: _ :: _ :: _ :: _ :: _ :: _ :: _ :: _ :: _ :: _ :: _ :: _ :: _ :: _ :: _ :: _ :: _ :: _ :: _ :: _ :: _ :: _ :: _ :: _ :: _ :: _ :: _ :: _ :: _ :: _ :: _ :: .pointer (some ⟨w1.heap.size, 1, none⟩) :: .slice ao cs.length cp :: .slice (some ⟨eg, 0, none⟩) 2 pc2 :: .pointer (some ⟨eg, 0, none⟩) :: .string e0 :: .int .i64 r1 :: .slice (some ⟨tg, 0, none⟩) 2 qc :: .pointer (some ⟨tg, 0, none⟩) :: .string t0 :: .int .i64 A :: .slice (some ⟨tg, 0, none⟩) 2 qc :: .pointer (some ⟨tg, 1, none⟩) :: .string t1 :: .int .i64 Dd :: .agg #[.int .i64 r1, .int .i64 A, .int .i64 Dd] :: _ :: _ :: _ :: _ :: _ :: _ :: _ :: _ :: _ :: _ :: _ :: _ :: _ :: _ :: []), defers := [] } _
                refine wpAnyH_ready (rs := [15]) (by kernel_rfl) (by simp) ?_
                refine (AllReadyH.cons rfl (fun KK hK => ?_) AllReadyH.nil)
                go_simp
                have hal := balloc wc_ (.cells #[.int .i64 r1, .int .i64 A, .int .i64 Dd] 36)
                have BA := btrans B3 hal
                have HN := one_block' wc_ (.cells #[.int .i64 r1, .int .i64 A, .int .i64 Dd] 36)
                clear hal
                clear hHeld
                refine hK.out _ _ (⟨ble BA z0, ble BA z1, ble BA z2⟩) (fun hHeld => ?_)
                clear hK KK
                change wpAnyH _ _ _ _ _ _ _ { tmps := List.toArray (_ :: _ :: _ :: _ :: .slice (some ⟨pg, 0, none⟩) ps.length pc :: .pointer (some ⟨w1.heap.size, 0, none⟩) :: _ :: .slice (some ⟨eg, 0, none⟩) 2 pc2 :: .slice (some ⟨tg, 0, none⟩) 2 qc :: _ :: _ :: _ :: _ :: _ :: _ :: _ :: _ :: _ :: _ :: _ :: _ :: _ :: _ :: _ :: _ :: _ :: _ :: _ :: _ :: _ :: _ :: _ :: _ :: _ :: _ :: _ :: _ :: _ :: _ :: _ :: _ :: _ :: .pointer (some ⟨w1.heap.size, 1, none⟩) :: .slice ao cs.length cp :: .slice (some ⟨eg, 0, none⟩) 2 pc2 :: .pointer (some ⟨eg, 0, none⟩) :: .string e0 :: .int .i64 r1 :: .slice (some ⟨tg, 0, none⟩) 2 qc :: .pointer (some ⟨tg, 0, none⟩) :: .string t0 :: .int .i64 A :: .slice (some ⟨tg, 0, none⟩) 2 qc :: .pointer (some ⟨tg, 1, none⟩) :: .string t1 :: .int .i64 Dd :: .agg #[.int .i64 r1, .int .i64 A, .int .i64 Dd] :: .slice (some ⟨wc_.heap.size, 0, none⟩) 1 1 :: _ :: _ :: _ :: _ :: _ :: _ :: _ :: _ :: _ :: _ :: _ :: _ :: _ :: []), defers := [] } _
                refine wpAnyH_ready (rs := [16]) (by kernel_rfl) (by simp) ?_
                refine (AllReadyH.cons rfl (fun KK hK => ?_) AllReadyH.nil)
                refine step_append_lies _ (by rfl) _ _ _ (by rfl) (w1.heap.size + 1) 36 i0 _ 3 24 Tryd.underlying24 hi hz0 hz1 hz2 rfl (by omega) (.slice ao cs.length cp) cs.length (flatHalts cs) (by rfl) (own_keep L2.own BA) ⟨wc_.heap.size, 0, none⟩ 1 1 (HaltV.vs ⟨r1, A, Dd⟩) (by rfl) (by rfl) (World.news_of_block HN) (by simp [HaltV.vs, Value.oneCell']) (by omega) (by unfold maxLen; omega) (by omega) (by have := BA.size; simp at this ⊢; omega) (wc_.heap.size + 1) (by simp) ?_
                intro g cap2 w9 hown hgrow hat hlt2
                have L4 := L2.pushX (x := ⟨r1, A, Dd⟩) BA hown hgrow
                have y0 := far_cell hgrow (ble BA z0) (fun j hj => by have := hob j hj; omega)
                have y1 := far_cell hgrow (ble BA z1) (fun j hj => by have := hob j hj; omega)
                have y2 := far_cell hgrow (ble BA z2) (fun j hj => by have := hob j hj; omega)
                obtain ⟨⟨u0, u1⟩, f0, f1⟩ := blk2 (far_blkT hgrow (blk_keep BA L2.out) (fun j hj => by have := own_from L2.own (Nat.le_refl _) j hj; omega))
                have HR := hr1
                have hI4 := hide (hX.out r1 HR)
                clear hHeld
                refine hK.out _ _ (⟨y0, y1, y2⟩) (fun hHeld => ?_)
                clear hK KK
                change wpAnyH _ _ _ _ _ _ _ { tmps := List.toArray (_ :: _ :: _ :: _ :: .slice (some ⟨pg, 0, none⟩) ps.length pc :: .pointer (some ⟨w1.heap.size, 0, none⟩) :: _ :: .slice (some ⟨eg, 0, none⟩) 2 pc2 :: .slice (some ⟨tg, 0, none⟩) 2 qc :: _ :: _ :: _ :: _ :: _ :: _ :: _ :: _ :: _ :: _ :: _ :: _ :: _ :: _ :: _ :: _ :: _ :: _ :: _ :: _ :: _ :: _ :: _ :: _ :: _ :: _ :: _ :: _ :: _ :: _ :: _ :: _ :: _ :: .pointer (some ⟨w1.heap.size, 1, none⟩) :: .slice ao cs.length cp :: .slice (some ⟨eg, 0, none⟩) 2 pc2 :: .pointer (some ⟨eg, 0, none⟩) :: .string e0 :: .int .i64 r1 :: .slice (some ⟨tg, 0, none⟩) 2 qc :: .pointer (some ⟨tg, 0, none⟩) :: .string t0 :: .int .i64 A :: .slice (some ⟨tg, 0, none⟩) 2 qc :: .pointer (some ⟨tg, 1, none⟩) :: .string t1 :: .int .i64 Dd :: .agg #[.int .i64 r1, .int .i64 A, .int .i64 Dd] :: .slice (some ⟨wc_.heap.size, 0, none⟩) 1 1 :: .slice (some ⟨g, 0, none⟩) (cs.length + 1) cap2 :: _ :: _ :: _ :: _ :: _ :: _ :: _ :: _ :: _ :: _ :: _ :: _ :: []), defers := [] } _
                refine wpAnyH_take (i := 17) (v := .pointer (some ⟨w1.heap.size, 1, none⟩)) rfl (by kernel_rfl) (by kernel_rfl) (by kernel_rfl) (fun _ _ _ h => h) (Or.inl ⟨by kernel_rfl, fun w hS => by go_simp⟩) hHeld ?_
                change wpAnyH _ _ _ _ _ _ _ { tmps := List.toArray (_ :: _ :: _ :: _ :: .slice (some ⟨pg, 0, none⟩) ps.length pc :: .pointer (some ⟨w1.heap.size, 0, none⟩) :: _ :: .slice (some ⟨eg, 0, none⟩) 2 pc2 :: .slice (some ⟨tg, 0, none⟩) 2 qc :: _ :: _ :: _ :: _ :: _ :: _ :: _ :: _ :: _ :: _ :: _ :: _ :: _ :: _ :: _ :: _ :: _ :: _ :: _ :: _ :: _ :: _ :: _ :: _ :: _ :: _ :: _ :: _ :: _ :: _ :: _ :: _ :: _ :: .pointer (some ⟨w1.heap.size, 1, none⟩) :: .slice ao cs.length cp :: .slice (some ⟨eg, 0, none⟩) 2 pc2 :: .pointer (some ⟨eg, 0, none⟩) :: .string e0 :: .int .i64 r1 :: .slice (some ⟨tg, 0, none⟩) 2 qc :: .pointer (some ⟨tg, 0, none⟩) :: .string t0 :: .int .i64 A :: .slice (some ⟨tg, 0, none⟩) 2 qc :: .pointer (some ⟨tg, 1, none⟩) :: .string t1 :: .int .i64 Dd :: .agg #[.int .i64 r1, .int .i64 A, .int .i64 Dd] :: .slice (some ⟨wc_.heap.size, 0, none⟩) 1 1 :: .slice (some ⟨g, 0, none⟩) (cs.length + 1) cap2 :: .pointer (some ⟨w1.heap.size, 1, none⟩) :: _ :: _ :: _ :: _ :: _ :: _ :: _ :: _ :: _ :: _ :: _ :: []), defers := [] } _
                refine wpAnyH_ready (rs := [18]) (by kernel_rfl) (by simp) ?_
                refine (AllReadyH.cons rfl (fun KK hK => ?_) AllReadyH.nil)
                go_simp
                clear hHeld
                refine hK.out _ _ (⟨set1_cell y0 hET.1, set1_cell y1 hET.2, set1_cell y2 hET.2⟩) (fun hHeld => ?_)
                clear hK KK
                change wpAnyH _ _ _ _ _ _ _ { tmps := List.toArray (_ :: _ :: _ :: _ :: .slice (some ⟨pg, 0, none⟩) ps.length pc :: .pointer (some ⟨w1.heap.size, 0, none⟩) :: _ :: .slice (some ⟨eg, 0, none⟩) 2 pc2 :: .slice (some ⟨tg, 0, none⟩) 2 qc :: _ :: _ :: _ :: _ :: _ :: _ :: _ :: _ :: _ :: _ :: _ :: _ :: _ :: _ :: _ :: _ :: _ :: _ :: _ :: _ :: _ :: _ :: _ :: _ :: _ :: _ :: _ :: _ :: _ :: _ :: _ :: _ :: _ :: .pointer (some ⟨w1.heap.size, 1, none⟩) :: .slice ao cs.length cp :: .slice (some ⟨eg, 0, none⟩) 2 pc2 :: .pointer (some ⟨eg, 0, none⟩) :: .string e0 :: .int .i64 r1 :: .slice (some ⟨tg, 0, none⟩) 2 qc :: .pointer (some ⟨tg, 0, none⟩) :: .string t0 :: .int .i64 A :: .slice (some ⟨tg, 0, none⟩) 2 qc :: .pointer (some ⟨tg, 1, none⟩) :: .string t1 :: .int .i64 Dd :: .agg #[.int .i64 r1, .int .i64 A, .int .i64 Dd] :: .slice (some ⟨wc_.heap.size, 0, none⟩) 1 1 :: .slice (some ⟨g, 0, none⟩) (cs.length + 1) cap2 :: .pointer (some ⟨w1.heap.size, 1, none⟩) :: _ :: _ :: _ :: _ :: _ :: _ :: _ :: _ :: _ :: _ :: _ :: []), defers := [] } _
                refine wpAnyH_done (by kernel_rfl) ?_ _
                clear hown hgrow hat u0 u1 y0 y1 y2 HR o1
                go_wp2
                go_roundw
                case rel => exact ⟨k + 1, _, some ⟨g, 0, none⟩, cap2, by omega, by go_num, hI4, by simpa using L4⟩
                case measure => simp [intOf]; omega
              · skip
                go_simp
                go_wp2_with fail
                refine (CT0 _ B1).mono ?_
                rintro e1 wb ⟨rfl, hbx⟩
                have B2 := btrans B1 hbx
                clear hbx
                have o1 := ble B2 o1d
                clear hHeld
                refine hK.out _ _ (⟨ble B2 z0, ble B2 z1, ble B2 z2⟩) (fun hHeld => ?_)
                clear hK KK
                change wpAnyH _ _ _ _ _ _ _ { tmps := List.toArray (_ :: _ :: _ :: _ :: .slice (some ⟨pg, 0, none⟩) ps.length pc :: .pointer (some ⟨w1.heap.size, 0, none⟩) :: _ :: .slice (some ⟨eg, 0, none⟩) 2 pc2 :: .slice (some ⟨tg, 0, none⟩) 2 qc :: _ :: _ :: _ :: _ :: _ :: _ :: _ :: _ :: _ :: _ :: _ :: _ :: _ :: _ :: _ :: _ :: _ :: _ :: _ :: _ :: _ :: _ :: _ :: _ :: _ :: _ :: _ :: _ :: _ :: _ :: _ :: _ :: _ :: .pointer (some ⟨w1.heap.size, 1, none⟩) :: _ :: .slice (some ⟨eg, 0, none⟩) 2 pc2 :: .pointer (some ⟨eg, 0, none⟩) :: .string e0 :: .int .i64 r1 :: .slice (some ⟨tg, 0, none⟩) 2 qc :: .pointer (some ⟨tg, 0, none⟩) :: .string t0 :: .int .i64 A :: .slice (some ⟨tg, 0, none⟩) 2 qc :: .pointer (some ⟨tg, 1, none⟩) :: .string t1 :: _ :: _ :: _ :: _ :: _ :: _ :: _ :: _ :: _ :: _ :: _ :: _ :: _ :: _ :: _ :: _ :: []), defers := [] } _
                refine wpAnyH_ready (rs := [1, 13]) (by kernel_rfl) (by simp) ?_
                refine (AllReadyH.cons rfl (fun KK hK => ?_) (AllReadyH.cons rfl (fun KK hK => ?_) AllReadyH.nil))
                · skip
                  go_simp
                  clear hHeld
                  refine hK.out _ _ (⟨ble B2 z0, ble B2 z1, ble B2 z2⟩) (fun hHeld => ?_)
                  clear hK KK
                  change wpAnyH _ _ _ _ _ _ _ { tmps := List.toArray (_ :: _ :: _ :: _ :: .slice (some ⟨pg, 0, none⟩) ps.length pc :: .pointer (some ⟨w1.heap.size, 0, none⟩) :: _ :: .slice (some ⟨eg, 0, none⟩) 2 pc2 :: .slice (some ⟨tg, 0, none⟩) 2 qc :: _ :: _ :: _ :: _ :: _ :: _ :: _ :: _ :: _ :: _ :: _ :: _ :: _ :: _ :: _ :: _ :: _ :: _ :: _ :: _ :: _ :: _ :: _ :: _ :: _ :: _ :: _ :: _ :: _ :: _ :: _ :: _ :: _ :: .pointer (some ⟨w1.heap.size, 1, none⟩) :: .slice ao cs.length cp :: .slice (some ⟨eg, 0, none⟩) 2 pc2 :: .pointer (some ⟨eg, 0, none⟩) :: .string e0 :: .int .i64 r1 :: .slice (some ⟨tg, 0, none⟩) 2 qc :: .pointer (some ⟨tg, 0, none⟩) :: .string t0 :: .int .i64 A :: .slice (some ⟨tg, 0, none⟩) 2 qc :: .pointer (some ⟨tg, 1, none⟩) :: .string t1 :: _ :: _ :: _ :: _ :: _ :: _ :: _ :: _ :: _ :: _ :: _ :: _ :: _ :: _ :: _ :: _ :: []), defers := [] } _
                  refine wpAnyH_ready (rs := [13]) (by kernel_rfl) (by simp) ?_
                  refine (AllReadyH.cons rfl (fun KK hK => ?_) AllReadyH.nil)
                  go_simp
                  go_wp2_with fail
                  refine (CT1 _ B2).mono ?_
                  rintro e1 wc_ ⟨rfl, hbx⟩
                  have B3 := btrans B2 hbx
                  clear hbx
                  clear hHeld
                  refine hK.out _ _ (⟨ble B3 z0, ble B3 z1, ble B3 z2⟩) (fun hHeld => ?_)
                  clear hK KK
                  change wpAnyH _ _ _ _ _ _ _ { tmps := List.toArray (_ :: _ :: _ :: _ :: .slice (some ⟨pg, 0, none⟩) ps.length pc :: .pointer (some ⟨w1.heap.size, 0, none⟩) :: _ :: .slice (some ⟨eg, 0, none⟩) 2 pc2 :: .slice (some ⟨tg, 0, none⟩) 2 qc :: _ :: _ :: _ :: _ :: _ :: _ :: _ :: _ :: _ :: _ :: _ :: _ :: _ :: _ :: _ :: _ :: _ :: _ :: _ :: _ :: _ :: _ :: _ :: _ :: _ :: _ :: _ :: _ :: _ :: _ :: _ :: _ :: _ :: .pointer (some ⟨w1.heap.size, 1, none⟩) :: .slice ao cs.length cp :: .slice (some ⟨eg, 0, none⟩) 2 pc2 :: .pointer (some ⟨eg, 0, none⟩) :: .string e0 :: .int .i64 r1 :: .slice (some ⟨tg, 0, none⟩) 2 qc :: .pointer (some ⟨tg, 0, none⟩) :: .string t0 :: .int .i64 A :: .slice (some ⟨tg, 0, none⟩) 2 qc :: .pointer (some ⟨tg, 1, none⟩) :: .string t1 :: .int .i64 Dd :: _ :: _ :: _ :: _ :: _ :: _ :: _ :: _ :: _ :: _ :: _ :: _ :: _ :: _ :: _ :: []), defers := [] } _
                  refine wpAnyH_take (i := 14) (v := .agg #[.int .i64 r1, .int .i64 A, .int .i64 Dd]) rfl (by kernel_rfl) (by kernel_rfl) (by kernel_rfl) (fun _ _ _ h => h) (Or.inl ⟨by kernel_rfl, fun w hS => by go_simp⟩) hHeld ?_
                  change wpAnyH _ _ _ _ _ _ _ { tmps := List.toArray (_ :: _ :: _ :: _ :: .slice (some ⟨pg, 0, none⟩) ps.length pc :: .pointer (some ⟨w1.heap.size, 0, none⟩) :: _ :: .slice (some ⟨eg, 0, none⟩) 2 pc2 :: .slice (some ⟨tg, 0, none⟩) 2 qc :: _ :: _ :: _ :: _ :: _ :: _ :: _ :: _ :: _ :: _ :: _ :: _ :: _ :: _ :: _ :: _ :: _ :: _ :: _ :: _ :: _ :: _ :: _ :: _ :: _ :: _ :: _ :: _ :: _ :: _ :: _ :: _ :: _ :: .pointer (some ⟨w1.heap.size, 1, none⟩) :: .slice ao cs.length cp :: .slice (some ⟨eg, 0, none⟩) 2 pc2 :: .pointer (some ⟨eg, 0, none⟩) :: .string e0 :: .int .i64 r1 :: .slice (some ⟨tg, 0, none⟩) 2 qc :: .pointer (some ⟨tg, 0, none⟩) :: .string t0 :: .int .i64 A :: .slice (some ⟨tg, 0, none⟩) 2 qc :: .pointer (some ⟨tg, 1, none⟩) :: .string t1 :: .int .i64 Dd :: .agg #[.int .i64 r1, .int .i64 A, .int .i64 Dd] :: _ :: _ :: _ :: _ :: _ :: _ :: _ :: _ :: _ :: _ :: _ :: _ :: _ :: _ :: []), defers := [] } _
                  refine wpAnyH_ready (rs := [15]) (by kernel_rfl) (by simp) ?_
                  refine (AllReadyH.cons rfl (fun KK hK => ?_) AllReadyH.nil)
                  go_simp
                  have hal := balloc wc_ (.cells #[.int .i64 r1, .int .i64 A, .int .i64 Dd] 36)
                  have BA := btrans B3 hal
                  have HN := one_block' wc_ (.cells #[.int .i64 r1, .int .i64 A, .int .i64 Dd] 36)
                  clear hal
                  clear hHeld
                  refine hK.out _ _ (⟨ble BA z0, ble BA z1, ble BA z2⟩) (fun hHeld => ?_)
                  clear hK KK
                  change wpAnyH _ _ _ _ _ _ _ { tmps := List.toArray (_ :: _ :: _ :: _ :: .slice (some ⟨pg, 0, none⟩) ps.length pc :: .pointer (some ⟨w1.heap.size, 0, none⟩) :: _ :: .slice (some ⟨eg, 0, none⟩) 2 pc2 :: .slice (some ⟨tg, 0, none⟩) 2 qc :: _ :: _ :: _ :: _ :: _ :: _ :: _ :: _ :: _ :: _ :: _ :: _ :: _ :: _ :: _ :: _ :: _ :: _ :: _ :: _ :: _ :: _ :: _ :: _ :: _ :: _ :: _ :: _ :: _ :: _ :: _ :: _ :: _ :: .pointer (some ⟨w1.heap.size, 1, none⟩) :: .slice ao cs.length cp :: .slice (some ⟨eg, 0, none⟩) 2 pc2 :: .pointer (some ⟨eg, 0, none⟩) :: .string e0 :: .int .i64 r1 :: .slice (some ⟨tg, 0, none⟩) 2 qc :: .pointer (some ⟨tg, 0, none⟩) :: .string t0 :: .int .i64 A :: .slice (some ⟨tg, 0, none⟩) 2 qc :: .pointer (some ⟨tg, 1, none⟩) :: .string t1 :: .int .i64 Dd :: .agg #[.int .i64 r1, .int .i64 A, .int .i64 Dd] :: .slice (some ⟨wc_.heap.size, 0, none⟩) 1 1 :: _ :: _ :: _ :: _ :: _ :: _ :: _ :: _ :: _ :: _ :: _ :: _ :: _ :: []), defers := [] } _
                  refine wpAnyH_ready (rs := [16]) (by kernel_rfl) (by simp) ?_
                  refine (AllReadyH.cons rfl (fun KK hK => ?_) AllReadyH.nil)
                  refine step_append_lies _ (by rfl) _ _ _ (by rfl) (w1.heap.size + 1) 36 i0 _ 3 24 Tryd.underlying24 hi hz0 hz1 hz2 rfl (by omega) (.slice ao cs.length cp) cs.length (flatHalts cs) (by rfl) (own_keep L2.own BA) ⟨wc_.heap.size, 0, none⟩ 1 1 (HaltV.vs ⟨r1, A, Dd⟩) (by rfl) (by rfl) (World.news_of_block HN) (by simp [HaltV.vs, Value.oneCell']) (by omega) (by unfold maxLen; omega) (by omega) (by have := BA.size; simp at this ⊢; omega) (wc_.heap.size + 1) (by simp) ?_
                  intro g cap2 w9 hown hgrow hat hlt2
                  have L4 := L2.pushX (x := ⟨r1, A, Dd⟩) BA hown hgrow
                  have y0 := far_cell hgrow (ble BA z0) (fun j hj => by have := hob j hj; omega)
                  have y1 := far_cell hgrow (ble BA z1) (fun j hj => by have := hob j hj; omega)
                  have y2 := far_cell hgrow (ble BA z2) (fun j hj => by have := hob j hj; omega)
                  obtain ⟨⟨u0, u1⟩, f0, f1⟩ := blk2 (far_blkT hgrow (blk_keep BA L2.out) (fun j hj => by have := own_from L2.own (Nat.le_refl _) j hj; omega))
                  have HR := hr1
                  have hI4 := hide (hX.out r1 HR)
                  clear hHeld
                  refine hK.out _ _ (⟨y0, y1, y2⟩) (fun hHeld => ?_)
                  clear hK KK
                  change wpAnyH _ _ _ _ _ _ _ { tmps := List.toArray (_ :: _ :: _ :: _ :: .slice (some ⟨pg, 0, none⟩) ps.length pc :: .pointer (some ⟨w1.heap.size, 0, none⟩) :: _ :: .slice (some ⟨eg, 0, none⟩) 2 pc2 :: .slice (some ⟨tg, 0, none⟩) 2 qc :: _ :: _ :: _ :: _ :: _ :: _ :: _ :: _ :: _ :: _ :: _ :: _ :: _ :: _ :: _ :: _ :: _ :: _ :: _ :: _ :: _ :: _ :: _ :: _ :: _ :: _ :: _ :: _ :: _ :: _ :: _ :: _ :: _ :: .pointer (some ⟨w1.heap.size, 1, none⟩) :: .slice ao cs.length cp :: .slice (some ⟨eg, 0, none⟩) 2 pc2 :: .pointer (some ⟨eg, 0, none⟩) :: .string e0 :: .int .i64 r1 :: .slice (some ⟨tg, 0, none⟩) 2 qc :: .pointer (some ⟨tg, 0, none⟩) :: .string t0 :: .int .i64 A :: .slice (some ⟨tg, 0, none⟩) 2 qc :: .pointer (some ⟨tg, 1, none⟩) :: .string t1 :: .int .i64 Dd :: .agg #[.int .i64 r1, .int .i64 A, .int .i64 Dd] :: .slice (some ⟨wc_.heap.size, 0, none⟩) 1 1 :: .slice (some ⟨g, 0, none⟩) (cs.length + 1) cap2 :: _ :: _ :: _ :: _ :: _ :: _ :: _ :: _ :: _ :: _ :: _ :: _ :: []), defers := [] } _
                  refine wpAnyH_take (i := 17) (v := .pointer (some ⟨w1.heap.size, 1, none⟩)) rfl (by kernel_rfl) (by kernel_rfl) (by kernel_rfl) (fun _ _ _ h => h) (Or.inl ⟨by kernel_rfl, fun w hS => by go_simp⟩) hHeld ?_
                  change wpAnyH _ _ _ _ _ _ _ { tmps := List.toArray (_ :: _ :: _ :: _ :: .slice (some ⟨pg, 0, none⟩) ps.length pc :: .pointer (some ⟨w1.heap.size, 0, none⟩) :: _ :: .slice (some ⟨eg, 0, none⟩) 2 pc2 :: .slice (some ⟨tg, 0, none⟩) 2 qc :: _ :: _ :: _ :: _ :: _ :: _ :: _ :: _ :: _ :: _ :: _ :: _ :: _ :: _ :: _ :: _ :: _ :: _ :: _ :: _ :: _ :: _ :: _ :: _ :: _ :: _ :: _ :: _ :: _ :: _ :: _ :: _ :: _ :: .pointer (some ⟨w1.heap.size, 1, none⟩) :: .slice ao cs.length cp :: .slice (some ⟨eg, 0, none⟩) 2 pc2 :: .pointer (some ⟨eg, 0, none⟩) :: .string e0 :: .int .i64 r1 :: .slice (some ⟨tg, 0, none⟩) 2 qc :: .pointer (some ⟨tg, 0, none⟩) :: .string t0 :: .int .i64 A :: .slice (some ⟨tg, 0, none⟩) 2 qc :: .pointer (some ⟨tg, 1, none⟩) :: .string t1 :: .int .i64 Dd :: .agg #[.int .i64 r1, .int .i64 A, .int .i64 Dd] :: .slice (some ⟨wc_.heap.size, 0, none⟩) 1 1 :: .slice (some ⟨g, 0, none⟩) (cs.length + 1) cap2 :: .pointer (some ⟨w1.heap.size, 1, none⟩) :: _ :: _ :: _ :: _ :: _ :: _ :: _ :: _ :: _ :: _ :: _ :: []), defers := [] } _
                  refine wpAnyH_ready (rs := [18]) (by kernel_rfl) (by simp) ?_
                  refine (AllReadyH.cons rfl (fun KK hK => ?_) AllReadyH.nil)
                  go_simp
                  clear hHeld
                  refine hK.out _ _ (⟨set1_cell y0 hET.1, set1_cell y1 hET.2, set1_cell y2 hET.2⟩) (fun hHeld => ?_)
                  clear hK KK
                  change wpAnyH _ _ _ _ _ _ _ { tmps := List.toArray (_ :: _ :: _ :: _ :: .slice (some ⟨pg, 0, none⟩) ps.length pc :: .pointer (some ⟨w1.heap.size, 0, none⟩) :: _ :: .slice (some ⟨eg, 0, none⟩) 2 pc2 :: .slice (some ⟨tg, 0, none⟩) 2 qc :: _ :: _ :: _ :: _ :: _ :: _ :: _ :: _ :: _ :: _ :: _ :: _ :: _ :: _ :: _ :: _ :: _ :: _ :: _ :: _ :: _ :: _ :: _ :: _ :: _ :: _ :: _ :: _ :: _ :: _ :: _ :: _ :: _ :: .pointer (some ⟨w1.heap.size, 1, none⟩) :: .slice ao cs.length cp :: .slice (some ⟨eg, 0, none⟩) 2 pc2 :: .pointer (some ⟨eg, 0, none⟩) :: .string e0 :: .int .i64 r1 :: .slice (some ⟨tg, 0, none⟩) 2 qc :: .pointer (some ⟨tg, 0, none⟩) :: .string t0 :: .int .i64 A :: .slice (some ⟨tg, 0, none⟩) 2 qc :: .pointer (some ⟨tg, 1, none⟩) :: .string t1 :: .int .i64 Dd :: .agg #[.int .i64 r1, .int .i64 A, .int .i64 Dd] :: .slice (some ⟨wc_.heap.size, 0, none⟩) 1 1 :: .slice (some ⟨g, 0, none⟩) (cs.length + 1) cap2 :: .pointer (some ⟨w1.heap.size, 1, none⟩) :: _ :: _ :: _ :: _ :: _ :: _ :: _ :: _ :: _ :: _ :: _ :: []), defers := [] } _
                  refine wpAnyH_done (by kernel_rfl) ?_ _
                  clear hown hgrow hat u0 u1 y0 y1 y2 HR o1
                  go_wp2
                  go_roundw
                  case rel => exact ⟨k + 1, _, some ⟨g, 0, none⟩, cap2, by omega, by go_num, hI4, by simpa using L4⟩
                  case measure => simp [intOf]; omega
                · skip
                  go_simp
                  go_wp2_with fail
                  refine (CT1 _ B2).mono ?_
                  rintro e1 wc_ ⟨rfl, hbx⟩
                  have B3 := btrans B2 hbx
                  clear hbx
                  have o1 := ble B3 o1d
                  clear hHeld
                  refine hK.out _ _ (⟨ble B3 z0, ble B3 z1, ble B3 z2⟩) (fun hHeld => ?_)
                  clear hK KK
                  change wpAnyH _ _ _ _ _ _ _ { tmps := List.toArray (_ :: _ :: _ :: _ :: .slice (some ⟨pg, 0, none⟩) ps.length pc :: .pointer (some ⟨w1.heap.size, 0, none⟩) :: _ :: .slice (some ⟨eg, 0, none⟩) 2 pc2 :: .slice (some ⟨tg, 0, none⟩) 2 qc :: _ :: _ :: _ :: _ :: _ :: _ :: _ :: _ :: _ :: _ :: _ :: _ :: _ :: _ :: _ :: _ :: _ :: _ :: _ :: _ :: _ :: _ :: _ :: _ :: _ :: _ :: _ :: _ :: _ :: _ :: _ :: _ :: _ :: .pointer (some ⟨w1.heap.size, 1, none⟩) :: _ :: .slice (some ⟨eg, 0, none⟩) 2 pc2 :: .pointer (some ⟨eg, 0, none⟩) :: .string e0 :: .int .i64 r1 :: .slice (some ⟨tg, 0, none⟩) 2 qc :: .pointer (some ⟨tg, 0, none⟩) :: .string t0 :: .int .i64 A :: .slice (some ⟨tg, 0, none⟩) 2 qc :: .pointer (some ⟨tg, 1, none⟩) :: .string t1 :: .int .i64 Dd :: _ :: _ :: _ :: _ :: _ :: _ :: _ :: _ :: _ :: _ :: _ :: _ :: _ :: _ :: _ :: []), defers := [] } _
                  refine wpAnyH_take (i := 14) (v := .agg #[.int .i64 r1, .int .i64 A, .int .i64 Dd]) rfl (by kernel_rfl) (by kernel_rfl) (by kernel_rfl) (fun _ _ _ h => h) (Or.inl ⟨by kernel_rfl, fun w hS => by go_simp⟩) hHeld ?_
                  change wpAnyH _ _ _ _ _ _ _ { tmps := List.toArray (_ :: _ :: _ :: _ :: .slice (some ⟨pg, 0, none⟩) ps.length pc :: .pointer (some ⟨w1.heap.size, 0, none⟩) :: _ :: .slice (some ⟨eg, 0, none⟩) 2 pc2 :: .slice (some ⟨tg, 0, none⟩) 2 qc :: _ :: _ :: _ :: _ :: _ :: _ :: _ :: _ :: _ :: _ :: _ :: _ :: _ :: _ :: _ :: _ :: _ :: _ :: _ :: _ :: _ :: _ :: _ :: _ :: _ :: _ :: _ :: _ :: _ :: _ :: _ :: _ :: _ :: .pointer (some ⟨w1.heap.size, 1, none⟩) :: _ :: .slice (some ⟨eg, 0, none⟩) 2 pc2 :: .pointer (some ⟨eg, 0, none⟩) :: .string e0 :: .int .i64 r1 :: .slice (some ⟨tg, 0, none⟩) 2 qc :: .pointer (some ⟨tg, 0, none⟩) :: .string t0 :: .int .i64 A :: .slice (some ⟨tg, 0, none⟩) 2 qc :: .pointer (some ⟨tg, 1, none⟩) :: .string t1 :: .int .i64 Dd :: .agg #[.int .i64 r1, .int .i64 A, .int .i64 Dd] :: _ :: _ :: _ :: _ :: _ :: _ :: _ :: _ :: _ :: _ :: _ :: _ :: _ :: _ :: []), defers := [] } _
                  refine wpAnyH_ready (rs := [1, 15]) (by kernel_rfl) (by simp) ?_
                  refine (AllReadyH.cons rfl (fun KK hK => ?_) (AllReadyH.cons rfl (fun KK hK => ?_) AllReadyH.nil))
                  · skip
                    go_simp
                    clear hHeld
                    refine hK.out _ _ (⟨ble B3 z0, ble B3 z1, ble B3 z2⟩) (fun hHeld => ?_)
                    clear hK KK
                    change wpAnyH _ _ _ _ _ _ _ { tmps := List.toArray (_ :: _ :: _ :: _ :: .slice (some ⟨pg, 0, none⟩) ps.length pc :: .pointer (some ⟨w1.heap.size, 0, none⟩) :: _ :: .slice (some ⟨eg, 0, none⟩) 2 pc2 :: .slice (some ⟨tg, 0, none⟩) 2 qc :: _ :: _ :: _ :: _ :: _ :: _ :: _ :: _ :: _ :: _ :: _ :: _ :: _ :: _ :: _ :: _ :: _ :: _ :: _ :: _ :: _ :: _ :: _ :: _ :: _ :: _ :: _ :: _ :: _ :: _ :: _ :: _ :: _ :: .pointer (some ⟨w1.heap.size, 1, none⟩) :: .slice ao cs.length cp :: .slice (some ⟨eg, 0, none⟩) 2 pc2 :: .pointer (some ⟨eg, 0, none⟩) :: .string e0 :: .int .i64 r1 :: .slice (some ⟨tg, 0, none⟩) 2 qc :: .pointer (some ⟨tg, 0, none⟩) :: .string t0 :: .int .i64 A :: .slice (some ⟨tg, 0, none⟩) 2 qc :: .pointer (some ⟨tg, 1, none⟩) :: .string t1 :: .int .i64 Dd :: .agg #[.int .i64 r1, .int .i64 A, .int .i64 Dd] :: _ :: _ :: _ :: _ :: _ :: _ :: _ :: _ :: _ :: _ :: _ :: _ :: _ :: _ :: []), defers := [] } _
                    refine wpAnyH_ready (rs := [15]) (by kernel_rfl) (by simp) ?_
                    refine (AllReadyH.cons rfl (fun KK hK => ?_) AllReadyH.nil)
                    go_simp
                    have hal := balloc wc_ (.cells #[.int .i64 r1, .int .i64 A, .int .i64 Dd] 36)
                    have BA := btrans B3 hal
                    have HN := one_block' wc_ (.cells #[.int .i64 r1, .int .i64 A, .int .i64 Dd] 36)
                    clear hal
                    clear hHeld
                    refine hK.out _ _ (⟨ble BA z0, ble BA z1, ble BA z2⟩) (fun hHeld => ?_)
                    clear hK KK
                    change wpAnyH _ _ _ _ _ _ _ { tmps := List.toArray (_ :: _ :: _ :: _ :: .slice (some ⟨pg, 0, none⟩) ps.length pc :: .pointer (some ⟨w1.heap.size, 0, none⟩) :: _ :: .slice (some ⟨eg, 0, none⟩) 2 pc2 :: .slice (some ⟨tg, 0, none⟩) 2 qc :: _ :: _ :: _ :: _ :: _ :: _ :: _ :: _ :: _ :: _ :: _ :: _ :: _ :: _ :: _ :: _ :: _ :: _ :: _ :: _ :: _ :: _ :: _ :: _ :: _ :: _ :: _ :: _ :: _ :: _ :: _ :: _ :: _ :: .pointer (some ⟨w1.heap.size, 1, none⟩) :: .slice ao cs.length cp :: .slice (some ⟨eg, 0, none⟩) 2 pc2 :: .pointer (some ⟨eg, 0, none⟩) :: .string e0 :: .int .i64 r1 :: .slice (some ⟨tg, 0, none⟩) 2 qc :: .pointer (some ⟨tg, 0, none⟩) :: .string t0 :: .int .i64 A :: .slice (some ⟨tg, 0, none⟩) 2 qc :: .pointer (some ⟨tg, 1, none⟩) :: .string t1 :: .int .i64 Dd :: .agg #[.int .i64 r1, .int .i64 A, .int .i64 Dd] :: .slice (some ⟨wc_.heap.size, 0, none⟩) 1 1 :: _ :: _ :: _ :: _ :: _ :: _ :: _ :: _ :: _ :: _ :: _ :: _ :: _ :: []), defers := [] } _
                    refine wpAnyH_ready (rs := [16]) (by kernel_rfl) (by simp) ?_
                    refine (AllReadyH.cons rfl (fun KK hK => ?_) AllReadyH.nil)
                    refine step_append_lies _ (by rfl) _ _ _ (by rfl) (w1.heap.size + 1) 36 i0 _ 3 24 Tryd.underlying24 hi hz0 hz1 hz2 rfl (by omega) (.slice ao cs.length cp) cs.length (flatHalts cs) (by rfl) (own_keep L2.own BA) ⟨wc_.heap.size, 0, none⟩ 1 1 (HaltV.vs ⟨r1, A, Dd⟩) (by rfl) (by rfl) (World.news_of_block HN) (by simp [HaltV.vs, Value.oneCell']) (by omega) (by unfold maxLen; omega) (by omega) (by have := BA.size; simp at this ⊢; omega) (wc_.heap.size + 1) (by simp) ?_
                    intro g cap2 w9 hown hgrow hat hlt2
                    have L4 := L2.pushX (x := ⟨r1, A, Dd⟩) BA hown hgrow
                    have y0 := far_cell hgrow (ble BA z0) (fun j hj => by have := hob j hj; omega)
                    have y1 := far_cell hgrow (ble BA z1) (fun j hj => by have := hob j hj; omega)
                    have y2 := far_cell hgrow (ble BA z2) (fun j hj => by have := hob j hj; omega)
                    obtain ⟨⟨u0, u1⟩, f0, f1⟩ := blk2 (far_blkT hgrow (blk_keep BA L2.out) (fun j hj => by have := own_from L2.own (Nat.le_refl _) j hj; omega))
                    have HR := hr1
                    have hI4 := hide (hX.out r1 HR)
                    clear hHeld
                    refine hK.out _ _ (⟨y0, y1, y2⟩) (fun hHeld => ?_)
                    clear hK KK
                    change wpAnyH _ _ _ _ _ _ _ { tmps := List.toArray (_ :: _ :: _ :: _ :: .slice (some ⟨pg, 0, none⟩) ps.length pc :: .pointer (some ⟨w1.heap.size, 0, none⟩) :: _ :: .slice (some ⟨eg, 0, none⟩) 2 pc2 :: .slice (some ⟨tg, 0, none⟩) 2 qc :: _ :: _ :: _ :: _ :: _ :: _ :: _ :: _ :: _ :: _ :: _ :: _ :: _ :: _ :: _ :: _ :: _ :: _ :: _ :: _ :: _ :: _ :: _ :: _ :: _ :: _ :: _ :: _ :: _ :: _ :: _ :: _ :: _ :: .pointer (some ⟨w1.heap.size, 1, none⟩) :: .slice ao cs.length cp :: .slice (some ⟨eg, 0, none⟩) 2 pc2 :: .pointer (some ⟨eg, 0, none⟩) :: .string e0 :: .int .i64 r1 :: .slice (some ⟨tg, 0, none⟩) 2 qc :: .pointer (some ⟨tg, 0, none⟩) :: .string t0 :: .int .i64 A :: .slice (some ⟨tg, 0, none⟩) 2 qc :: .pointer (some ⟨tg, 1, none⟩) :: .string t1 :: .int .i64 Dd :: .agg #[.int .i64 r1, .int .i64 A, .int .i64 Dd] :: .slice (some ⟨wc_.heap.size, 0, none⟩) 1 1 :: .slice (some ⟨g, 0, none⟩) (cs.length + 1) cap2 :: _ :: _ :: _ :: _ :: _ :: _ :: _ :: _ :: _ :: _ :: _ :: _ :: []), defers := [] } _
                    refine wpAnyH_take (i := 17) (v := .pointer (some ⟨w1.heap.size, 1, none⟩)) rfl (by kernel_rfl) (by kernel_rfl) (by kernel_rfl) (fun _ _ _ h => h) (Or.inl ⟨by kernel_rfl, fun w hS => by go_simp⟩) hHeld ?_
                    change wpAnyH _ _ _ _ _ _ _ { tmps := List.toArray (_ :: _ :: _ :: _ :: .slice (some ⟨pg, 0, none⟩) ps.length pc :: .pointer (some ⟨w1.heap.size, 0, none⟩) :: _ :: .slice (some ⟨eg, 0, none⟩) 2 pc2 :: .slice (some ⟨tg, 0, none⟩) 2 qc :: _ :: _ :: _ :: _ :: _ :: _ :: _ :: _ :: _ :: _ :: _ :: _ :: _ :: _ :: _ :: _ :: _ :: _ :: _ :: _ :: _ :: _ :: _ :: _ :: _ :: _ :: _ :: _ :: _ :: _ :: _ :: _ :: _ :: .pointer (some ⟨w1.heap.size, 1, none⟩) :: .slice ao cs.length cp :: .slice (some ⟨eg, 0, none⟩) 2 pc2 :: .pointer (some ⟨eg, 0, none⟩) :: .string e0 :: .int .i64 r1 :: .slice (some ⟨tg, 0, none⟩) 2 qc :: .pointer (some ⟨tg, 0, none⟩) :: .string t0 :: .int .i64 A :: .slice (some ⟨tg, 0, none⟩) 2 qc :: .pointer (some ⟨tg, 1, none⟩) :: .string t1 :: .int .i64 Dd :: .agg #[.int .i64 r1, .int .i64 A, .int .i64 Dd] :: .slice (some ⟨wc_.heap.size, 0, none⟩) 1 1 :: .slice (some ⟨g, 0, none⟩) (cs.length + 1) cap2 :: .pointer (some ⟨w1.heap.size, 1, none⟩) :: _ :: _ :: _ :: _ :: _ :: _ :: _ :: _ :: _ :: _ :: _ :: []), defers := [] } _
                    refine wpAnyH_ready (rs := [18]) (by kernel_rfl) (by simp) ?_
                    refine (AllReadyH.cons rfl (fun KK hK => ?_) AllReadyH.nil)
                    go_simp
                    clear hHeld
                    refine hK.out _ _ (⟨set1_cell y0 hET.1, set1_cell y1 hET.2, set1_cell y2 hET.2⟩) (fun hHeld => ?_)
                    clear hK KK
                    change wpAnyH _ _ _ _ _ _ _ { tmps := List.toArray (_ :: _ :: _ :: _ :: .slice (some ⟨pg, 0, none⟩) ps.length pc :: .pointer (some ⟨w1.heap.size, 0, none⟩) :: _ :: .slice (some ⟨eg, 0, none⟩) 2 pc2 :: .slice (some ⟨tg, 0, none⟩) 2 qc :: _ :: _ :: _ :: _ :: _ :: _ :: _ :: _ :: _ :: _ :: _ :: _ :: _ :: _ :: _ :: _ :: _ :: _ :: _ :: _ :: _ :: _ :: _ :: _ :: _ :: _ :: _ :: _ :: _ :: _ :: _ :: _ :: _ :: .pointer (some ⟨w1.heap.size, 1, none⟩) :: .slice ao cs.length cp :: .slice (some ⟨eg, 0, none⟩) 2 pc2 :: .pointer (some ⟨eg, 0, none⟩) :: .string e0 :: .int .i64 r1 :: .slice (some ⟨tg, 0, none⟩) 2 qc :: .pointer (some ⟨tg, 0, none⟩) :: .string t0 :: .int .i64 A :: .slice (some ⟨tg, 0, none⟩) 2 qc :: .pointer (some ⟨tg, 1, none⟩) :: .string t1 :: .int .i64 Dd :: .agg #[.int .i64 r1, .int .i64 A, .int .i64 Dd] :: .slice (some ⟨wc_.heap.size, 0, none⟩) 1 1 :: .slice (some ⟨g, 0, none⟩) (cs.length + 1) cap2 :: .pointer (some ⟨w1.heap.size, 1, none⟩) :: _ :: _ :: _ :: _ :: _ :: _ :: _ :: _ :: _ :: _ :: _ :: []), defers := [] } _
                    refine wpAnyH_done (by kernel_rfl) ?_ _
                    clear hown hgrow hat u0 u1 y0 y1 y2 HR o1
                    go_wp2
                    go_roundw
                    case rel => exact ⟨k + 1, _, some ⟨g, 0, none⟩, cap2, by omega, by go_num, hI4, by simpa using L4⟩
                    case measure => simp [intOf]; omega
                  · skip
                    go_simp
                    have hal := balloc wc_ (.cells #[.int .i64 r1, .int .i64 A, .int .i64 Dd] 36)
                    have BA := btrans B3 hal
                    have HN := one_block' wc_ (.cells #[.int .i64 r1, .int .i64 A, .int .i64 Dd] 36)
                    clear hal
                    have o1 := ble BA o1d
                    clear hHeld
                    refine hK.out _ _ (⟨ble BA z0, ble BA z1, ble BA z2⟩) (fun hHeld => ?_)
                    clear hK KK
                    change wpAnyH _ _ _ _ _ _ _ { tmps := List.toArray (_ :: _ :: _ :: _ :: .slice (some ⟨pg, 0, none⟩) ps.length pc :: .pointer (some ⟨w1.heap.size, 0, none⟩) :: _ :: .slice (some ⟨eg, 0, none⟩) 2 pc2 :: .slice (some ⟨tg, 0, none⟩) 2 qc :: _ :: _ :: _ :: _ :: _ :: _ :: _ :: _ :: _ :: _ :: _ :: _ :: _ :: _ :: _ :: _ :: _ :: _ :: _ :: _ :: _ :: _ :: _ :: _ :: _ :: _ :: _ :: _ :: _ :: _ :: _ :: _ :: _ :: .pointer (some ⟨w1.heap.size, 1, none⟩) :: _ :: .slice (some ⟨eg, 0, none⟩) 2 pc2 :: .pointer (some ⟨eg, 0, none⟩) :: .string e0 :: .int .i64 r1 :: .slice (some ⟨tg, 0, none⟩) 2 qc :: .pointer (some ⟨tg, 0, none⟩) :: .string t0 :: .int .i64 A :: .slice (some ⟨tg, 0, none⟩) 2 qc :: .pointer (some ⟨tg, 1, none⟩) :: .string t1 :: .int .i64 Dd :: .agg #[.int .i64 r1, .int .i64 A, .int .i64 Dd] :: .slice (some ⟨wc_.heap.size, 0, none⟩) 1 1 :: _ :: _ :: _ :: _ :: _ :: _ :: _ :: _ :: _ :: _ :: _ :: _ :: _ :: []), defers := [] } _
                    refine wpAnyH_ready (rs := [1]) (by kernel_rfl) (by simp) ?_
                    refine (AllReadyH.cons rfl (fun KK hK => ?_) AllReadyH.nil)
                    go_simp
                    clear hHeld
                    refine hK.out _ _ (⟨ble BA z0, ble BA z1, ble BA z2⟩) (fun hHeld => ?_)
                    clear hK KK
                    change wpAnyH _ _ _ _ _ _ _ { tmps := List.toArray (_ :: _ :: _ :: _ :: .slice (some ⟨pg, 0, none⟩) ps.length pc :: .pointer (some ⟨w1.heap.size, 0, none⟩) :: _ :: .slice (some ⟨eg, 0, none⟩) 2 pc2 :: .slice (some ⟨tg, 0, none⟩) 2 qc :: _ :: _ :: _ :: _ :: _ :: _ :: _ :: _ :: _ :: _ :: _ :: _ :: _ :: _ :: _ :: _ :: _ :: _ :: _ :: _ :: _ :: _ :: _ :: _ :: _ :: _ :: _ :: _ :: _ :: _ :: _ :: _ :: _ :: .pointer (some ⟨w1.heap.size, 1, none⟩) :: .slice ao cs.length cp :: .slice (some ⟨eg, 0, none⟩) 2 pc2 :: .pointer (some ⟨eg, 0, none⟩) :: .string e0 :: .int .i64 r1 :: .slice (some ⟨tg, 0, none⟩) 2 qc :: .pointer (some ⟨tg, 0, none⟩) :: .string t0 :: .int .i64 A :: .slice (some ⟨tg, 0, none⟩) 2 qc :: .pointer (some ⟨tg, 1, none⟩) :: .string t1 :: .int .i64 Dd :: .agg #[.int .i64 r1, .int .i64 A, .int .i64 Dd] :: .slice (some ⟨wc_.heap.size, 0, none⟩) 1 1 :: _ :: _ :: _ :: _ :: _ :: _ :: _ :: _ :: _ :: _ :: _ :: _ :: _ :: []), defers := [] } _
                    refine wpAnyH_ready (rs := [16]) (by kernel_rfl) (by simp) ?_
                    refine (AllReadyH.cons rfl (fun KK hK => ?_) AllReadyH.nil)
                    refine step_append_lies _ (by rfl) _ _ _ (by rfl) (w1.heap.size + 1) 36 i0 _ 3 24 Tryd.underlying24 hi hz0 hz1 hz2 rfl (by omega) (.slice ao cs.length cp) cs.length (flatHalts cs) (by rfl) (own_keep L2.own BA) ⟨wc_.heap.size, 0, none⟩ 1 1 (HaltV.vs ⟨r1, A, Dd⟩) (by rfl) (by rfl) (World.news_of_block HN) (by simp [HaltV.vs, Value.oneCell']) (by omega) (by unfold maxLen; omega) (by omega) (by have := BA.size; simp at this ⊢; omega) (wc_.heap.size + 1) (by simp) ?_
                    intro g cap2 w9 hown hgrow hat hlt2
                    have L4 := L2.pushX (x := ⟨r1, A, Dd⟩) BA hown hgrow
                    have y0 := far_cell hgrow (ble BA z0) (fun j hj => by have := hob j hj; omega)
                    have y1 := far_cell hgrow (ble BA z1) (fun j hj => by have := hob j hj; omega)
                    have y2 := far_cell hgrow (ble BA z2) (fun j hj => by have := hob j hj; omega)
                    obtain ⟨⟨u0, u1⟩, f0, f1⟩ := blk2 (far_blkT hgrow (blk_keep BA L2.out) (fun j hj => by have := own_from L2.own (Nat.le_refl _) j hj; omega))
                    have HR := hr1
                    have hI4 := hide (hX.out r1 HR)
                    clear hHeld
                    refine hK.out _ _ (⟨y0, y1, y2⟩) (fun hHeld => ?_)
                    clear hK KK
                    change wpAnyH _ _ _ _ _ _ _ { tmps := List.toArray (_ :: _ :: _ :: _ :: .slice (some ⟨pg, 0, none⟩) ps.length pc :: .pointer (some ⟨w1.heap.size, 0, none⟩) :: _ :: .slice (some ⟨eg, 0, none⟩) 2 pc2 :: .slice (some ⟨tg, 0, none⟩) 2 qc :: _ :: _ :: _ :: _ :: _ :: _ :: _ :: _ :: _ :: _ :: _ :: _ :: _ :: _ :: _ :: _ :: _ :: _ :: _ :: _ :: _ :: _ :: _ :: _ :: _ :: _ :: _ :: _ :: _ :: _ :: _ :: _ :: _ :: .pointer (some ⟨w1.heap.size, 1, none⟩) :: .slice ao cs.length cp :: .slice (some ⟨eg, 0, none⟩) 2 pc2 :: .pointer (some ⟨eg, 0, none⟩) :: .string e0 :: .int .i64 r1 :: .slice (some ⟨tg, 0, none⟩) 2 qc :: .pointer (some ⟨tg, 0, none⟩) :: .string t0 :: .int .i64 A :: .slice (some ⟨tg, 0, none⟩) 2 qc :: .pointer (some ⟨tg, 1, none⟩) :: .string t1 :: .int .i64 Dd :: .agg #[.int .i64 r1, .int .i64 A, .int .i64 Dd] :: .slice (some ⟨wc_.heap.size, 0, none⟩) 1 1 :: .slice (some ⟨g, 0, none⟩) (cs.length + 1) cap2 :: _ :: _ :: _ :: _ :: _ :: _ :: _ :: _ :: _ :: _ :: _ :: _ :: []), defers := [] } _
                    refine wpAnyH_take (i := 17) (v := .pointer (some ⟨w1.heap.size, 1, none⟩)) rfl (by kernel_rfl) (by kernel_rfl) (by kernel_rfl) (fun _ _ _ h => h) (Or.inl ⟨by kernel_rfl, fun w hS => by go_simp⟩) hHeld ?_
                    change wpAnyH _ _ _ _ _ _ _ { tmps := List.toArray (_ :: _ :: _ :: _ :: .slice (some ⟨pg, 0, none⟩) ps.length pc :: .pointer (some ⟨w1.heap.size, 0, none⟩) :: _ :: .slice (some ⟨eg, 0, none⟩) 2 pc2 :: .slice (some ⟨tg, 0, none⟩) 2 qc :: _ :: _ :: _ :: _ :: _ :: _ :: _ :: _ :: _ :: _ :: _ :: _ :: _ :: _ :: _ :: _ :: _ :: _ :: _ :: _ :: _ :: _ :: _ :: _ :: _ :: _ :: _ :: _ :: _ :: _ :: _ :: _ :: _ :: .pointer (some ⟨w1.heap.size, 1, none⟩) :: .slice ao cs.length cp :: .slice (some ⟨eg, 0, none⟩) 2 pc2 :: .pointer (some ⟨eg, 0, none⟩) :: .string e0 :: .int .i64 r1 :: .slice (some ⟨tg, 0, none⟩) 2 qc :: .pointer (some ⟨tg, 0, none⟩) :: .string t0 :: .int .i64 A :: .slice (some ⟨tg, 0, none⟩) 2 qc :: .pointer (some ⟨tg, 1, none⟩) :: .string t1 :: .int .i64 Dd :: .agg #[.int .i64 r1, .int .i64 A, .int .i64 Dd] :: .slice (some ⟨wc_.heap.size, 0, none⟩) 1 1 :: .slice (some ⟨g, 0, none⟩) (cs.length + 1) cap2 :: .pointer (some ⟨w1.heap.size, 1, none⟩) :: _ :: _ :: _ :: _ :: _ :: _ :: _ :: _ :: _ :: _ :: _ :: []), defers := [] } _
                    refine wpAnyH_ready (rs := [18]) (by kernel_rfl) (by simp) ?_
                    refine (AllReadyH.cons rfl (fun KK hK => ?_) AllReadyH.nil)
                    go_simp
                    clear hHeld
                    refine hK.out _ _ (⟨set1_cell y0 hET.1, set1_cell y1 hET.2, set1_cell y2 hET.2⟩) (fun hHeld => ?_)
                    clear hK KK
                    change wpAnyH _ _ _ _ _ _ _ { tmps := List.toArray (_ :: _ :: _ :: _ :: .slice (some ⟨pg, 0, none⟩) ps.length pc :: .pointer (some ⟨w1.heap.size, 0, none⟩) :: _ :: .slice (some ⟨eg, 0, none⟩) 2 pc2 :: .slice (some ⟨tg, 0, none⟩) 2 qc :: _ :: _ :: _ :: _ :: _ :: _ :: _ :: _ :: _ :: _ :: _ :: _ :: _ :: _ :: _ :: _ :: _ :: _ :: _ :: _ :: _ :: _ :: _ :: _ :: _ :: _ :: _ :: _ :: _ :: _ :: _ :: _ :: _ :: .pointer (some ⟨w1.heap.size, 1, none⟩) :: .slice ao cs.length cp :: .slice (some ⟨eg, 0, none⟩) 2 pc2 :: .pointer (some ⟨eg, 0, none⟩) :: .string e0 :: .int .i64 r1 :: .slice (some ⟨tg, 0, none⟩) 2 qc :: .pointer (some ⟨tg, 0, none⟩) :: .string t0 :: .int .i64 A :: .slice (some ⟨tg, 0, none⟩) 2 qc :: .pointer (some ⟨tg, 1, none⟩) :: .string t1 :: .int .i64 Dd :: .agg #[.int .i64 r1, .int .i64 A, .int .i64 Dd] :: .slice (some ⟨wc_.heap.size, 0, none⟩) 1 1 :: .slice (some ⟨g, 0, none⟩) (cs.length + 1) cap2 :: .pointer (some ⟨w1.heap.size, 1, none⟩) :: _ :: _ :: _ :: _ :: _ :: _ :: _ :: _ :: _ :: _ :: _ :: []), defers := [] } _
                    refine wpAnyH_done (by kernel_rfl) ?_ _
                    clear hown hgrow hat u0 u1 y0 y1 y2 HR o1
                    go_wp2
                    go_roundw
                    case rel => exact ⟨k + 1, _, some ⟨g, 0, none⟩, cap2, by omega, by go_num, hI4, by simpa using L4⟩
                    case measure => simp [intOf]; omega
  
          · have hno : ∀ x, callB x = true → callL x ≠ p := fun x hx hl => by
              obtain ⟨n, a, d, rfl, c1, c2, c3, c4, c5⟩ := hcut.out x hx hl
              simp only [List.cons.injEq, and_true] at c2
              have hq := hqs.out
              rw [c2.2, c3] at hq
              exact h3 (by rw [← hq]; rfl)
            have hne : ((us.length : Int) != 2) = true := by simp only [bne_iff_ne]; omega
            clear h3 hqs hpl3
            have hr : Hid (RdT l none) := hide (hbadi.out hno)
            have K3 := set2_blk (a := .string ⟨#[]⟩) (b := .slice none 0 0) K2
            have B3 := set2_below (a := .string ⟨#[]⟩) (b := .slice none 0 0) HB2 (Nat.le_of_eq hrb)
            obtain ⟨⟨s0, s1⟩, sf0, sf1⟩ := blk2 K2
            clear hbadi hpush L L2 hno hcut
            go_wp2_with fail
            obtain ⟨⟨v0, v1⟩, -⟩ := blk2 K3
            refine bodyPost_ret (v := .tuple #[.agg #[.string ⟨#[]⟩, .slice none 0 0], .bool false]) (by simp [results, Tryd.results14, v0, v1, go_sem]) rfl ?_
            exact .no hr.out B3
        · have hno : ∀ x, callB x = true → callL x ≠ p := fun x hx hl => by
            obtain ⟨n, a, d, rfl, c1, c2, c3, c4, c5⟩ := hcut.out x hx hl
            exact h2 (by rw [c2]; rfl)
          have hne : ((qs.length : Int) != 2) = true := by simp only [bne_iff_ne]; omega
          clear h2 hpl2
          have hr : Hid (RdT l none) := hide (hbadi.out hno)
          have K3 := set2_blk (a := .string ⟨#[]⟩) (b := .slice none 0 0) K2
          have B3 := set2_below (a := .string ⟨#[]⟩) (b := .slice none 0 0) HB2 (Nat.le_of_eq hrb)
          obtain ⟨⟨s0, s1⟩, sf0, sf1⟩ := blk2 K2
          clear hbadi hpush L L2 hno hcut
          go_wp2_with fail
          obtain ⟨⟨v0, v1⟩, -⟩ := blk2 K3
          refine bodyPost_ret (v := .tuple #[.agg #[.string ⟨#[]⟩, .slice none 0 0], .bool false]) (by simp [results, Tryd.results14, v0, v1, go_sem]) rfl ?_
          exact .no hr.out B3
      · have hke : k + 1 = ps.length := by omega
        have hltn : ¬ (((k + 1 : Nat) : Int) < (ps.length : Int)) := by omega
        obtain ⟨hE1, hE2⟩ := hend.out cs k hI.out hke
        have hE1 := hide hE1
        have hE2 := hide hE2
        have HBr := btrans HB L.bel
        have K1 := blk_keep L.bel K0
        have CO := fun W (h : Below wr.heap.size wr W) => cTripS s ao cp cs W (Halts.own (own_keep L.own h)) (by omega) hsz2
        have CX := fun W (h : Below wr.heap.size wr W) => cTextS s ao cp cs W (Halts.own (own_keep L.own h)) (by omega) hsz2
        obtain ⟨⟨o0, o1⟩, -⟩ := blk2 L.out
        have hLt := L.lt
        have hrl := lt_of_block K1
        clear hend hI hbad hpe oP p0 hke
        cases hB : tripB ⟨s, cs⟩
        · have hr : Hid (RdT l none) := hide (hE2.out (fun h => by rw [h.1] at hB; cases hB))
          rw [hB] at CO
          clear hE1 hE2 CX hB
          go_wp2_with fail
          refine (CO _ (Below.refl _ _)).mono ?_
          rintro e wx ⟨rfl, hbx⟩
          have KX := blk_keep hbx K1
          have HX := btrans HBr hbx
          have K3 := set2_blk (a := .string ⟨#[]⟩) (b := .slice none 0 0) KX
          have B3 := set2_below (a := .string ⟨#[]⟩) (b := .slice none 0 0) HX (Nat.le_of_eq hrb)
          obtain ⟨⟨s0, s1⟩, sf0, sf1⟩ := blk2 KX
          clear CO o0 o1
          go_wp2_with fail
          obtain ⟨⟨v0, v1⟩, -⟩ := blk2 K3
          refine bodyPost_ret (v := .tuple #[.agg #[.string ⟨#[]⟩, .slice none 0 0], .bool false]) (by simp [results, Tryd.results14, v0, v1, go_sem]) rfl ?_
          exact .no hr.out B3
        · rw [hB] at CO
          go_wp2_with fail
          refine (CO _ (Below.refl _ _)).mono ?_
          rintro e wx ⟨rfl, hbx⟩
          obtain ⟨⟨x0, x1⟩, -⟩ := blk2 (blk_keep hbx L.out)
          clear CO o0 o1
          go_wp2_with fail
          refine (CX _ hbx).mono ?_
          rintro e wy ⟨rfl, hby⟩
          have hbxy := btrans hbx hby
          have KX := blk_keep hbxy K1
          have HX := btrans HBr hbxy
          have OX := own_keep L.own hbxy
          obtain ⟨⟨y0, y1⟩, -⟩ := blk2 (blk_keep hbxy L.out)
          obtain ⟨⟨s0, s1⟩, sf0, sf1⟩ := blk2 KX
          clear CX x0 x1 hbx hby hbxy
          unfold S
          by_cases hs : tripL ⟨s, cs⟩ = l
          · have hr : Hid (RdT l (some ⟨s, cs⟩)) := hide (hE1.out ⟨hB, hs⟩)
            have ht2 : (⟨(tripL ⟨s, cs⟩).toArray⟩ : ByteArray) = T := by rw [hs]; exact hT.out.symm
            rw [ht2]
            have K3 := set2_blk (a := .string s) (b := .slice ao cs.length cp) KX
            have B3 := set2_below (a := .string s) (b := .slice ao cs.length cp) HX (Nat.le_of_eq hrb)
            have O3 : ((wy.setCell ⟨rb, 0, none⟩ (.string s)).setCell ⟨rb, 1, none⟩ (.slice ao cs.length cp)).ownsRow w.heap.size 36 3 (.slice ao cs.length cp) cs.length (flatHalts cs) := by
              have hge := own_from OX (Nat.le_refl _)
              refine own_base (own_set (own_set OX (fun j hj => ?_)) (fun j hj => ?_)) (by omega)
              · have := hge j hj; omega
              · have := hge j hj; omega
            clear hE1 hE2 hs ht2 hT hB
            go_wp2_with fail
            obtain ⟨⟨v0, v1⟩, -⟩ := blk2 K3
            refine bodyPost_ret (v := .tuple #[.agg #[.string s, .slice ao cs.length cp], .bool true]) (by simp [results, Tryd.results14, v0, v1, go_sem]) rfl ?_
            exact ⟨B3, ⟨s, cs⟩, ao, cp, true, rfl, O3, .inl ⟨rfl, hr.out⟩⟩
          · have hr : Hid (RdT l none) := hide (hE2.out (fun h => hs h.2))
            have ht2 : ((⟨(tripL ⟨s, cs⟩).toArray⟩ : ByteArray).toList == T.toList) = false := by
              rw [beq_eq_false_iff_ne, hT.out, ByteArray.toList_eq, ByteArray.toList_eq]; simpa using hs
            have K3 := set2_blk (a := .string ⟨#[]⟩) (b := .slice none 0 0) KX
            have B3 := set2_below (a := .string ⟨#[]⟩) (b := .slice none 0 0) HX (Nat.le_of_eq hrb)
            generalize (⟨(tripL ⟨s, cs⟩).toArray⟩ : ByteArray) = u at *
            clear hE1 hE2 hs hT hB
            go_wp2_with fail
            obtain ⟨⟨v0, v1⟩, -⟩ := blk2 K3
            refine bodyPost_ret (v := .tuple #[.agg #[.string ⟨#[]⟩, .slice none 0 0], .bool false]) (by simp [results, Tryd.results14, v0, v1, go_sem]) rfl ?_
            exact .no hr.out B3
end Go.Proofs.YthlmaljgnhakfaaDoor
