/- A trip read of a text: the program's ReadTrip. -/
import Derived.Test.YthlmaljgnhakfaaGreatDoorURC
import Derived.Test.YthlmaljgnhakfaaGreatDoorI
import Derived.Test.YthlmaljgnhakfaaGreatDoorTX
import Derived.Test.YthlmaljgnhakfaaGreatDoorTM
import Derived.Deep.Cut
import Derived.Deep.CutRange
import Derived.Deep.AppendLies
import Derived.Deep.RegionLaw
namespace Go.Proofs.YthlmaljgnhakfaaGreatDoor
open Go.RowKit
theorem own_capR {w : World} {base e sz n c : Nat} {a : Option Addr} {xs : List Value} (h : w.ownsRow base e sz (.slice a n c) n xs) : n ≤ c := by
  rcases h.2 with ⟨h2, h0⟩ | ⟨g, cap, cur, hv, hg, hh, hc, r⟩
  · omega
  · simp only [Value.slice.injEq] at hv; omega
theorem set2_blk {W : World} {g : Nat} {x y a b : Value} {t : TypeId} (h : W.heap[g]? = some (.cells #[x, y] t (0, 0))) : ((W.setCell ⟨g, 0, none⟩ a).setCell ⟨g, 1, none⟩ b).heap[g]? = some (.cells #[a, b] t (0, 0)) := by
  have h1 := blk_set (i := 0) (v := a) h
  have h2 := blk_set (i := 1) (v := b) h1
  simpa using h2
theorem set2_below {W w2 : World} {g : Nat} {a b : Value} (h : Below w2.heap.size w2 W) (hg : w2.heap.size ≤ g) : Below w2.heap.size w2 ((W.setCell ⟨g, 0, none⟩ a).setCell ⟨g, 1, none⟩ b) :=
  (h.setCell (p := ⟨g, 0, none⟩) hg a).setCell (p := ⟨g, 1, none⟩) hg b
/-- What ReadTrip answers: the trip whose text it is and true, or nothing and false. -/
def TripRd (w : World) (l : List UInt8) (e : Ending) (W : World) : Prop :=
  Below w.heap.size w W ∧ ∃ (t : TripV) (ao : Option Addr) (cp : Nat) (ok : Bool), e = .returned (.tuple #[.agg #[.string t.name, .slice ao t.calls.length cp], .bool ok]) ∧ W.ownsRow w.heap.size 33 3 (.slice ao t.calls.length cp) t.calls.length (flatHalts t.calls) ∧ ((ok = true ∧ RdT l (some t)) ∨ (ok = false ∧ RdT l none ∧ t = TripV.zero))
theorem TripRd.no {w W : World} {l : List UInt8} (h : RdT l none) (hb : Below w.heap.size w W) : TripRd w l (.returned (.tuple #[.agg #[.string ⟨#[]⟩, .slice none 0 0], .bool false])) W :=
  ⟨hb, TripV.zero, none, 0, false, rfl, World.ownsRow_nil _ _ _ _, .inr ⟨rfl, h, rfl⟩⟩
set_option maxRecDepth 100000 in
set_option maxHeartbeats 6400000 in
theorem cReadTripI (l : List UInt8) (w : World) (ht : Tab w) (he : Errs w) (hm : l.length ≤ 1048576) :
    Calls Tryz.prog 9 #[.string ⟨l.toArray⟩] w (TripRd w l) := by
  obtain ⟨i0, hi, hz0, hz1, hz2⟩ := info_parts infoHalts
  have hb0 := balloc w (.cells #[.string ⟨#[]⟩, .slice none 0 0] 26)
  have K0 := one_block' w (.cells #[.string ⟨#[]⟩, .slice none 0 0] 26)
  have CP0 := fun (h : l.length ≤ 300) W => cParted 32 32 (by decide) (by decide) l W (by omega)
  obtain ⟨T, hT⟩ : ∃ T : ByteArray, T = ⟨l.toArray⟩ := ⟨_, rfl⟩
  rw [← hT] at CP0 ⊢
  have hsz : Hid (T.size = l.length) := hide (by rw [hT]; rfl)
  obtain ⟨rb, hrb⟩ : ∃ rb, w.heap.size = rb := ⟨_, rfl⟩
  by_cases h300 : 300 < l.length
  · have hr : Hid (RdT l none) := hide (.inr ⟨rfl, fun t ht' hl => by have := tripL_len ht'; rw [hl] at this; omega⟩)
    have h1 : (300 : Int) < (T.size : Int) := by have := hsz.out; omega
    clear hT CP0
    rw [hrb] at K0
    obtain ⟨⟨v0, v1⟩, -⟩ := blk2 K0
    go_enter Tryz.func9, Tryz.ntmps9
    go_wp2_with fail
    refine bodyPost_ret (v := .tuple #[.agg #[.string ⟨#[]⟩, .slice none 0 0], .bool false]) (by simp [results, Tryz.results9, v0, v1, go_sem]) rfl ?_
    exact .no hr.out hb0
  have h1 : ¬ ((300 : Int) < (T.size : Int)) := by have := hsz.out; omega
  have CP := CP0 (by omega)
  have hbad : Hid (∀ j, j + 1 < (splitL 32 l).length → (∀ x, callB x = true → callL x ≠ (splitL 32 l).getD (j + 1) []) → RdT l none) := hide (fun j hj hb => rdt_bad hj hb)
  have hend : Hid (∀ cs q, CcI (splitL 32 l) q cs → q + 1 = (splitL 32 l).length → (tripB ⟨⟨((splitL 32 l).getD 0 []).toArray⟩, cs⟩ = true ∧ tripL ⟨⟨((splitL 32 l).getD 0 []).toArray⟩, cs⟩ = l → RdT l (some ⟨⟨((splitL 32 l).getD 0 []).toArray⟩, cs⟩)) ∧ (¬ (tripB ⟨⟨((splitL 32 l).getD 0 []).toArray⟩, cs⟩ = true ∧ tripL ⟨⟨((splitL 32 l).getD 0 []).toArray⟩, cs⟩ = l) → RdT l none)) := hide (fun cs q h hq => rdt_end h hq)
  have hpl : (splitL 32 l).length ≤ 301 := by have := splitL_len 32 l; omega
  have hp1 : 1 ≤ (splitL 32 l).length := List.length_pos_iff.2 (splitL_ne 32 l)
  have hpe : Hid (∀ p ∈ splitL 32 l, p.length ≤ 300) := hide (fun p hp => by have := splitL_each 32 l p hp; omega)
  generalize splitL 32 l = ps at *
  replace hT := hide hT
  clear h300 CP0
  go_enter Tryz.func9, Tryz.ntmps9
  go_wp2_with fail
  generalize w.alloc (.cells #[.string ⟨#[]⟩, .slice none 0 0] 26) = w0 at *
  rw [hrb] at K0
  refine (CP _).mono ?_
  rintro e w1 ⟨pa, pc, rfl, oP, hb⟩
  have HB := btrans hb0 hb
  replace K0 := blk_keep hb K0
  have hpc := own_capR oP
  obtain ⟨pg, rfl, p0⟩ := strs_cell oP (j := 0) (by omega)
  obtain ⟨s, hs⟩ : ∃ s : ByteArray, s = ⟨(ps.getD 0 []).toArray⟩ := ⟨_, rfl⟩
  rw [← hs] at p0
  rw [← hs] at hend
  clear hb0 hb CP hs
  have L0 : OutT w1 (w1.alloc (.cells #[.string s, .slice none 0 0] 26)) s none 0 [] := ⟨balloc _ _, one_block' _ _, World.ownsRow_nil _ _ _ _⟩
  have c0 : (0 : Int) ≤ 1 := by omega
  have c1 : (1 : Int) ≤ (ps.length : Int) := by omega
  have c2 : (ps.length : Int) ≤ (pc : Int) := by omega
  have pgl := cell_lt p0
  go_upto_region 5 with fail
  generalize w1.alloc (.cells #[.string s, .slice none 0 0] 26) = wA at *
  go_cut [22, 23, 24] from 21 (fun a b c wc => wc = wA ∧ b = .int .i64 ((ps.length - 1 : Nat) : Int) ∧ c = .int .i64 0 ∧ ∃ off c', a = .slice (some ⟨pg, off, none⟩) (ps.length - 1) c' ∧ (1 < ps.length → off = 1))
  case first =>
    by_cases hc1 : pc = 1
    · obtain rfl : pc = 1 := hc1
      have hp2 : ps.length = 1 := by omega
      go_wp2_with fail
      go_meet
      exact ⟨rfl, by simp [hp2], rfl, 0, _, by first | rfl | rw [hp2], fun h => by omega⟩
    · have c3 : (pc : Int) ≠ 1 := by omega
      go_wp2_with fail
      go_meet
      exact ⟨rfl, by go_num, rfl, 1, _, by first | rfl | (congr 1; omega), fun _ => rfl⟩
  case rest =>
    obtain ⟨rfl, rfl, rfl, off, c', rfl, hoff⟩ := hcut
    clear c0 c1 c2
    go_wp2
    go_loopw [7, 8, 9, 24] (fun _ _ _ ii wr => ∃ (k : Nat) (cs : List HaltV) (ao : Option Addr) (cp : Nat), k + 1 ≤ ps.length ∧ ii = .int .i64 k ∧ Hid (CcI ps k cs) ∧ OutT w1 wr s ao cp cs) (fun _ _ _ ii _ => ps.length - (intOf ii).toNat)
    case atStart => exact ⟨0, [], none, 0, hp1, rfl, hide (CcI.zero ps), L0⟩
    case round =>
      clear L0
      obtain ⟨k, cs, ao, cp, hk, rfl, hI, L⟩ := hrel
      have hcl := hide hI.out.1
      have hcs : cs.length ≤ 301 := by have := hcl.out; omega
      have hWs := HB.size
      by_cases hlt : k + 1 < ps.length
      · obtain rfl := hoff (by omega)
        have hlti : (k : Int) < ((ps.length - 1 : Nat) : Int) := by omega
        have hk0 : (0 : Int) ≤ (k : Int) := by omega
        obtain ⟨pg2, hge, p1⟩ := strs_cell oP hlt
        simp only [Option.some.injEq, Addr.mk.injEq, and_true] at hge
        subst hge
        have pr : wr.cell? ⟨pg, 1 + k, none⟩ = some (.string ⟨(ps.getD (k + 1) []).toArray⟩) := by rw [Nat.add_comm 1 k]; exact ble L.bel p1
        clear p1
        have hpe1 := hpe.out (ps.getD (k + 1) []) (by rw [show ps.getD (k + 1) [] = ps[k + 1] by simp [List.getD, hlt]]; exact List.getElem_mem hlt)
        have hbadi := hide (hbad.out k hlt)
        have hpush := hide (fun y => hI.out.push (y := y))
        have CU := fun W (h : Below wr.heap.size wr W) => cReadCall (ps.getD (k + 1) []) W (ht.below (btrans HB (btrans L.bel h))) (he.below (btrans HB (btrans L.bel h))) (by omega)
        generalize ps.getD (k + 1) [] = p at *
        obtain ⟨t, ht2⟩ : ∃ t : ByteArray, t = ⟨p.toArray⟩ := ⟨_, rfl⟩
        rw [← ht2] at pr CU
        clear ht2 hI
        have K1 := blk_keep L.bel K0
        have HBr := btrans HB L.bel
        go_wp2_with fail
        refine (CU _ (Below.refl _ _)).mono ?_
        rintro e w2 ⟨hb2, ⟨n, a, d⟩, ok, rfl, hcase⟩
        have L2 := L.keep hb2
        have K2 := blk_keep hb2 K1
        have HB2 := btrans HBr hb2
        unfold HaltV.val
        dsimp only
        clear CU hb2 K1 HBr pr
        rcases hcase with ⟨rfl, hc⟩ | ⟨rfl, hno⟩
        · have hI2 := hide (hpush.out ⟨n, a, d⟩ hc)
          have hC := one_block' w2 (.cells #[.int .i64 n, .int .i64 a, .int .i64 d] 33)
          have hob := own_blk_lt L2.own
          have L3 := L2.keep (balloc w2 (.cells #[.int .i64 n, .int .i64 a, .int .i64 d] 33))
          have hcl2 : w2.heap.size < (w2.alloc (.cells #[.int .i64 n, .int .i64 a, .int .i64 d] 33)).heap.size := by simp
          have hLt := L2.lt
          clear hbadi hpush K2 HB2 L
          go_wp2_with fail
          generalize w2.alloc (.cells #[.int .i64 n, .int .i64 a, .int .i64 d] 33) = wc at *
          have hne : ∀ j, (Value.slice ao cs.length cp).ownBlock = some j → j ≠ w2.heap.size := fun j hj => by have := hob j hj; omega
          have hne2 : w1.heap.size ≠ w2.heap.size := by omega
          have hbase : w1.heap.size + 1 ≤ wc.heap.size := by omega
          have hxl : w1.heap.size < wc.heap.size := by omega
          obtain ⟨⟨c0, c1, c2⟩, -⟩ := three8 hC
          obtain ⟨⟨o0, o1⟩, f0, f1⟩ := blk2 L3.out
          clear hob
          go_upto_region 11 with fail
          go_region_law
            ((refine step_append_lies _ (by rfl) _ _ _ (by rfl) (w1.heap.size + 1) 33 i0 _ 3 24 Tryz.underlying24 hi hz0 hz1 hz2 rfl (by omega) (.slice ao cs.length cp) cs.length (flatHalts cs) (by rfl) ((L3.own.drew).alloc _)
                ⟨wc.heap.size, 0, none⟩ 1 1 (HaltV.vs ⟨n, a, d⟩) (by rfl) (by rfl) (World.news_of_block (cs := #[.int .i64 n, .int .i64 a, .int .i64 d]) (t := 33) (fr := (0, 0)) (one_block' wc.drew _)) (by simp [HaltV.vs, Value.oneCell'])
                (by omega) (by unfold maxLen; omega) (by omega) (by simp; omega) (wc.heap.size + 1) (by simp) ?_; intro g cap2 w9 hown hgrow hat hlt2; obtain ⟨⟨u0, u1⟩, t0, t1⟩ := blk2 (L3.out2 hgrow); obtain ⟨⟨v0, v1, v2⟩, -⟩ := three8 ((L3.far hgrow hcl2 hne).trans hC)))
          all_goals have L4 := L3.push (x := ⟨n, a, d⟩) hown hgrow
          all_goals clear hown hgrow hat u0 u1 t0 t1 v0 v1 v2
          all_goals go_wp2
          all_goals go_roundw
          all_goals first | exact ⟨k + 1, _, some ⟨g, 0, none⟩, cap2, by omega, by go_num, hI2, by simpa using L4⟩ | (simp [intOf]; omega)
        · have hr : Hid (RdT l none) := hide (hbadi.out hno)
          have hb3 := balloc w2 (.cells #[.int .i64 n, .int .i64 a, .int .i64 d] 33)
          replace K2 := blk_keep hb3 K2
          replace HB2 := btrans HB2 hb3
          clear hb3
          have K3 := set2_blk (a := .string ⟨#[]⟩) (b := .slice none 0 0) K2
          have B3 := set2_below (a := .string ⟨#[]⟩) (b := .slice none 0 0) HB2 (Nat.le_of_eq hrb)
          obtain ⟨⟨s0, s1⟩, sf0, sf1⟩ := blk2 K2
          clear hbadi hpush L L2 hno
          go_wp2_with fail
          obtain ⟨⟨v0, v1⟩, -⟩ := blk2 K3
          refine bodyPost_ret (v := .tuple #[.agg #[.string ⟨#[]⟩, .slice none 0 0], .bool false]) (by simp [results, Tryz.results9, v0, v1, go_sem]) rfl ?_
          exact .no hr.out B3
      · have hke : k + 1 = ps.length := by omega
        have hltn : ¬ ((k : Int) < ((ps.length - 1 : Nat) : Int)) := by omega
        obtain ⟨hE1, hE2⟩ := hend.out cs k hI.out hke
        have hE1 := hide hE1
        have hE2 := hide hE2
        have HBr := btrans HB L.bel
        have K1 := blk_keep L.bel K0
        have CO := fun W (h : Below wr.heap.size wr W) => cTripI s ao cp cs W (Halts.own (own_keep L.own h)) (by omega) (own_capR L.own)
        have CX := fun W (h : Below wr.heap.size wr W) => cTextI s ao cp cs W (ht.below (btrans HBr h)) (Halts.own (own_keep L.own h)) (by omega) (own_capR L.own)
        obtain ⟨⟨o0, o1⟩, -⟩ := blk2 L.out
        have hLt := L.lt
        have hrl := lt_of_block K1
        clear hend hI hbad hpe oP p0 hke
        cases hB : tripB ⟨s, cs⟩
        · have hr : Hid (RdT l none) := hide (hE2.out (fun h => by rw [h.1] at hB; cases hB))
          rw [hB] at CO
          clear hE1 hE2 CX hB
          go_wp2_with fail
          refine (CO _ (Below.refl _ _)).mono ?_
          rintro e wx ⟨rfl, hbx⟩
          have KX := blk_keep hbx K1
          have HX := btrans HBr hbx
          have K3 := set2_blk (a := .string ⟨#[]⟩) (b := .slice none 0 0) KX
          have B3 := set2_below (a := .string ⟨#[]⟩) (b := .slice none 0 0) HX (Nat.le_of_eq hrb)
          obtain ⟨⟨s0, s1⟩, sf0, sf1⟩ := blk2 KX
          clear CO o0 o1
          go_wp2_with fail
          obtain ⟨⟨v0, v1⟩, -⟩ := blk2 K3
          refine bodyPost_ret (v := .tuple #[.agg #[.string ⟨#[]⟩, .slice none 0 0], .bool false]) (by simp [results, Tryz.results9, v0, v1, go_sem]) rfl ?_
          exact .no hr.out B3
        · rw [hB] at CO
          go_wp2_with fail
          refine (CO _ (Below.refl _ _)).mono ?_
          rintro e wx ⟨rfl, hbx⟩
          obtain ⟨⟨x0, x1⟩, -⟩ := blk2 (blk_keep hbx L.out)
          clear CO o0 o1
          go_wp2_with fail
          refine (CX _ hbx).mono ?_
          rintro e wy ⟨rfl, hby⟩
          have hbxy := btrans hbx hby
          have KX := blk_keep hbxy K1
          have HX := btrans HBr hbxy
          have OX := own_keep L.own hbxy
          obtain ⟨⟨y0, y1⟩, -⟩ := blk2 (blk_keep hbxy L.out)
          obtain ⟨⟨s0, s1⟩, sf0, sf1⟩ := blk2 KX
          clear CX x0 x1 hbx hby hbxy
          unfold S
          by_cases hs : tripL ⟨s, cs⟩ = l
          · have hr : Hid (RdT l (some ⟨s, cs⟩)) := hide (hE1.out ⟨hB, hs⟩)
            have ht2 : (⟨(tripL ⟨s, cs⟩).toArray⟩ : ByteArray) = T := by rw [hs]; exact hT.out.symm
            rw [ht2]
            have K3 := set2_blk (a := .string s) (b := .slice ao cs.length cp) KX
            have B3 := set2_below (a := .string s) (b := .slice ao cs.length cp) HX (Nat.le_of_eq hrb)
            have O3 : ((wy.setCell ⟨rb, 0, none⟩ (.string s)).setCell ⟨rb, 1, none⟩ (.slice ao cs.length cp)).ownsRow w.heap.size 33 3 (.slice ao cs.length cp) cs.length (flatHalts cs) := by
              have hge := own_from OX (Nat.le_refl _)
              refine own_base (own_set (own_set OX (fun j hj => ?_)) (fun j hj => ?_)) (by omega)
              · have := hge j hj; omega
              · have := hge j hj; omega
            clear hE1 hE2 hs ht2 hT hB
            go_wp2_with fail
            obtain ⟨⟨v0, v1⟩, -⟩ := blk2 K3
            refine bodyPost_ret (v := .tuple #[.agg #[.string s, .slice ao cs.length cp], .bool true]) (by simp [results, Tryz.results9, v0, v1, go_sem]) rfl ?_
            exact ⟨B3, ⟨s, cs⟩, ao, cp, true, rfl, O3, .inl ⟨rfl, hr.out⟩⟩
          · have hr : Hid (RdT l none) := hide (hE2.out (fun h => hs h.2))
            have ht2 : ((⟨(tripL ⟨s, cs⟩).toArray⟩ : ByteArray).toList == T.toList) = false := by
              rw [beq_eq_false_iff_ne, hT.out, ByteArray.toList_eq, ByteArray.toList_eq]; simpa using hs
            have K3 := set2_blk (a := .string ⟨#[]⟩) (b := .slice none 0 0) KX
            have B3 := set2_below (a := .string ⟨#[]⟩) (b := .slice none 0 0) HX (Nat.le_of_eq hrb)
            generalize (⟨(tripL ⟨s, cs⟩).toArray⟩ : ByteArray) = u at *
            clear hE1 hE2 hs hT hB
            go_wp2_with fail
            obtain ⟨⟨v0, v1⟩, -⟩ := blk2 K3
            refine bodyPost_ret (v := .tuple #[.agg #[.string ⟨#[]⟩, .slice none 0 0], .bool false]) (by simp [results, Tryz.results9, v0, v1, go_sem]) rfl ?_
            exact .no hr.out B3
end Go.Proofs.YthlmaljgnhakfaaGreatDoor
