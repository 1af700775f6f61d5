/- The model's assignment. -/
import Derived.Test.YteklmeekapegpaaSM
import Derived.Test.YteklmeekapegpaaAS
namespace Go.Proofs.Yteklmeekapegpaa
open Go.RowKit

/-- The list and the order in memory, apart. -/
structure LO (w0 w : World) (oa : Option Addr) (oc : Nat) (ls : List Int) (ra : Option Addr) (rc : Nat) (os : List Nat) : Prop where
  out : w.ownsRow w0.heap.size 3 1 (.slice oa ls.length oc) ls.length (ls.map (Value.int .i64))
  ord : w.ownsRow w0.heap.size 3 1 (.slice ra os.length rc) os.length ((intsOf os).map (Value.int .i64))
  apart : ∀ k, Value.ownBlock (.slice ra os.length rc) = some k → Value.ownBlock (.slice oa ls.length oc) ≠ some k
  below : Below w0.heap.size w0 w
theorem LO.keep {w0 w w' : World} {oa ra : Option Addr} {oc rc : Nat} {ls : List Int} {os : List Nat} (h : LO w0 w oa oc ls ra rc os) (hb : Below w.heap.size w w') : LO w0 w' oa oc ls ra rc os :=
  ⟨own_keep h.out hb, own_keep h.ord hb, h.apart, btrans h.below hb⟩
theorem LO.cellO {w0 w : World} {oa ra : Option Addr} {oc rc : Nat} {ls : List Int} {os : List Nat} (h : LO w0 w oa oc ls ra rc os) {i : Nat} (hi : i < ls.length) : ∃ g, oa = some ⟨g, 0, none⟩ ∧ w.cell? ⟨g, i, none⟩ = some (.int .i64 (ls.getD i 0)) ∧ w.frozen? ⟨g, i, none⟩ = false := by
  have ho := h.out
  rcases ho.2 with ⟨h2, h0⟩ | ⟨g, cap, cur, hv, hg, hh, r⟩
  · omega
  · simp only [Value.slice.injEq] at hv
    obtain ⟨rfl, _, rfl⟩ := hv
    refine ⟨g, rfl, ?_, ho.frozenAt i⟩
    rw [ho.cellAt i (by omega)]
    simp [List.getD, hi]
theorem LO.cellR {w0 w : World} {oa ra : Option Addr} {oc rc : Nat} {ls : List Int} {os : List Nat} (h : LO w0 w oa oc ls ra rc os) {i : Nat} (hi : i < os.length) : ∃ g, ra = some ⟨g, 0, none⟩ ∧ w.cell? ⟨g, i, none⟩ = some (.int .i64 ((ordA os i : Nat) : Int)) := by
  have ho := h.ord
  rcases ho.2 with ⟨h2, h0⟩ | ⟨g, cap, cur, hv, hg, hh, r⟩
  · omega
  · simp only [Value.slice.injEq] at hv
    obtain ⟨rfl, _, rfl⟩ := hv
    refine ⟨g, rfl, ?_⟩
    rw [ho.cellAt i (by omega)]
    have := intsOf_get os hi
    simp only [ordA, ← this]
    simp [List.getD, intsOf, hi]
theorem LO.put {w0 w : World} {g : Nat} {ra : Option Addr} {oc rc : Nat} {ls : List Int} {os : List Nat} (h : LO w0 w (some ⟨g, 0, none⟩) oc ls ra rc os) (i : Nat) (x : Int) : LO w0 (w.setCell ⟨g, i, none⟩ (.int .i64 x)) (some ⟨g, 0, none⟩) oc (ls.set i x) ra rc os := by
  have hO := (h.out.stored i (.int .i64 x)).1
  have hg : w0.heap.size ≤ g := own_from h.out (Nat.le_refl _) g rfl
  refine ⟨?_, own_set h.ord (fun k hk e => h.apart k hk (by rw [e]; rfl)), fun k hk => ?_, h.below.setCell (p := ⟨g, i, none⟩) hg _⟩
  · rw [List.length_set, List.map_set]; exact hO
  · rw [List.length_set]; exact h.apart k hk

set_option maxRecDepth 20000 in
set_option maxHeartbeats 6400000 in
theorem cAssignS (a : Option Addr) (ca : Nat) (zs : List Int) (b : Option Addr) (cb : Nat) (ss : List StayV) (g : Int) (w : World) (hz : Ints w a zs) (hl : zs.length ≤ 1048576) (hy : Stays w b ss) (hl2 : ss.length ≤ 1048576) :
    Calls Try.prog 21 #[.slice a zs.length ca, .slice b ss.length cb, .int .i64 g] w fun e w' => ∃ ls, IsList zs ss g ls ∧ AnsList w w' e ls := by
  obtain ⟨i0, hi, hi0, hi1, hi2⟩ := info_parts infoInts
  go_enter Try.func21, Try.ntmps21
  go_wp2_with fail
  refine (cBaysS a ca zs _ hz hl).mono ?_
  rintro e w1 ⟨rfl, hw⟩
  subst w1
  cases hZ : baysB zs
  · have hf := hide (assign_b (ss := ss) (g := g) hZ)
    clear hZ
    go_wp2
    go_ret
    exact ⟨[], hf.out, AnsList.nil (Below.refl _ _)⟩
  go_wp2_with fail
  refine (cStaysS b cb ss _ hy hl2).mono ?_
  rintro e w1 ⟨rfl, hb1⟩
  cases hS : staysB ss
  · have hf := hide (assign_s (zs := zs) (g := g) hS)
    clear hZ hS
    go_wp2
    go_ret
    exact ⟨[], hf.out, AnsList.nil hb1⟩
  go_wp2_with fail
  refine (cGapS g _).mono ?_
  rintro e w2 ⟨rfl, hw⟩
  subst w2
  cases hG : gapB g
  · have hf := hide (assign_g (zs := zs) (ss := ss) hG)
    clear hZ hS hG
    go_wp2
    go_ret
    exact ⟨[], hf.out, AnsList.nil hb1⟩
  obtain ⟨hz1, hz12⟩ := bays_len hZ
  have h60 := stays_len hS
  obtain ⟨hg1, hg2⟩ := inB_true hG
  have hF := hide (fine_of hS)
  have hOk : Hid (assignOk zs ss g = true) := hide (by simp [assignOk, hZ, hS, hG])
  have hSt := hide (fun k (hk : k < ss.length) => stays_get hS hk)
  clear hZ hS hG
  have hO := World.ownsRow_made (base := w.heap.size) (e := 3) (size := 1) w1 #[] 0 hb1.size (by unfold maxLen; omega) rfl
  have HB1 := btrans hb1 (balloc w1 (.cells #[] 3))
  go_wp2
  go_loopw [7, 8] (fun v i wr => ∃ k : Nat, k ≤ ss.length ∧ i = .int .i64 k ∧ wr.ownsRow w.heap.size 3 1 v (List.replicate k (-1 : Int)).length ((List.replicate k (-1 : Int)).map (Value.int .i64)) ∧ Below w.heap.size w wr) (fun _ i _ => ss.length - (intOf i).toNat)
  case atStart => exact ⟨0, Nat.zero_le _, rfl, by simpa using hO, HB1⟩
  case round =>
    obtain ⟨k, hk, rfl, ho, hb⟩ := hrel
    clear hO HB1 hb1
    obtain ⟨va, vc, rfl⟩ := own_form ho
    by_cases hlt : k < ss.length
    · have hlt' : (k : Int) < (ss.length : Int) := by omega
      have ho2 := own_keep ho (balloc wr (.cells #[.int .i64 (-1)] 3))
      have hb2 := btrans hb (balloc wr (.cells #[.int .i64 (-1)] 3))
      have hrl : (List.replicate k (-1 : Int)).length ≤ 60 := by simp; omega
      have hrs : Hid (List.replicate (k + 1) (-1 : Int) = List.replicate k (-1 : Int) ++ [-1]) := hide (List.replicate_succ' ..)
      generalize List.replicate k (-1 : Int) = R at *
      go_wp2_with (at_builtin; refine wpList_append_own _ rfl _ _ 24 rfl w.heap.size 3 i0 _ 1 8 Try.underlying24 hi hi0 hi1 hi2 rfl (by decide) _ _ _ rfl ho2 ⟨wr.heap.size, 0, none⟩ 1 1 [.int .i64 (-1)] rfl rfl ?c1 ?c2 ?c3 ?c4 ?c5 ?_)
      case c1 => exact World.news_of_block (heap_alloc_new wr _)
      case c2 => simp [Value.oneCell']
      case c3 => unfold maxLen; omega
      case c4 => omega
      case c5 => have := hb.size; simp; omega
      intro v2 w5 hown hgrow _
      have hb5 := hb2.grown hgrow hb2.size (own_from ho (Nat.le_refl _))
      have hown2 : w5.ownsRow w.heap.size 3 1 v2 (List.replicate (k + 1) (-1 : Int)).length ((List.replicate (k + 1) (-1 : Int)).map (Value.int .i64)) := by
        rw [hrs.out]; simpa using hown
      clear hgrow hown ho2 hb2 ho
      go_wp2
      go_roundw
      case rel => exact ⟨k + 1, by omega, by go_num, hown2, hb5⟩
      case measure => simp [intOf]; omega
    · obtain rfl : k = ss.length := by omega
      have hlt' : ¬ ((ss.length : Int) < (ss.length : Int)) := by omega
      have CO := cOrder b cb ss wr (hy.below hb) h60
      have hL0 : Hid ((List.replicate ss.length (-1 : Int)).length = ss.length) := hide (by simp)
      go_wp2_with fail
      refine CO.mono ?_
      rintro e w2 hA
      obtain ⟨v, os, rfl, hr, hos, hol, hb2⟩ := hA
      obtain ⟨ra, rc, rfl⟩ := own_form hr
      have hLO : LO w w2 va vc (List.replicate ss.length (-1 : Int)) ra rc os := by
        refine ⟨own_keep ho hb2, own_base hr hb.size, fun k hk e => ?_, btrans hb hb2⟩
        have h1 := own_from hr (Nat.le_refl _) k hk
        have h2 := own_blk_lt ho k e
        omega
      have hOI : Hid (OInv zs ss g os 0 (List.replicate ss.length (-1 : Int))) := hide ⟨by simp, fun k hk => by omega, fun k _ hk => by
        have := hos.low _ (ordA_mem hk)
        simp [List.getD, this]⟩
      clear CO hr hb2 ho hb
      have hol' : Hid (os.length = ss.length) := hide hol
      have ho60 : os.length ≤ 60 := by omega
      clear hol hL0
      go_wp2
      go_loopw [10] (fun x wr => ∃ (i : Nat) (ls : List Int), i ≤ os.length ∧ x = .int .i64 i ∧ Hid (OInv zs ss g os i ls) ∧ LO w wr va vc ls ra rc os) (fun x _ => os.length - (intOf x).toNat)
      case atStart => exact ⟨0, _, Nat.zero_le _, rfl, hOI, hLO⟩
      case round =>
        obtain ⟨i, ls, hi', rfl, hA, hT⟩ := hrel
        clear hOI hLO
        by_cases hlt2 : i < os.length
        · have hlt2' : (i : Int) < (os.length : Int) := by omega
          obtain ⟨rg, rfl, r0⟩ := hT.cellR hlt2
          have hsl : ordA os i < ss.length := hos.low _ (ordA_mem hlt2)
          have hAl : Hid (ls.length = ss.length) := hide hA.out.len
          have hsll : ordA os i < ls.length := by rw [hAl.out]; exact hsl
          have hPk := hide (PickTo.start zs ss g (fun x => ls.getD x 0) (ordA os i))
          have hm1 : ls.set (ordA os i) (-1) = ls := by
            have := hA.out.todo i (Nat.le_refl _) hlt2
            apply List.ext_getElem?
            intro k
            by_cases e : ordA os i = k
            · subst e
              rw [List.getElem?_set_self hsll, List.getElem?_eq_getElem hsll]
              simpa [List.getD, hsll] using this.symm
            · rw [List.getElem?_set_ne e]
          have hT0 : LO w wr va vc (ls.set (ordA os i) (-1)) (some ⟨rg, 0, none⟩) rc os := by rw [hm1]; exact hT
          have hNe : Hid (∀ j, j < i → ordA os i ≠ ordA os j) := hide (fun j hj => ordA_ne hos.nodup hlt2 (by omega) (by omega))
          have hStep := hide (fun v hp => hA.out.step (v := v) hos hol'.out hlt2 hp)
          have hFr := hide (fun bb v (hbb : bb < zs.length) => FreeTo_can (zs := zs) (ls := ls) (ls' := ls.set (ordA os i) v) hos hol'.out hg1 hF.out hlt2 hbb (fun j hj => getD_set_ne ls (hNe.out j hj) v))
          have hlow := hide (fun j (hj : j < os.length) => hos.low _ (ordA_mem hj))
          clear hm1 hT hA
          generalize hss : ordA os i = s at *
          replace hss := hide hss
          have w1z : IntKind.i64.wrap ((zs.length : Int) - 1) = (zs.length : Int) - 1 := wrap_in _ (by omega) (by omega)
          go_wp2
          go_loopw [12] (fun x wr => ∃ (bn : Nat) (v : Int), bn ≤ zs.length ∧ x = .int .i64 ((bn : Int) - 1) ∧ Hid (PickTo zs ss g (fun x => ls.getD x 0) s bn v) ∧ LO w wr va vc (ls.set s v) (some ⟨rg, 0, none⟩) rc os) (fun x _ => (intOf x + 1).toNat)
          case atStart => exact ⟨zs.length, -1, Nat.le_refl _, rfl, hPk, hT0⟩
          case round =>
            obtain ⟨bn, v, hbn, rfl, hP, hT⟩ := hrel
            clear hPk hT0
            cases bn with
            | zero =>
              have hS2 := hide (hStep.out v hP.out)
              have hneg : ¬ ((0 : Int) ≤ ((0 : Nat) : Int) - 1) := by omega
              go_wp2
              go_roundw
              case rel => exact ⟨i + 1, _, by omega, by go_num, hS2, hT⟩
              case measure => simp [intOf]; omega
            | succ bb =>
              have e1 : (((bb + 1 : Nat) : Int) - 1) = (bb : Int) := by omega
              rw [e1]
              have hbbz : bb < zs.length := by omega
              have hbbz' : (bb : Int) < (zs.length : Int) := by omega
              have hb0 : (0 : Int) ≤ (bb : Int) := by omega
              have e3 : IntKind.i64.wrap ((bb : Int) - 1) = (bb : Int) - 1 := wrap_in _ (by omega) (by omega)
              obtain ⟨wo, rfl⟩ : ∃ wo, wo = wr := ⟨wr, rfl⟩
              have hzB := hz.below hT.below
              rcases hzB with h | ⟨ab, aoff, rfl, hzc⟩
              · simp [h] at hbbz
              have qz := hzc bb hbbz
              have hyB := hy
              rcases hyB with h | ⟨sb, so, rfl, hsc⟩
              · simp [h] at hsl
              have qs2 := ble hT.below (hsc s hsl).2.2
              have hls' : (s : Int) < (ss.length : Int) := by omega
              have hF0 : Hid (FreeTo zs ss g os (ls.set s v) s bb 0 = decide (lenA ss s ≤ zs.getD bb 0)) := hide (by simp [FreeTo])
              have hlA : Hid (lenA ss s = (ss.getD s StayV.zero).l) := rfl
              rw [← hlA.out] at qs2
              have hYes := hide (fun (h : FreeTo zs ss g os (ls.set s v) s bb i = true) => PickTo.yes hP.out ((hFr.out bb v hbbz).1 h))
              have hNo := hide (fun (h : ¬ FreeTo zs ss g os (ls.set s v) s bb i = true) => PickTo.no hP.out (fun hc => h ((hFr.out bb v hbbz).2 hc)))
              have hSuc := hide (fun k => FreeTo_succ zs ss g os (ls.set s v) s bb k)
              generalize zs.getD bb 0 = zb at *
              generalize lenA ss s = ln at *
              clear hzc hP hNe
              go_wp2
              go_quiet (fail)
              go_wp2
              go_loopw [13, 14] (fun x y wr => ∃ k : Nat, k ≤ i ∧ x = .bool (FreeTo zs ss g os (ls.set s v) s bb k) ∧ y = .int .i64 k ∧ LO w wr va vc (ls.set s v) (some ⟨rg, 0, none⟩) rc os) (fun _ y _ => i - (intOf y).toNat)
              case atStart => exact ⟨0, Nat.zero_le _, by rw [hF0.out], rfl, hT.keep (bdraw (Below.refl _ _) _)⟩
              case round =>
                obtain ⟨k, hk, rfl, rfl, hT4⟩ := hrel
                by_cases hki : k < i
                · have hki' : (k : Int) < (i : Int) := by omega
                  have hkl : (k : Int) < (os.length : Int) := by omega
                  have hkl2 : k < os.length := by omega
                  have hol2 := hlow.out k hkl2
                  obtain ⟨rg', e4, r4⟩ := hT4.cellR hkl2
                  cases e4
                  have hll : ordA os k < (ls.set s v).length := by rw [List.length_set, hAl.out]; exact hol2
                  obtain ⟨og, rfl, o4, -⟩ := hT4.cellO hll
                  have hol3 : ((ordA os k : Nat) : Int) < (ss.length : Int) := by omega
                  obtain ⟨p0, p1, p2⟩ := hsc s hsl
                  obtain ⟨p3, p4, p5⟩ := hsc (ordA os k) hol2
                  replace p0 := ble hT4.below p0
                  replace p1 := ble hT4.below p1
                  replace p2 := ble hT4.below p2
                  replace p3 := ble hT4.below p3
                  replace p4 := ble hT4.below p4
                  replace p5 := ble hT4.below p5
                  have hSk := hide (hSuc.out k)
                  obtain ⟨x1, x2, x3⟩ := hSt.out s hsl
                  obtain ⟨x4, x5, x6⟩ := hSt.out (ordA os k) hol2
                  have CM := fun V => cMeet (ss.getD s StayV.zero) (ss.getD (ordA os k) StayV.zero) g V (by omega) (by omega) (by omega) (by omega) hg1 hg2
                  generalize ss.getD s StayV.zero = ya at *
                  generalize ss.getD (ordA os k) StayV.zero = yb at *
                  obtain ⟨nf, hnf⟩ : ∃ nf, nf = FreeTo zs ss g os (ls.set s v) s bb (k + 1) := ⟨_, rfl⟩
                  rw [← hnf] at hSk
                  generalize FreeTo zs ss g os (ls.set s v) s bb k = fr at *
                  generalize (ls.set s v).getD (ordA os k) 0 = ov at *
                  generalize hoo : ordA os k = oo at *
                  replace hoo := hide hoo
                  obtain ⟨af, at', al⟩ := ya
                  obtain ⟨bf, bt, bl⟩ := yb
                  unfold StayV.val at CM
                  dsimp only at *
                  have hsb : sb < wr.heap.size := cell_lt p0
                  have hog : og < wr.heap.size := cell_lt o4
                  have hrg : rg < wr.heap.size := cell_lt r4
                  clear hSuc hYes hNo
                  by_cases hov : ov = (bb : Int)
                  · have hoe : ((ov : Int) == (bb : Int)) = true := by simp [hov]
                    go_wp2
                    go_region_held3 (fun w' => w'.cell? ⟨rg, k, none⟩ = some (.int .i64 oo) ∧ w'.cell? ⟨og, oo, none⟩ = some (.int .i64 ov) ∧ w'.cell? ⟨sb, so + s * 3, none⟩ = some (.int .i64 af) ∧ w'.cell? ⟨sb, so + s * 3 + 1, none⟩ = some (.int .i64 at') ∧ w'.cell? ⟨sb, so + s * 3 + 2, none⟩ = some (.int .i64 al) ∧ w'.cell? ⟨sb, so + oo * 3, none⟩ = some (.int .i64 bf) ∧ w'.cell? ⟨sb, so + oo * 3 + 1, none⟩ = some (.int .i64 bt) ∧ w'.cell? ⟨sb, so + oo * 3 + 2, none⟩ = some (.int .i64 bl)) (go_keep) (first
                      | (go_at_call 52; with_reducible refine (CM _).mono ?_; rintro e wq ⟨rfl, hbq⟩; replace hbq := undrew hbq; have v0 := ble hbq r4; have v1 := ble hbq o4; have v2 := ble hbq p0; have v3 := ble hbq p1; have v4 := ble hbq p2; have v5 := ble hbq p3; have v6 := ble hbq p4; have v7 := ble hbq p5))
                    have hT5 := hT4.keep hbq
                    cases hm : meetB ⟨af, at', al⟩ ⟨bf, bt, bl⟩ g
                    · have hS2 : Hid (nf = fr) := by rw [hSk.out, hm]; exact hide (by simp)
                      clear hSk hm CM v0 v1 v2 v3 v4 v5 v6 v7 p0 p1 p2 p3 p4 p5 r4 o4 hT4 hbq
                      go_wp2
                      go_roundw
                      case rel => exact ⟨k + 1, by omega, by rw [← hnf, hS2.out], by go_num, hT5⟩
                      case measure => simp [intOf]; omega
                    · have hS2 : Hid (nf = false) := by rw [hSk.out, hm]; exact hide (by simp [hov])
                      clear hSk hm CM v0 v1 v2 v3 v4 v5 v6 v7 p0 p1 p2 p3 p4 p5 r4 o4 hT4 hbq
                      go_wp2
                      go_roundw
                      case rel => exact ⟨k + 1, by omega, by rw [← hnf, hS2.out], by go_num, hT5⟩
                      case measure => simp [intOf]; omega
                  · have hoe : ((ov : Int) == (bb : Int)) = false := by simp [hov]
                    have hS2 : Hid (nf = fr) := by rw [hSk.out]; exact hide (by simp [hov])
                    clear hSk CM
                    go_wp2
                    go_quiet (fail)
                    go_wp2
                    go_roundw
                    case rel => exact ⟨k + 1, by omega, by rw [← hnf, hS2.out], by go_num, hT4.keep (bdraw (Below.refl _ _) _)⟩
                    case measure => simp [intOf]; omega
                · obtain rfl : k = i := by omega
                  have hki' : ¬ ((k : Int) < (k : Int)) := by omega
                  have hsl2 : s < (ls.set s v).length := by rw [List.length_set, hAl.out]; exact hsl
                  obtain ⟨og, rfl, o4, o5⟩ := hT4.cellO hsl2
                  generalize (ls.set s v).getD s 0 = ov at *
                  have hog : og < wr.heap.size := cell_lt o4
                  cases hfree : FreeTo zs ss g os (ls.set s v) s bb k
                  · have hP2 := hide (hNo.out (by rw [hfree]; simp))
                    clear hYes hNo hfree hSuc hF0
                    go_wp2
                    go_roundw
                    case rel => exact ⟨bb, v, by omega, rfl, hP2, hT4⟩
                    case measure => simp [intOf]
                  · have hP2 := hide (hYes.out hfree)
                    have hT6 := hT4.put s (bb : Int)
                    rw [List.set_set] at hT6
                    clear hYes hNo hfree hSuc hF0
                    go_wp2
                    go_roundw
                    case rel => exact ⟨bb, bb, by omega, rfl, hP2, hT6⟩
                    case measure => simp [intOf]
        · obtain rfl : i = os.length := by omega
          have hlt2' : ¬ ((os.length : Int) < (os.length : Int)) := by omega
          have hFin := hide (hA.out.fin hos hol'.out)
          have hLn := hide hA.out.len
          have hOut := hT.out
          rw [hLn.out] at hOut
          have hb := hT.below
          clear hA hT
          go_wp2
          go_ret
          exact ⟨ls, .inr ⟨hOk.out, hLn.out, hFin.out⟩, ⟨_, rfl, by rw [hLn.out]; exact hOut⟩, hb⟩
end Go.Proofs.Yteklmeekapegpaa
