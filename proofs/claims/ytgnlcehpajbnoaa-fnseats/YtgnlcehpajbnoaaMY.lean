/- The model: Book and Unbook. -/
import Derived.Test.YtgnlcehpajbnoaaMI
import Derived.Deep.RegionHeld3
import Derived.Deep.AppendLies
namespace Go.Proofs.Ytgnlcehpajbnoaa
open Go.RowKit Go.Lib
/-- A train told, with something beside it; its bookings are a row of the call's own. -/
def AnsV (w : World) (S P : Int) (hs : List BkV) (r : Value) (e : Ending) (w' : World) : Prop :=
  ∃ v, e = .returned (.tuple #[.agg #[.int .i64 S, .int .i64 P, v], r]) ∧ w'.ownsRow w.heap.size 78 4 v hs.length (flatBks hs) ∧ Below w.heap.size w w'
theorem AnsT.v {w w' : World} {S P : Int} {hs : List BkV} {r : Value} {e : Ending} (h : AnsT w S P hs r e w') : AnsV w S P hs r e w' := by
  obtain ⟨g, ch, h1, h2, h3⟩ := h
  exact ⟨_, h1, h2, h3⟩
/-- What is stored into the cells of the answer. -/
theorem ans_set {w w2 : World} {B q : Nat} {S P : Int} {v : Value} {ms : List BkV} (ho : w2.ownsRow B 78 4 v ms.length (flatBks ms)) (hb : Below w.heap.size w w2) (hq : w.heap.size ≤ q) (hqB : q < B) :
    (((w2.setCell ⟨q, 0, none⟩ (.int .i64 S)).setCell ⟨q, 1, none⟩ (.int .i64 P)).setCell ⟨q, 2, none⟩ v).ownsRow w.heap.size 78 4 v ms.length (flatBks ms) ∧ Below w.heap.size w (((w2.setCell ⟨q, 0, none⟩ (.int .i64 S)).setCell ⟨q, 1, none⟩ (.int .i64 P)).setCell ⟨q, 2, none⟩ v) := by
  have hne : ∀ k, v.ownBlock = some k → k ≠ q := fun k hk => by have := own_from ho (Nat.le_refl _) k hk; omega
  exact ⟨own_set (own_set (own_set (Go.Joins.ownsRow_le ho (by omega)) hne) hne) hne, below_set hq (below_set hq (below_set hq hb))⟩
theorem unbV_zero {S P : Int} {hs : List BkV} (h : Rt S P hs) : unbV hs 0 = hs := List.filter_eq_self.2 fun x hx => by have := (bkB_iff.1 (h.ok x hx)).1; simp; omega
theorem Rt.nz {S P : Int} {hs : List BkV} (h : Rt S P hs) : ∀ j, j < hs.length → (hs.getD j BkV.zero).i ≠ 0 := by
  intro j hj
  have := (bkB_iff.1 (h.ok hs[j] (List.getElem_mem hj))).1
  simp only [List.getD, hj, List.getElem?_eq_getElem, Option.getD_some]
  omega

set_option maxRecDepth 20000 in
set_option maxHeartbeats 3200000 in
theorem cUnbookS (S P : Int) (a : Option Addr) (c : Nat) (hs : List BkV) (id : Int) (w : World) (hz : Bks w a hs) (hl : hs.length ≤ 1048576) :
    Calls Try.prog 38 #[.agg #[.int .i64 S, .int .i64 P, .slice a hs.length c], .int .i64 id] w (AnsV w S P (unbA S P hs id).1 (.bool (unbA S P hs id).2)) := by
  have hW := btrans (balloc w (.cells #[.int .i64 S, .int .i64 P, .slice a hs.length c] 26)) (balloc _ (.cells #[.int .i64 0, .int .i64 0, .slice none 0 0] 26))
  obtain ⟨k0, k1⟩ := blocks2 w (.cells #[.int .i64 S, .int .i64 P, .slice a hs.length c] 26) (.cells #[.int .i64 0, .int .i64 0, .slice none 0 0] 26)
  have hs2 : ((w.alloc (.cells #[.int .i64 S, .int .i64 P, .slice a hs.length c] 26)).alloc (.cells #[.int .i64 0, .int .i64 0, .slice none 0 0] 26)).heap.size = w.heap.size + 1 + 1 := by simp
  have C := cTrainS S P a c hs _ (hz.below hW) hl
  have E : Hid (unbA S P hs id = if trainB S P hs then (unbV hs id, hasI hs id) else (hs, false)) := hide rfl
  generalize unbA S P hs id = R at *
  go_enter Try.func38, Try.ntmps38
  go_wp2_with fail
  refine C.mono ?_
  rintro e w1 ⟨rfl, hb1⟩
  replace k0 := blk_keep hb1 k0
  replace k1 := blk_keep hb1 k1
  have hbw := btrans hW hb1
  have hsz : w.heap.size + 1 + 1 ≤ w1.heap.size := by rw [← hs2]; exact hb1.size
  clear C hb1 hW hs2
  obtain ⟨⟨t0, t1, t2⟩, -⟩ := blk3 k0
  have hts : w.heap.size < w1.heap.size := by omega
  have hsame : ∀ V, Below w1.heap.size w1 V → Calls Try.prog 67 #[.agg #[.int .i64 S, .int .i64 P, .slice a hs.length c]] V (AnsR V S P hs) := fun V hV => cSame S P a c hs V (hz.below (btrans hbw hV)) hl
  cases ht : trainB S P hs
  · have hR : R = (hs, false) := by rw [E.out, ht]; rfl
    subst hR
    have C2 := hsame w1 (Below.refl _ _)
    clear hsame hz
    go_wp2_with fail
    refine C2.mono ?_
    rintro e w2 ⟨v, rfl, ho, hb2⟩
    obtain ⟨⟨y0, y1, y2⟩, f0, f1, f2⟩ := blk3 (blk_keep hb2 k1)
    obtain ⟨u1, u2⟩ := ans_set (q := w.heap.size + 1) (S := S) (P := P) ho (btrans hbw hb2) (by omega) (by omega)
    obtain ⟨va, vc, hv⟩ := own_form ho
    subst hv
    clear C2 ho k0 k1
    go_wp2
    refine bodyPost_ret (v := .tuple #[.agg #[.int .i64 S, .int .i64 P, .slice va hs.length vc], .bool false]) (by simp [results, Try.results38, go_sem, y0, y1, y2]) rfl ⟨_, rfl, u1, u2⟩
  have hT := trainB_iff.1 ht
  have hR : Hid (R = (unbV hs id, hasI hs id)) := hide (by rw [E.out, ht]; rfl)
  have hln := hT.len
  clear E
  go_wp2
  go_loop [6] (fun i => ∃ k : Nat, i = .int .i64 k ∧ k ≤ hs.length ∧ Hid (∀ j, j < k → (hs.getD j BkV.zero).i ≠ id)) (fun i => hs.length - (intOf i).toNat)
  case atStart => exact ⟨0, rfl, Nat.zero_le _, hide (fun j hj => by omega)⟩
  case round =>
    obtain ⟨k, rfl, hk, hN⟩ := hrel
    by_cases hlt : k < hs.length
    · have hQ := hz
      rcases hz with h | ⟨hb0, ho, rfl, hc⟩
      · simp [h] at hlt
      obtain ⟨q0, -, -, -⟩ := hc k hlt
      replace q0 := ble hbw q0
      have hhb : hb0 < w1.heap.size := cell_lt q0
      have hN2 := fun (h : (hs.getD k BkV.zero).i ≠ id) => hide (fun j (hj : j < k + 1) => if e : j = k then by subst e; exact h else hN.out j (by omega))
      have hY := fun (h : (hs.getD k BkV.zero).i = id) => hide (show hasI hs id = true from hasI_iff.2 ⟨hs[k], List.getElem_mem hlt, by simpa [List.getD, hlt] using h⟩)
      clear hc
      generalize (hs.getD k BkV.zero).i = xi at *
      by_cases he : xi = id
      · have hh := hY he
        have hR2 : R = (unbV hs id, true) := by rw [hR.out, hh.out]
        have C2 := cHeldOut S P (some ⟨hb0, ho, none⟩) c hs id w1 (hQ.below hbw) hl
        subst hR2
        subst he
        clear hN2 hY hsame hh hR hQ
        go_wp2_with fail
        refine C2.mono ?_
        rintro e w2 ⟨v, rfl, ho2, hb2⟩
        obtain ⟨⟨y0, y1, y2⟩, f0, f1, f2⟩ := blk3 (blk_keep hb2 k1)
        obtain ⟨u1, u2⟩ := ans_set (q := w.heap.size + 1) (S := S) (P := P) ho2 (btrans hbw hb2) (by omega) (by omega)
        obtain ⟨va, vc, hv⟩ := own_form ho2
        subst hv
        clear C2 ho2 k0 k1
        go_wp2
        refine bodyPost_ret (v := .tuple #[.agg #[.int .i64 S, .int .i64 P, .slice va (unbV hs xi).length vc], .bool true]) (by simp [results, Try.results38, go_sem, y0, y1, y2]) rfl ⟨_, rfl, u1, u2⟩
      · have hn := hN2 he
        have he' : (xi == id) = false := by simp [he]
        clear hN2 hY
        go_wp2
        go_round
        case rel => exact ⟨k + 1, by go_num, by omega, hn⟩
        case measure => simp [intOf]; omega
    · obtain rfl : k = hs.length := by omega
      have hh : hasI hs id = false := hasI_no.2 fun x hx => by
        obtain ⟨j, hj, rfl⟩ := List.getElem_of_mem hx
        have := hN.out j hj
        simpa [List.getD, hj] using this
      have hR2 : R = (hs, false) := by rw [hR.out, hh, unbV_no hh]
      have C2 := hsame w1 (Below.refl _ _)
      subst hR2
      clear hsame hz hR hN hh
      go_wp2_with fail
      refine C2.mono ?_
      rintro e w2 ⟨v, rfl, ho, hb2⟩
      obtain ⟨⟨y0, y1, y2⟩, f0, f1, f2⟩ := blk3 (blk_keep hb2 k1)
      obtain ⟨u1, u2⟩ := ans_set (q := w.heap.size + 1) (S := S) (P := P) ho (btrans hbw hb2) (by omega) (by omega)
      obtain ⟨va, vc, hv⟩ := own_form ho
      subst hv
      clear C2 ho k0 k1
      go_wp2
      refine bodyPost_ret (v := .tuple #[.agg #[.int .i64 S, .int .i64 P, .slice va hs.length vc], .bool false]) (by simp [results, Try.results38, go_sem, y0, y1, y2]) rfl ⟨_, rfl, u1, u2⟩

set_option maxRecDepth 20000 in
set_option maxHeartbeats 12800000 in
theorem cBookS (S P : Int) (a : Option Addr) (c : Nat) (hs : List BkV) (id on off : Int) (w : World) (hz : Bks w a hs) (hl : hs.length ≤ 1048576) :
    Calls Try.prog 36 #[.agg #[.int .i64 S, .int .i64 P, .slice a hs.length c], .int .i64 id, .int .i64 on, .int .i64 off] w (AnsV w S P (bookA S P hs id on off).1 (.int .i64 (bookA S P hs id on off).2)) := by
  have hW := btrans (balloc w (.cells #[.int .i64 S, .int .i64 P, .slice a hs.length c] 26)) (balloc _ (.cells #[.int .i64 0, .int .i64 0, .slice none 0 0] 26))
  obtain ⟨k0, k1⟩ := blocks2 w (.cells #[.int .i64 S, .int .i64 P, .slice a hs.length c] 26) (.cells #[.int .i64 0, .int .i64 0, .slice none 0 0] 26)
  have hs2 : ((w.alloc (.cells #[.int .i64 S, .int .i64 P, .slice a hs.length c] 26)).alloc (.cells #[.int .i64 0, .int .i64 0, .slice none 0 0] 26)).heap.size = w.heap.size + 1 + 1 := by simp
  have C := cHeldOut S P a c hs 0 _ (hz.below hW) hl
  have E : Hid (bookA S P hs id on off = if trainB S P hs then bookV S P hs id on off else (hs, -1)) := hide rfl
  generalize bookA S P hs id on off = R at *
  go_enter Try.func36, Try.ntmps36
  go_wp2_with fail
  refine C.mono ?_
  rintro e w1 ⟨vs, rfl, hos, hb1⟩
  replace k0 := blk_keep hb1 k0
  replace k1 := blk_keep hb1 k1
  have hbw := btrans hW hb1
  rw [hs2] at hos
  have hsz : w.heap.size + 1 + 1 ≤ w1.heap.size := by rw [← hs2]; exact hb1.size
  obtain ⟨sa, sc, hv⟩ := own_form hos
  subst hv
  clear C hb1 hW hs2
  obtain ⟨⟨t0, t1, t2⟩, -⟩ := blk3 k0
  have hts : w.heap.size < w1.heap.size := by omega
  have hbB := balloc w1 (.cells #[.int .i64 S, .int .i64 P, .slice sa (unbV hs 0).length sc] 26)
  have ks : (w1.alloc (.cells #[.int .i64 S, .int .i64 P, .slice sa (unbV hs 0).length sc] 26)).heap[w1.heap.size]? = some (.cells #[.int .i64 S, .int .i64 P, .slice sa (unbV hs 0).length sc] 26 (0, 0)) := heap_alloc_new w1 _
  replace k0 := blk_keep hbB k0
  replace k1 := blk_keep hbB k1
  replace hos := own_keep hos hbB
  replace hbw := btrans hbw hbB
  have C2 := cAskS S P a c hs on off _ (hz.below hbw) hl
  go_wp2_with fail
  generalize w1.alloc (.cells #[.int .i64 S, .int .i64 P, .slice sa (unbV hs 0).length sc] 26) = w2 at *
  generalize w1.heap.size = qs at *
  refine C2.mono ?_
  rintro e w3 ⟨rfl, hb3⟩
  replace k0 := blk_keep hb3 k0
  replace k1 := blk_keep hb3 k1
  replace ks := blk_keep hb3 ks
  replace hos := own_keep hos hb3
  replace hbw := btrans hbw hb3
  have hqs3 : qs < w3.heap.size := lt_of_block ks
  clear C2 hb3 hbB t0 t1 t2 hts w2 w1
  obtain ⟨⟨t0, t1, t2⟩, -⟩ := blk3 k0
  have hts : w.heap.size < w3.heap.size := cell_lt t0
  have hsame : ∀ V, Below w3.heap.size w3 V → Calls Try.prog 67 #[.agg #[.int .i64 S, .int .i64 P, .slice a hs.length c]] V (AnsR V S P hs) := fun V hV => cSame S P a c hs V (hz.below (btrans hbw hV)) hl
  by_cases hgood : (trainB S P hs && askB P on off) = true ∧ 0 < id ∧ hs.length < 200
  rotate_left
  · have hR : R = (hs, -1) := by
      rw [E.out]
      cases ht : trainB S P hs
      · rfl
      · unfold bookV
        rw [if_pos rfl, if_neg]
        rintro ⟨h1, h2⟩
        have hs3 := seatV_in h2
        simp only [maySell, Bool.and_eq_true, decide_eq_true_eq] at h1
        exact hgood ⟨by rw [ht, hs3.1]; rfl, h1.1.1, h1.1.2⟩
    subst hR
    have C3 := hsame w3 (Below.refl _ _)
    have hfin : ∀ (e : Ending) (w4 : World), AnsR w3 S P hs e w4 → ∃ va vc, e = .returned (.agg #[.int .i64 S, .int .i64 P, .slice va hs.length vc]) ∧ (w4.cell? ⟨w.heap.size + 1, 0, none⟩ = some (.int .i64 0) ∧ w4.cell? ⟨w.heap.size + 1, 1, none⟩ = some (.int .i64 0) ∧ w4.cell? ⟨w.heap.size + 1, 2, none⟩ = some (.slice none 0 0)) ∧ (w4.frozen? ⟨w.heap.size + 1, 0, none⟩ = false ∧ w4.frozen? ⟨w.heap.size + 1, 1, none⟩ = false ∧ w4.frozen? ⟨w.heap.size + 1, 2, none⟩ = false) ∧ Hid (AnsV w S P hs (.int .i64 (-1)) (.returned (.tuple #[.agg #[.int .i64 S, .int .i64 P, .slice va hs.length vc], .int .i64 (-1)])) (((w4.setCell ⟨w.heap.size + 1, 0, none⟩ (.int .i64 S)).setCell ⟨w.heap.size + 1, 1, none⟩ (.int .i64 P)).setCell ⟨w.heap.size + 1, 2, none⟩ (.slice va hs.length vc))) := by
      rintro e w4 ⟨v, rfl, ho, hb4⟩
      obtain ⟨y, f⟩ := blk3 (blk_keep hb4 k1)
      obtain ⟨u1, u2⟩ := ans_set (q := w.heap.size + 1) (S := S) (P := P) ho (btrans hbw hb4) (by omega) (by omega)
      obtain ⟨va, vc, hv⟩ := own_form ho
      subst hv
      exact ⟨va, vc, rfl, y, f, hide ⟨_, rfl, u1, u2⟩⟩
    clear hsame hz E
    cases ha : (trainB S P hs && askB P on off)
    · go_wp2_with fail
      refine C3.mono ?_
      intro e w4 hA
      obtain ⟨va, vc, rfl, ⟨y0, y1, y2⟩, ⟨f0, f1, f2⟩, hF⟩ := hfin e w4 hA
      clear hfin C3 hA k0 k1 ks hos
      go_wp2
      refine bodyPost_ret (v := .tuple #[.agg #[.int .i64 S, .int .i64 P, .slice va hs.length vc], .int .i64 (-1)]) (by simp [results, Try.results36, go_sem, y0, y1, y2]) rfl hF.out
    · by_cases hi : 0 < id
      · have hi' : ¬ id ≤ 0 := by omega
        have hl2 : (200 : Int) ≤ (hs.length : Int) := by
          have : ¬ hs.length < 200 := fun h => hgood ⟨ha, hi, h⟩
          omega
        go_wp2_with fail
        refine C3.mono ?_
        intro e w4 hA
        obtain ⟨va, vc, rfl, ⟨y0, y1, y2⟩, ⟨f0, f1, f2⟩, hF⟩ := hfin e w4 hA
        clear hfin C3 hA k0 k1 ks hos
        go_wp2
        refine bodyPost_ret (v := .tuple #[.agg #[.int .i64 S, .int .i64 P, .slice va hs.length vc], .int .i64 (-1)]) (by simp [results, Try.results36, go_sem, y0, y1, y2]) rfl hF.out
      · have hi' : id ≤ 0 := by omega
        go_wp2_with fail
        refine C3.mono ?_
        intro e w4 hA
        obtain ⟨va, vc, rfl, ⟨y0, y1, y2⟩, ⟨f0, f1, f2⟩, hF⟩ := hfin e w4 hA
        clear hfin C3 hA k0 k1 ks hos
        go_wp2
        refine bodyPost_ret (v := .tuple #[.agg #[.int .i64 S, .int .i64 P, .slice va hs.length vc], .int .i64 (-1)]) (by simp [results, Try.results36, go_sem, y0, y1, y2]) rfl hF.out
  obtain ⟨hga, hgi, hgl⟩ := hgood
  rw [hga]
  obtain ⟨hga1, hga2⟩ := Bool.and_eq_true_iff.1 hga
  have hT := trainB_iff.1 hga1
  obtain ⟨g0, g1, g2⟩ := askB_iff.1 hga2
  have hgi' : ¬ id ≤ 0 := by omega
  have hgl' : ¬ (200 : Int) ≤ (hs.length : Int) := by omega
  rw [unbV_zero hT.rt] at ks hos
  rw [unbV_zero hT.rt]
  have hR0 : Hid (R = bookV S P hs id on off) := hide (by rw [E.out, hga1]; rfl)
  have hms : Hid (maySell hs id = !hasI hs id) := hide (by simp [maySell, hgi, hgl])
  have hsv : Hid (seatV S P hs on off = bestL (holeV hs P on off) (freeL S P hs on off)) := hide (by unfold seatV freeL; rw [hga2, hga1]; rfl)
  clear E hsame
  obtain ⟨⟨s0, s1, s2⟩, -⟩ := blk3 ks
  -- what is told when nothing is sold
  have hfin : ∀ (w4 : World), Below w3.heap.size w3 w4 → R = (hs, -1) → (w4.cell? ⟨w.heap.size + 1, 0, none⟩ = some (.int .i64 0) ∧ w4.cell? ⟨w.heap.size + 1, 1, none⟩ = some (.int .i64 0) ∧ w4.cell? ⟨w.heap.size + 1, 2, none⟩ = some (.slice none 0 0)) ∧ (w4.frozen? ⟨w.heap.size + 1, 0, none⟩ = false ∧ w4.frozen? ⟨w.heap.size + 1, 1, none⟩ = false ∧ w4.frozen? ⟨w.heap.size + 1, 2, none⟩ = false) ∧ Hid (AnsV w S P R.1 (.int .i64 R.2) (.returned (.tuple #[.agg #[.int .i64 S, .int .i64 P, .slice sa hs.length sc], .int .i64 (-1)])) (((w4.setCell ⟨w.heap.size + 1, 0, none⟩ (.int .i64 S)).setCell ⟨w.heap.size + 1, 1, none⟩ (.int .i64 P)).setCell ⟨w.heap.size + 1, 2, none⟩ (.slice sa hs.length sc))) := by
    intro w4 hb4 hR
    obtain ⟨y, f⟩ := blk3 (blk_keep hb4 k1)
    obtain ⟨u1, u2⟩ := ans_set (q := w.heap.size + 1) (S := S) (P := P) (own_keep hos hb4) (btrans hbw hb4) (by omega) (by omega)
    rw [hR]
    exact ⟨y, f, hide ⟨_, rfl, u1, u2⟩⟩
  go_wp2
  go_loop [11] (fun i => ∃ k : Nat, i = .int .i64 k ∧ k ≤ hs.length ∧ Hid (∀ j, j < k → (hs.getD j BkV.zero).i ≠ id)) (fun i => hs.length - (intOf i).toNat)
  case atStart => exact ⟨0, rfl, Nat.zero_le _, hide (fun j hj => by omega)⟩
  case round =>
    obtain ⟨k, rfl, hk, hN⟩ := hrel
    by_cases hlt : k < hs.length
    · rcases hz with h | ⟨hb0, ho, rfl, hc⟩
      · simp [h] at hlt
      obtain ⟨q0, -, -, -⟩ := hc k hlt
      replace q0 := ble hbw q0
      have hhb : hb0 < w3.heap.size := cell_lt q0
      have hN2 := fun (h : (hs.getD k BkV.zero).i ≠ id) => hide (fun j (hj : j < k + 1) => if e : j = k then by subst e; exact h else hN.out j (by omega))
      have hY := fun (h : (hs.getD k BkV.zero).i = id) => hide (show hasI hs id = true from hasI_iff.2 ⟨hs[k], List.getElem_mem hlt, by simpa [List.getD, hlt] using h⟩)
      clear hc
      generalize (hs.getD k BkV.zero).i = xi at *
      by_cases he : xi = id
      · have hR : R = (hs, -1) := by rw [hR0.out, bookV, if_neg (by rw [hms.out, (hY he).out]; simp)]
        obtain ⟨⟨y0, y1, y2⟩, ⟨f0, f1, f2⟩, hF⟩ := hfin w3 (Below.refl _ _) hR
        subst he
        clear hN2 hY hfin hR hos k0 k1 ks hR0 hms hsv
        go_wp2
        refine bodyPost_ret (v := .tuple #[.agg #[.int .i64 S, .int .i64 P, .slice sa hs.length sc], .int .i64 (-1)]) (by simp [results, Try.results36, go_sem, y0, y1, y2]) rfl hF.out
      · have hn := hN2 he
        have he' : (xi == id) = false := by simp [he]
        clear hN2 hY hfin
        go_wp2
        go_round
        case rel => exact ⟨k + 1, by go_num, by omega, hn⟩
        case measure => simp [intOf]; omega
    · obtain rfl : k = hs.length := by omega
      have hh : hasI hs id = false := hasI_no.2 fun x hx => by
        obtain ⟨j, hj, rfl⟩ := List.getElem_of_mem hx
        have := hN.out j hj
        simpa [List.getD, hj] using this
      rw [hh] at hms
      have CF := cFreeS S P a c hs on off w3 (hz.below hbw) hl
      have CH := fun s V (hV : Below w3.heap.size w3 V) => cHoleS S P a c hs s on off V (hz.below (btrans hbw hV)) hl
      have hmem : Hid (∀ s ∈ freeL S P hs on off, 0 ≤ s ∧ s < S ∧ freeB hs s on off = true ∧ holeF S P hs s on off = holeV hs P on off s) := hide (fun s hsm => by
        unfold freeL at hsm
        rw [hga, if_pos rfl] at hsm
        obtain ⟨m1, m2, m3⟩ := freeK_mem.1 hsm
        refine ⟨m1, by have := hT.s1; omega, m3, ?_⟩
        unfold holeF
        rw [hga, show (freeK hs on off S.toNat).contains s = true by rw [List.contains_iff_mem]; exact hsm]; rfl)
      have hLl : (freeL S P hs on off).length ≤ 60 := by
        unfold freeL; rw [hga, if_pos rfl]
        have := freeK_len hs on off S.toNat
        have := hT.s2
        omega
      have hbin := hide (bestL_in (holeV hs P on off) (freeL S P hs on off))
      generalize freeL S P hs on off = L at *
      go_wp2_with fail
      refine CF.mono ?_
      rintro e w4 ⟨vl, rfl, hoL, hb4⟩
      obtain ⟨la, lc, hv⟩ := own_form hoL
      subst hv
      have hI := Ints.own hoL rfl
      clear CF hoL
      go_wp2
      go_loopw [13, 14] (fun x i wr => ∃ k : Nat, i = .int .i64 k ∧ k ≤ L.length ∧ x = .int .i64 (bestL (holeV hs P on off) (L.take k)) ∧ Below w4.heap.size w4 wr) (fun _ i _ => L.length - (intOf i).toNat)
      case atStart => exact ⟨0, rfl, Nat.zero_le _, rfl, Below.refl _ _⟩
      case round =>
        obtain ⟨k, rfl, hk, rfl, hbr⟩ := hrel
        have hb3r := btrans hb4 hbr
        obtain ⟨⟨v0, v1, v2⟩, -⟩ := blk3 (blk_keep hb3r k0)
        have hvs : w.heap.size < wr.heap.size := cell_lt v0
        by_cases hlt : k < L.length
        · have hmk : L.getD k 0 ∈ L := by simp only [List.getD, hlt, List.getElem?_eq_getElem, Option.getD_some]; exact List.getElem_mem hlt
          have htk : Hid (bestL (holeV hs P on off) (L.take (k + 1)) = bestS (holeV hs P on off) (bestL (holeV hs P on off) (L.take k)) (L.getD k 0)) := hide (by
            rw [List.take_succ_eq_append_getElem hlt, bestL_snoc]; simp [List.getD, hlt])
          obtain ⟨x0, -, -, x3⟩ := hmem.out _ hmk
          have hbk := bestL_in (holeV hs P on off) (L.take k)
          have hbm : Hid (0 ≤ bestL (holeV hs P on off) (L.take k) → holeF S P hs (bestL (holeV hs P on off) (L.take k)) on off = holeV hs P on off (bestL (holeV hs P on off) (L.take k))) := hide (fun h0 => by
            rcases hbk with h | h
            · omega
            · exact (hmem.out _ (List.mem_of_mem_take h)).2.2.2)
          have C1 := CH (L.getD k 0)
          have C2 := CH (bestL (holeV hs P on off) (L.take k))
          rcases hI with h | ⟨lb, lo, rfl, hc⟩
          · simp [h] at hlt
          have l0 := ble hbr (hc k hlt)
          have hlb : lb < wr.heap.size := cell_lt l0
          rw [x3] at C1
          have hbd : Below w3.heap.size w3 wr.drew := hb3r.drew
          replace x3 := hide x3
          replace hbk := hide hbk
          clear hc CH hfin hmem
          generalize L.getD k 0 = sx at *
          generalize bestL (holeV hs P on off) (L.take k) = bx at *
          by_cases hb0 : bx < 0
          · have d1 : decide (bx < 0) = true := decide_eq_true hb0
            have hn : Hid (bestL (holeV hs P on off) (L.take (k + 1)) = sx) := hide (by rw [htk.out, bestS, if_pos (.inl hb0)])
            clear C1 C2 htk hbm
            go_wp2_with fail
            go_quiet (fail)
            go_wp2
            go_roundw
            case rel => exact ⟨k + 1, by go_num, by omega, by rw [hn.out], bdraw hbr _⟩
            case measure => simp [intOf]; omega
          · have d1 : decide (bx < 0) = false := decide_eq_false hb0
            rw [hbm.out (by omega)] at C2
            clear hbm
            go_wp2_with fail
            go_region_held3 (fun w' => w'.cell? ⟨w.heap.size, 0, none⟩ = some (.int .i64 S) ∧ w'.cell? ⟨w.heap.size, 1, none⟩ = some (.int .i64 P) ∧ w'.cell? ⟨w.heap.size, 2, none⟩ = some (.slice a hs.length c) ∧ w'.cell? ⟨lb, lo + k, none⟩ = some (.int .i64 sx)) (go_keep) (first
              | (go_at_call 35; with_reducible refine (C2 _ hbx1).mono ?_; rintro e w6 ⟨rfl, hb6⟩; have hbq := btrans hb5 hb6; have z0 := ble hbq v0; have z1 := ble hbq v1; have z2 := ble hbq v2; have z3 := ble hbq l0)
              | (go_at_call 35; with_reducible refine (C1 _ hbd).mono ?_; rintro e w5 ⟨rfl, hb5⟩; replace hb5 := undrew hb5; have hbx1 := btrans hb3r hb5; have y0 := ble hb5 v0; have y1 := ble hb5 v1; have y2 := ble hb5 v2; have y3 := ble hb5 l0))
            have hbF := btrans hbr hbq
            generalize hH1 : holeV hs P on off sx = H1 at *
            generalize hH2 : holeV hs P on off bx = H2 at *
            replace hH1 := hide hH1
            replace hH2 := hide hH2
            by_cases hlH : H1 < H2
            · have hn : Hid (bestL (holeV hs P on off) (L.take (k + 1)) = sx) := hide (by rw [htk.out, bestS, if_pos (.inr (by rw [hH1.out, hH2.out]; exact hlH))])
              clear C1 C2 htk v0 v1 v2 l0 y0 y1 y2 y3 hb5 hb6 hbx1 hbq
              have hlbq : lb < w6.heap.size := cell_lt z3
              go_wp2
              go_roundw
              case rel => exact ⟨k + 1, by go_num, by omega, by rw [hn.out], hbF⟩
              case measure => simp [intOf]; omega
            · have hn : Hid (bestL (holeV hs P on off) (L.take (k + 1)) = bx) := hide (by rw [htk.out, bestS, if_neg (by rw [hH1.out, hH2.out]; omega)])
              clear C1 C2 htk v0 v1 v2 l0 y0 y1 y2 y3 hb5 hb6 hbx1 hbq
              go_wp2
              go_roundw
              case rel => exact ⟨k + 1, by go_num, by omega, by rw [hn.out], hbF⟩
              case measure => simp [intOf]; omega
        · obtain rfl : k = L.length := by omega
          rw [List.take_length] at *
          obtain ⟨⟨s0, s1, s2⟩, -⟩ := blk3 (blk_keep hb3r ks)
          have hqsr : qs < wr.heap.size := cell_lt s0
          have hbm : Hid (0 ≤ bestL (holeV hs P on off) L → 0 ≤ bestL (holeV hs P on off) L ∧ bestL (holeV hs P on off) L < S) := hide (fun h0 => by
            rcases hbin.out with h | h
            · omega
            · have := hmem.out _ h; exact ⟨this.1, this.2.1⟩)
          generalize bestL (holeV hs P on off) L = bx at *
          by_cases hb0 : bx < 0
          · have hR : R = (hs, -1) := by rw [hR0.out, bookV, if_neg (by rw [hsv.out]; omega)]
            obtain ⟨⟨y0, y1, y2⟩, ⟨f0, f1, f2⟩, hF⟩ := hfin wr hb3r hR
            clear hfin hR hos k0 k1 ks hR0 hms hsv CH hz
            go_wp2
            refine bodyPost_ret (v := .tuple #[.agg #[.int .i64 S, .int .i64 P, .slice sa hs.length sc], .int .i64 (-1)]) (by simp [results, Try.results36, go_sem, y0, y1, y2]) rfl hF.out
          · have hR : R = (insB ⟨id, bx, on, off⟩ hs, bx) := by rw [hR0.out, bookV, if_pos ⟨by rw [hms.out]; rfl, by rw [hsv.out]; omega⟩, hsv.out]
            have C3 := cHeldIn S P a c hs id bx on off wr (hz.below (btrans hbw hb3r)) hl (by omega) hT.rt.nz
            subst hR
            clear hfin hR0 hms hsv CH hz hos ks s0 s1 s2
            go_wp2_with fail
            refine C3.mono ?_
            rintro e w7 ⟨v7, rfl, ho7, hb7⟩
            obtain ⟨⟨y0, y1, y2⟩, f0, f1, f2⟩ := blk3 (blk_keep (btrans hb3r hb7) k1)
            obtain ⟨u1, u2⟩ := ans_set (q := w.heap.size + 1) (S := S) (P := P) ho7 (btrans hbw (btrans hb3r hb7)) (by omega) (by have := hb3r.size; omega)
            obtain ⟨va, vc, hv⟩ := own_form ho7
            subst hv
            clear C3 ho7 k0 k1 hb7 v0 v1 v2
            go_wp2
            refine bodyPost_ret (v := .tuple #[.agg #[.int .i64 S, .int .i64 P, .slice va (insB ⟨id, bx, on, off⟩ hs).length vc], .int .i64 bx]) (by simp [results, Try.results36, go_sem, y0, y1, y2]) rfl ⟨_, rfl, u1, u2⟩
end Go.Proofs.Ytgnlcehpajbnoaa
