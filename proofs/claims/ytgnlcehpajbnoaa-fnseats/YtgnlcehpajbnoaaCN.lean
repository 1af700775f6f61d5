/- The program: PlaySales. -/
import Derived.Test.YtgnlcehpajbnoaaCM
import Derived.Deep.RegionHeld3
import Derived.Deep.AppendLies
namespace Go.Proofs.Ytgnlcehpajbnoaa
open Go.RowKit Go.Lib
def playA (S P : Int) (hs : List BkV) (l : List SaV) : List BkV × List Int := if trainB S P hs && decide (l.length ≤ 200) then playV S P hs l else (hs, [])
/-- A train told, and a list of numbers. -/
def AnsP (w : World) (S P : Int) (hs : List BkV) (ts : List Int) (e : Ending) (w' : World) : Prop :=
  ∃ g ch v, e = .returned (.tuple #[.agg #[.int .i64 S, .int .i64 P, .slice (some ⟨g, 0, none⟩) hs.length ch], v]) ∧ w'.ownsRow w.heap.size 78 4 (.slice (some ⟨g, 0, none⟩) hs.length ch) hs.length (flatBks hs) ∧ w'.ownsRow w.heap.size 3 1 v ts.length (ts.map (Value.int .i64)) ∧ Below w.heap.size w w'
theorem kp_row {w w' : World} {g : Nat} {cur : List Value} (h : KpT w w') (hr : w.heap[g]? = some (.cells cur.toArray 3 (0, 0))) : w'.heap[g]? = some (.cells cur.toArray 3 (0, 0)) := h.2 _ _ _ _ hr (by decide) (by decide) (by decide)

/-- A book whose pieces are as its bookings have them. -/
def PlInv (w : World) (B b : Nat) (N : Nat) (P : Int) (gs : Nat) (hs : List BkV) : Prop := ∃ gh ch, Bk w B b N P gh ch hs gs hs
theorem Bk.setFar {w : World} {B b : Nat} {N : Nat} {P : Int} {gh ch : Nat} {hs : List BkV} {gs : Nat} {ds : List BkV} {t : Nat} (h : Bk w B b N P gh ch hs gs ds) (o : Nat) (v : Value) {cu : Array Value} (ht : w.heap[t]? = some (.cells cu 3 (0, 0))) : Bk (w.setCell ⟨t, o, none⟩ v) B b N P gh ch hs gs ds := by
  have h1 : b ≠ t := by
    rintro rfl
    rw [h.blk] at ht
    simp at ht
  have h2 : gs ≠ t := by
    rintro rfl
    rw [h.seats] at ht
    simp at ht
  have h3 : gh ≠ t := by
    obtain ⟨_, cur, hc⟩ := h.heldBlk
    rintro rfl
    rw [hc] at ht
    simp at ht
  exact ⟨blk_other h.blk h1, own_setg h3 h.held, blk_other h.seats h2, h.bB, h.sB⟩
theorem take_set {xs : List Value} {k : Nat} {v : Value} (hk : k < xs.length) : (xs.set k v).take (k + 1) = xs.take k ++ [v] := by
  rw [List.take_succ_eq_append_getElem (by rw [List.length_set]; exact hk), List.take_set_of_le (Nat.le_refl _)]
  simp

set_option maxRecDepth 20000 in
set_option maxHeartbeats 3200000 in
theorem cPlayI (S P : Int) (a : Option Addr) (c : Nat) (hs : List BkV) (sa : Option Addr) (sc : Nat) (l : List SaV) (w : World) (hz : Bks w a hs) (hl : hs.length ≤ 1048576) (hy : Sas w sa l) (hl2 : l.length ≤ 1048576) :
    Calls Try.prog 14 #[.agg #[.int .i64 S, .int .i64 P, .slice a hs.length c], .slice sa l.length sc] w (AnsP w S P (playA S P hs l).1 (playA S P hs l).2) := by
  have hW := btrans (balloc w (.cells #[.int .i64 S, .int .i64 P, .slice a hs.length c] 26)) (balloc _ (.cells #[.int .i64 0, .int .i64 0, .slice none 0 0] 26))
  have kk := (blocks2 w (.cells #[.int .i64 S, .int .i64 P, .slice a hs.length c] 26) (.cells #[.int .i64 0, .int .i64 0, .slice none 0 0] 26)).2
  have hs2 : ((w.alloc (.cells #[.int .i64 S, .int .i64 P, .slice a hs.length c] 26)).alloc (.cells #[.int .i64 0, .int .i64 0, .slice none 0 0] 26)).heap.size = w.heap.size + 1 + 1 := by simp
  have C := cBookOf S P a c hs _ (hz.below hW) hl
  have E : Hid (playA S P hs l = if trainB S P hs && decide (l.length ≤ 200) then playV S P hs l else (hs, [])) := hide rfl
  obtain ⟨i0, hi, hi0, hi1, hi2⟩ := info_parts infoInts
  generalize playA S P hs l = R at *
  go_enter Try.func14, Try.ntmps14
  go_wp2_with fail
  refine C.mono ?_
  rintro e w1 ⟨b, gh, rfl, hTr, hb, hbk⟩
  have kq := blk_keep hb kk
  have hbw := btrans hW hb
  rw [hs2] at hTr hbk
  have hb1 : b < w1.heap.size := by obtain ⟨⟨v, hv⟩, _⟩ := hTr; exact lt_of_block hv
  have hw1 : w.heap.size + 1 < w1.heap.size := lt_of_block kq
  clear C kk hb hW hs2
  have hbad : Hid (R = (hs, []) → ∀ q0 q1 q2 : Value, AnsP w S P R.1 R.2 (.returned (.tuple #[.agg #[.int .i64 S, .int .i64 P, .slice (some ⟨gh, 0, none⟩) hs.length hs.length], .slice none 0 0])) (((w1.setCell ⟨w.heap.size + 1, 0, none⟩ (.int .i64 S)).setCell ⟨w.heap.size + 1, 1, none⟩ (.int .i64 P)).setCell ⟨w.heap.size + 1, 2, none⟩ (.slice (some ⟨gh, 0, none⟩) hs.length hs.length))) := hide (fun hR _ _ _ => by
    obtain ⟨u1, u2⟩ := tr_set (q := w.heap.size + 1) hTr hbw (by omega) (by omega) (by omega)
    rw [hR]
    exact ⟨gh, hs.length, _, rfl, u1, World.ownsRow_nil _ _ _ _, u2⟩)
  cases ht : trainB S P hs
  · rw [ht] at E
    have hR : R = (hs, []) := E.out
    have hF := hide (hbad.out hR (.bool true) (.bool true) (.bool true))
    obtain ⟨⟨q0, q1, q2⟩, g0, g1, g2⟩ := blk3 kq
    obtain ⟨t0, t1, t2⟩ := hTr.cells
    clear hbk hTr kq hz hR hbad
    go_wp2
    refine bodyPost_ret (v := .tuple #[.agg #[.int .i64 S, .int .i64 P, .slice (some ⟨gh, 0, none⟩) hs.length hs.length], .slice none 0 0]) (by simp [results, Try.results14, go_sem, q0, q1, q2]) rfl hF.out
  by_cases h200 : l.length ≤ 200
  rotate_left
  · have hR : R = (hs, []) := by rw [E.out, ht, decide_eq_false h200]; rfl
    have hF := hide (hbad.out hR (.bool true) (.bool true) (.bool true))
    obtain ⟨⟨q0, q1, q2⟩, g0, g1, g2⟩ := blk3 kq
    obtain ⟨t0, t1, t2⟩ := hTr.cells
    have h2' : (200 : Int) < (l.length : Int) := by omega
    clear hbk hTr kq hz hR hbad
    go_wp2
    refine bodyPost_ret (v := .tuple #[.agg #[.int .i64 S, .int .i64 P, .slice (some ⟨gh, 0, none⟩) hs.length hs.length], .slice none 0 0]) (by simp [results, Try.results14, go_sem, q0, q1, q2]) rfl hF.out
  obtain ⟨gs, HB⟩ := hbk ht
  obtain ⟨eN, hT⟩ := trainB_N ht
  have hR : Hid (R = playV S P hs l) := hide (by rw [E.out, ht, decide_eq_true h200]; rfl)
  have h2' : ¬ (200 : Int) < (l.length : Int) := by omega
  rw [← eN] at hR
  clear hbk hTr hbad E ht hz
  go_wp2_with (at_make; refine wpList_make_full _ rfl _ _ 30 rfl w1.heap.size 3 i0 (Value.int .i64 0) 1 Try.underlying30 hi hi0 hi1 _ _ _ _ l.length rfl rfl rfl rfl (by rw [hi2]; omega) (by unfold maxLen; omega) (Nat.le_refl _) ?_; intro w2 hown hgrow)
  obtain ⟨cur, hrow, hcl⟩ := made_int hown
  have hb2 := grow_none hgrow
  have H2 := HB.below hb2
  have hb12 : Below (w.heap.size + 1 + 1) w1 w2 := hb2.mono (by omega)
  clear hown hgrow HB hb2
  go_loopw [32] (fun x wr => ∃ k : Nat, ∃ cur : List Value, x = .int .i64 k ∧ k ≤ l.length ∧ wr.heap[w1.heap.size]? = some (.cells cur.toArray 3 (0, 0)) ∧ Hid (cur.length = l.length) ∧ Hid (cur.take k = (playV S.toNat P hs (l.take k)).2.map (Value.int .i64)) ∧ PlInv wr (w.heap.size + 1 + 1) b S.toNat P gs (playV S.toNat P hs (l.take k)).1 ∧ Below (w.heap.size + 1 + 1) w1 wr) (fun x _ => l.length - (intOf x).toNat)
  case atStart => exact ⟨0, cur, rfl, Nat.zero_le _, hrow, hide hcl, hide rfl, ⟨gh, hs.length, H2⟩, hb12⟩
  case round =>
    obtain ⟨k, cu, rfl, hk, hr, hl3, ht, ⟨gh', ch', HK⟩, hbr⟩ := hrel
    clear hrow hcl H2 hb12
    have hTk := playV_tr hT (l.take k)
    have hlen := playV_len S.toNat P hs (l.take k)
    have hbw3 : Below w.heap.size w wr := hbw.trans (hbr.mono (by omega))
    by_cases hlt : k < l.length
    · have htk := hide (playV_take (S := S.toNat) (P := P) (hs := hs) hlt)
      have hrt := lt_of_block hr
      rcases hy with h | ⟨yb, yo, rfl, hc⟩
      · simp [h] at hlt
      obtain ⟨x0, x1, x2, x3⟩ := hc k hlt
      have hyb := cell_lt x0
      replace x0 := ble hbw3 x0
      replace x1 := ble hbw3 x1
      replace x2 := ble hbw3 x2
      replace x3 := ble hbw3 x3
      have hyb2 : yb < wr.heap.size := cell_lt x0
      rw [List.length_take, Nat.min_eq_left (by omega)] at hlen
      replace hlen := hide hlen
      generalize playV S.toNat P hs (l.take k) = st at *
      generalize l.getD k SaV.zero = x at *
      clear hc
      have hA := balloc wr (.cells x.vs.toArray 35)
      have CP := cPlay (w.heap.size + 1 + 1) b S.toNat P gh' ch' st.1 gs x _ (HK.below hA) hTk
      obtain ⟨xk, xi, xn, xf⟩ := x
      unfold SaV.val SaV.vs at *
      dsimp only at *
      clear hbw3
      go_wp2_with fail
      refine CP.mono ?_
      rintro e w4 ⟨gh2, ch2, rfl, H4, hK4, hb4⟩
      have hr4 := kp_row hK4 (blk_keep hA hr)
      have hbr4 : Below (w.heap.size + 1 + 1) w1 w4 := hbr.trans ((hA.mono (Nat.le_trans (by omega) hbr.size)).trans hb4)
      have hcell : w4.cell? ⟨w1.heap.size, k, none⟩ = some (cu.getD k undef) := by
        simp only [World.cell?, hr4]
        rw [List.getElem?_toArray]; simp [List.getD, show k < cu.length by rw [hl3.out]; exact hlt]
      have hfz : w4.frozen? ⟨w1.heap.size, k, none⟩ = false := Go.Joins.unfrozen_of_block hr4 _
      generalize hst : stepV S.toNat P st.1 ⟨xk, xi, xn, xf⟩ = sv at *
      replace hst := hide hst
      have H5 := H4.setFar (t := w1.heap.size) k (.int .i64 sv.2) hr4
      have hr5 := blk_set (i := k) (v := .int .i64 sv.2) hr4
      rw [List.setIfInBounds_toArray] at hr5
      have hbr5 := below_set (o := k) (v := .int .i64 sv.2) (show w.heap.size + 1 + 1 ≤ w1.heap.size by omega) hbr4
      have ht5 : Hid ((cu.set k (.int .i64 sv.2)).take (k + 1) = (playV S.toNat P hs (l.take (k + 1))).2.map (Value.int .i64)) := hide (by
        rw [htk.out, take_set (by rw [hl3.out]; exact hlt), ht.out]
        simp only [playS, List.map_append, List.map_cons, List.map_nil]
        rw [hst.out])
      have h15 : PlInv (w4.setCell ⟨w1.heap.size, k, none⟩ (.int .i64 sv.2)) (w.heap.size + 1 + 1) b S.toNat P gs (playV S.toNat P hs (l.take (k + 1))).1 := ⟨gh2, ch2, by
        rw [htk.out]
        show Bk _ _ _ _ _ _ _ (stepV S.toNat P st.1 ⟨xk, xi, xn, xf⟩).1 _ (stepV S.toNat P st.1 ⟨xk, xi, xn, xf⟩).1
        rw [hst.out]; exact H5⟩
      have hl5 : Hid ((cu.set k (.int .i64 sv.2)).length = l.length) := hide (by rw [List.length_set]; exact hl3.out)
      generalize cu.getD k undef = old at *
      clear CP H4 hK4 hb4 hr4 hbr4 hA HK hr ht hl3 H5 hbr htk x0 x1 x2 x3
      go_wp2
      go_roundw
      case rel => exact ⟨k + 1, _, by go_num, by omega, hr5, hl5, ht5, h15, hbr5⟩
      case measure => simp [intOf]; omega
    · obtain rfl : k = l.length := by omega
      rw [List.take_length] at hlen ht HK
      rw [← hR.out] at HK ht hlen
      have kq2 := (hbr.block (w.heap.size + 1) (by omega)).trans kq
      have hTr2 := HK.tr
      rw [eN] at hTr2
      obtain ⟨⟨q0, q1, q2⟩, g0, g1, g2⟩ := blk3 kq2
      obtain ⟨u1, u2⟩ := tr_set (q := w.heap.size + 1) hTr2 hbw3 (by omega) (by omega) (by omega)
      obtain ⟨t0, t1, t2⟩ := hTr2.cells
      have hcu : cu = R.2.map (Value.int .i64) := by rw [← ht.out, List.take_of_length_le (by rw [hl3.out]; exact Nat.le_refl _)]
      have hrow2 : (((wr.setCell ⟨w.heap.size + 1, 0, none⟩ (.int .i64 S)).setCell ⟨w.heap.size + 1, 1, none⟩ (.int .i64 P)).setCell ⟨w.heap.size + 1, 2, none⟩ (.slice (some ⟨gh', 0, none⟩) R.1.length ch')).ownsRow w.heap.size 3 1 (.slice (some ⟨w1.heap.size, 0, none⟩) l.length l.length) R.2.length (R.2.map (Value.int .i64)) := by
        rw [hlen]
        refine own_setg (by omega) (own_setg (by omega) (own_setg (by omega) ⟨by simp [hlen], .inr ⟨w1.heap.size, l.length, cu.toArray, rfl, by omega, hr, Nat.le_refl _, by unfold maxLen; omega, by simp [hl3.out], ?_⟩⟩))
        rw [hcu]; simp only [Nat.mul_one]; exact List.take_of_length_le (by rw [List.length_map, hlen]; exact Nat.le_refl _)
      have hF : Hid (AnsP w S P R.1 R.2 (.returned (.tuple #[.agg #[.int .i64 S, .int .i64 P, .slice (some ⟨gh', 0, none⟩) R.1.length ch'], .slice (some ⟨w1.heap.size, 0, none⟩) l.length l.length])) (((wr.setCell ⟨w.heap.size + 1, 0, none⟩ (.int .i64 S)).setCell ⟨w.heap.size + 1, 1, none⟩ (.int .i64 P)).setCell ⟨w.heap.size + 1, 2, none⟩ (.slice (some ⟨gh', 0, none⟩) R.1.length ch'))) := hide ⟨gh', ch', _, rfl, u1, hrow2, u2⟩
      have hbl : b < wr.heap.size := cell_lt t0
      clear HK hTr2 kq kq2 hr ht hl3 hcu hrow2 u1 u2 hbr hbw3 hTk hlen hR
      go_wp2
      refine bodyPost_ret (v := .tuple #[.agg #[.int .i64 S, .int .i64 P, .slice (some ⟨gh', 0, none⟩) R.1.length ch'], .slice (some ⟨w1.heap.size, 0, none⟩) l.length l.length]) (by simp [results, Try.results14, go_sem, q0, q1, q2]) rfl hF.out
end Go.Proofs.Ytgnlcehpajbnoaa
