/- The model: PlaySales. -/
import Derived.Test.YtgnlcehpajbnoaaMZ
import Derived.Deep.RegionHeld3
import Derived.Deep.AppendLies
namespace Go.Proofs.Ytgnlcehpajbnoaa
open Go.RowKit Go.Lib
/-- A train told, and a list of numbers, each a row of the call's own. -/
def AnsQ (w : World) (S P : Int) (hs : List BkV) (ts : List Int) (e : Ending) (w' : World) : Prop :=
  ∃ v v2, e = .returned (.tuple #[.agg #[.int .i64 S, .int .i64 P, v], v2]) ∧ w'.ownsRow w.heap.size 78 4 v hs.length (flatBks hs) ∧ w'.ownsRow w.heap.size 3 1 v2 ts.length (ts.map (Value.int .i64)) ∧ Below w.heap.size w w'
theorem AnsP.q {w w' : World} {S P : Int} {hs : List BkV} {ts : List Int} {e : Ending} (h : AnsP w S P hs ts e w') : AnsQ w S P hs ts e w' := by
  obtain ⟨g, ch, v, h1, h2, h3, h4⟩ := h
  exact ⟨_, _, h1, h2, h3, h4⟩
theorem row_apart {w : World} {B1 B2 e1 e2 z1 z2 n1 n2 : Nat} {v1 v2 : Value} {xs1 xs2 : List Value} (h1 : w.ownsRow B1 e1 z1 v1 n1 xs1) (h2 : w.ownsRow B2 e2 z2 v2 n2 xs2) (hne : e1 ≠ e2) : ∀ k, v1.ownBlock = some k → some k ≠ v2.ownBlock := by
  intro k hk e
  rcases h1.2 with ⟨rfl, _⟩ | ⟨g1, c1, cur1, rfl, _, hh1, _⟩
  · simp [Value.ownBlock] at hk
  · simp only [Value.ownBlock, Option.some.injEq] at hk
    subst hk
    rcases h2.2 with ⟨rfl, _⟩ | ⟨g2, c2, cur2, rfl, _, hh2, _⟩
    · simp [Value.ownBlock] at e
    · simp only [Value.ownBlock, Option.some.injEq] at e
      subst e
      rw [hh1] at hh2
      simp only [Option.some.injEq, Obj.cells.injEq] at hh2
      exact hne hh2.2.1
/-- A train in block q whose bookings are a row. -/
def AtI (w : World) (B q : Nat) (S P : Int) (hs : List BkV) : Prop := ∃ v, OutR B q S P w v hs
theorem OutR.set {B q : Nat} {S P : Int} {w w2 : World} {v v2 : Value} {ms hs : List BkV} (h : OutR B q S P w v ms) (hb : Below w.heap.size w w2) (ho : w2.ownsRow w.heap.size 78 4 v2 hs.length (flatBks hs)) (hB : B ≤ w.heap.size) :
    OutR B q S P (((w2.setCell ⟨q, 0, none⟩ (.int .i64 S)).setCell ⟨q, 1, none⟩ (.int .i64 P)).setCell ⟨q, 2, none⟩ v2) v2 hs := by
  have hq := blk_keep hb h.out
  have hlt := lt_of_block h.out
  have hne : ∀ k, v2.ownBlock = some k → k ≠ q := fun k hk => by have := own_from ho (Nat.le_refl _) k hk; omega
  exact ⟨blk_set (i := 2) (v := v2) (blk_set (i := 1) (v := .int .i64 P) (blk_set (i := 0) (v := .int .i64 S) hq)), own_set (own_set (own_set (Go.Joins.ownsRow_le ho hB) hne) hne) hne⟩
theorem set3_own {w : World} {B e sz n q : Nat} {v x y z : Value} {xs : List Value} (h : w.ownsRow B e sz v n xs) {cs : Array Value} {t : TypeId} (hq : w.heap[q]? = some (.cells cs t (0, 0))) (hne : t ≠ e) : (((w.setCell ⟨q, 0, none⟩ x).setCell ⟨q, 1, none⟩ y).setCell ⟨q, 2, none⟩ z).ownsRow B e sz v n xs := by
  have hn : ∀ k, v.ownBlock = some k → k ≠ q := by
    intro k hk
    rcases h.2 with ⟨rfl, _⟩ | ⟨g1, c1, cur1, rfl, _, hh1, _⟩
    · simp [Value.ownBlock] at hk
    · simp only [Value.ownBlock, Option.some.injEq] at hk
      rintro rfl
      subst hk
      rw [hq] at hh1
      simp only [Option.some.injEq, Obj.cells.injEq] at hh1
      exact hne hh1.2.1
  exact own_set (own_set (own_set h hn) hn) hn

set_option maxRecDepth 20000 in
set_option maxHeartbeats 12800000 in
theorem cPlayS (S P : Int) (a : Option Addr) (c : Nat) (hs : List BkV) (sa : Option Addr) (sc : Nat) (l : List SaV) (w : World) (hz : Bks w a hs) (hl : hs.length ≤ 1048576) (hy : Sas w sa l) (hl2 : l.length ≤ 1048576) :
    Calls Try.prog 40 #[.agg #[.int .i64 S, .int .i64 P, .slice a hs.length c], .slice sa l.length sc] w (AnsQ w S P (playA S P hs l).1 (playA S P hs l).2) := by
  obtain ⟨i0, hi, hi0, hi1, hi2⟩ := info_parts infoInts
  have hW := btrans (balloc w (.cells #[.int .i64 S, .int .i64 P, .slice a hs.length c] 26)) (balloc _ (.cells #[.int .i64 0, .int .i64 0, .slice none 0 0] 26))
  obtain ⟨k0, k1⟩ := blocks2 w (.cells #[.int .i64 S, .int .i64 P, .slice a hs.length c] 26) (.cells #[.int .i64 0, .int .i64 0, .slice none 0 0] 26)
  have hs2 : ((w.alloc (.cells #[.int .i64 S, .int .i64 P, .slice a hs.length c] 26)).alloc (.cells #[.int .i64 0, .int .i64 0, .slice none 0 0] 26)).heap.size = w.heap.size + 1 + 1 := by simp
  have C := cTrainS S P a c hs _ (hz.below hW) hl
  have E : Hid (playA S P hs l = if trainB S P hs && decide (l.length ≤ 200) then playV S P hs l else (hs, [])) := hide rfl
  generalize playA S P hs l = R at *
  go_enter Try.func40, Try.ntmps40
  go_wp2_with fail
  refine C.mono ?_
  rintro e w1 ⟨rfl, hb1⟩
  replace k0 := blk_keep hb1 k0
  replace k1 := blk_keep hb1 k1
  have hbw := btrans hW hb1
  have hsz : w.heap.size + 1 + 1 ≤ w1.heap.size := by rw [← hs2]; exact hb1.size
  clear C hb1 hW hs2
  obtain ⟨⟨t0, t1, t2⟩, -⟩ := blk3 k0
  have hts : w.heap.size < w1.heap.size := by omega
  have CS := cSame S P a c hs w1 (hz.below hbw) hl
  by_cases hgood : trainB S P hs = true ∧ l.length ≤ 200
  rotate_left
  · have hR : R = (hs, []) := by
      rw [E.out]
      cases ht : trainB S P hs
      · rfl
      · rw [decide_eq_false (fun h => hgood ⟨ht, h⟩)]; rfl
    subst hR
    cases ht : trainB S P hs
    · go_wp2_with fail
      refine CS.mono ?_
      rintro e w2 ⟨v, rfl, ho, hb2⟩
      obtain ⟨⟨y0, y1, y2⟩, f0, f1, f2⟩ := blk3 (blk_keep hb2 k1)
      obtain ⟨u1, u2⟩ := ans_set (q := w.heap.size + 1) (S := S) (P := P) ho (btrans hbw hb2) (by omega) (by omega)
      obtain ⟨va, vc, hv⟩ := own_form ho
      subst hv
      clear CS ho k0 k1 hz hy
      go_wp2
      refine bodyPost_ret (v := .tuple #[.agg #[.int .i64 S, .int .i64 P, .slice va hs.length vc], .slice none 0 0]) (by simp [results, Try.results40, go_sem, y0, y1, y2]) rfl ⟨_, _, rfl, u1, World.ownsRow_nil _ _ _ _, u2⟩
    · have hl3 : (200 : Int) < (l.length : Int) := by
        have : ¬ l.length ≤ 200 := fun h => hgood ⟨ht, h⟩
        omega
      go_wp2_with fail
      refine CS.mono ?_
      rintro e w2 ⟨v, rfl, ho, hb2⟩
      obtain ⟨⟨y0, y1, y2⟩, f0, f1, f2⟩ := blk3 (blk_keep hb2 k1)
      obtain ⟨u1, u2⟩ := ans_set (q := w.heap.size + 1) (S := S) (P := P) ho (btrans hbw hb2) (by omega) (by omega)
      obtain ⟨va, vc, hv⟩ := own_form ho
      subst hv
      clear CS ho k0 k1 hz hy
      go_wp2
      refine bodyPost_ret (v := .tuple #[.agg #[.int .i64 S, .int .i64 P, .slice va hs.length vc], .slice none 0 0]) (by simp [results, Try.results40, go_sem, y0, y1, y2]) rfl ⟨_, _, rfl, u1, World.ownsRow_nil _ _ _ _, u2⟩
  obtain ⟨hgt, hgl⟩ := hgood
  rw [hgt]
  have hT := trainB_iff.1 hgt
  have hgl' : ¬ (200 : Int) < (l.length : Int) := by omega
  have hR : Hid (R = playV S P hs l) := hide (by rw [E.out, hgt, decide_eq_true hgl]; rfl)
  clear E
  go_wp2_with fail
  refine CS.mono ?_
  rintro e w2 ⟨v, rfl, ho2, hb2⟩
  replace k1 := blk_keep hb2 k1
  replace hbw := btrans hbw hb2
  have hsz2 : w.heap.size + 1 + 1 ≤ w2.heap.size := Nat.le_trans hsz hb2.size
  obtain ⟨va, vc, hv⟩ := own_form ho2
  subst hv
  have ho3 := Go.Joins.ownsRow_le ho2 (base' := w.heap.size + 1 + 1) hsz
  have hbA := balloc w2 (.cells #[.int .i64 S, .int .i64 P, .slice va hs.length vc] 26)
  have L0 : OutR (w.heap.size + 1 + 1) w2.heap.size S P (w2.alloc (.cells #[.int .i64 S, .int .i64 P, .slice va hs.length vc] 26)) (.slice va hs.length vc) hs := ⟨heap_alloc_new w2 _, own_keep ho3 hbA⟩
  have hO := World.ownsRow_made (base := w.heap.size + 1 + 1) (e := 3) (size := 1) (w2.alloc (.cells #[.int .i64 S, .int .i64 P, .slice va hs.length vc] 26)) #[] 0 (Nat.le_trans hsz2 hbA.size) (by unfold maxLen; omega) rfl
  have hbC := balloc (w2.alloc (.cells #[.int .i64 S, .int .i64 P, .slice va hs.length vc] 26)) (.cells #[] 3)
  rw [sz1] at hO
  replace L0 := L0.below hbC
  have hb2W := btrans hbA hbC
  replace k1 := blk_keep hb2W k1
  replace hbw := btrans hbw hb2W
  clear CS ho2 ho3 hbA hbC hb2 k0 t0 t1 t2 hts
  go_wp2
  generalize (w2.alloc (.cells #[.int .i64 S, .int .i64 P, .slice va hs.length vc] 26)).alloc (.cells #[] 3) = W at *
  have hWs : w2.heap.size < W.heap.size := lt_of_block L0.out
  have hqB : w.heap.size + 1 + 1 ≤ w2.heap.size := hsz2
  generalize w2.heap.size = qa at *
  go_loopw [7, 8] (fun v x wr => ∃ k : Nat, x = .int .i64 k ∧ k ≤ l.length ∧ AtI wr (w.heap.size + 1 + 1) qa S P (playV S P hs (l.take k)).1 ∧ wr.ownsRow (w.heap.size + 1 + 1) 3 1 v k ((playV S P hs (l.take k)).2.map (Value.int .i64)) ∧ Below (w.heap.size + 1 + 1) W wr) (fun _ x _ => l.length - (intOf x).toNat)
  case atStart => exact ⟨0, rfl, Nat.zero_le _, ⟨_, L0⟩, hO, Below.refl _ _⟩
  case round =>
    obtain ⟨k, rfl, hk, ⟨vt, L⟩, ho, hbr⟩ := hrel
    clear hO L0
    obtain ⟨ka, kc, hv⟩ := own_form ho
    subst hv
    obtain ⟨ta, tc, hv⟩ := own_form L.own
    subst hv
    have hTk := playV_tr hT (l.take k)
    have hlenk := playV_len S P hs (l.take k)
    have hbw3 : Below w.heap.size w wr := hbw.trans (hbr.mono (by omega))
    have hqs : qa < wr.heap.size := lt_of_block L.out
    obtain ⟨⟨m0, m1, m2⟩, e0, e1, e2⟩ := blk3 L.out
    by_cases hlt : k < l.length
    rotate_left
    · obtain rfl : k = l.length := by omega
      rw [List.take_length] at *
      rw [← hR.out] at L ho hlenk
      have k1r := (hbr.block (w.heap.size + 1) (by omega)).trans k1
      obtain ⟨⟨y0, y1, y2⟩, f0, f1, f2⟩ := blk3 k1r
      obtain ⟨u1, u2⟩ := ans_set (q := w.heap.size + 1) (S := S) (P := P) L.own hbw3 (by omega) (by omega)
      have u3 := set3_own (x := .int .i64 S) (y := .int .i64 P) (z := .slice ta (playV S P hs l).1.length tc) (Go.Joins.ownsRow_le ho (base' := w.heap.size) (by omega)) k1r (by decide)
      rw [← hR.out] at *
      clear L ho hz hy k1 k1r hTk hbr hbw3
      go_wp2
      refine bodyPost_ret (v := .tuple #[.agg #[.int .i64 S, .int .i64 P, .slice ta R.1.length tc], .slice ka l.length kc]) (by simp [results, Try.results40, go_sem, y0, y1, y2]) rfl ⟨_, _, rfl, u1, by rw [hlenk]; exact u3, u2⟩
    have htk := hide (playV_take (S := S) (P := P) (hs := hs) hlt)
    rcases hy with h | ⟨yb, yo, rfl, hc⟩
    · simp [h] at hlt
    obtain ⟨x0, x1, x2, x3⟩ := hc k hlt
    replace x0 := ble hbw3 x0
    replace x1 := ble hbw3 x1
    replace x2 := ble hbw3 x2
    replace x3 := ble hbw3 x3
    have hyb2 : yb < wr.heap.size := cell_lt x0
    have hk200 : k < 200 := by omega
    clear hc hlenk
    generalize playV S P hs (l.take k) = st at *
    generalize l.getD k SaV.zero = x at *
    obtain ⟨xk, xi, xn, xf⟩ := x
    dsimp only at *
    have hA := balloc wr (.cells #[.int .i64 xk, .int .i64 xi, .int .i64 xn, .int .i64 xf] 35)
    have kA : (wr.alloc (.cells #[.int .i64 xk, .int .i64 xi, .int .i64 xn, .int .i64 xf] 35)).heap[wr.heap.size]? = some (.cells #[.int .i64 xk, .int .i64 xi, .int .i64 xn, .int .i64 xf] 35 (0, 0)) := heap_alloc_new wr _
    have LA := L.below hA
    have hoA := own_keep ho hA
    have hbrA : Below (w.heap.size + 1 + 1) W (wr.alloc (.cells #[.int .i64 xk, .int .i64 xi, .int .i64 xn, .int .i64 xf] 35)) := hbr.trans (hA.mono (Nat.le_trans (by omega) hbr.size))
    have hstl : st.1.length ≤ 1048576 := by have := hTk.len; omega
    have htB := trainB_iff.2 hTk
    have hVs : (wr.alloc (.cells #[.int .i64 xk, .int .i64 xi, .int .i64 xn, .int .i64 xf] 35)).heap.size = wr.heap.size + 1 := by simp
    have hWr : w.heap.size + 1 + 1 ≤ wr.heap.size := Nat.le_trans (by omega) hbr.size
    -- one more number behind those told, the train as it stands then
    have happ : ∀ (V : World) (vt : Value) (r : Int), OutR (w.heap.size + 1 + 1) qa S P V vt (stepV S P st.1 ⟨xk, xi, xn, xf⟩).1 → r = (stepV S P st.1 ⟨xk, xi, xn, xf⟩).2 → V.ownsRow (w.heap.size + 1 + 1) 3 1 (.slice ka k kc) k (st.2.map (Value.int .i64)) → Below (w.heap.size + 1 + 1) W V →
        ∀ v2 w5, w5.ownsRow (w.heap.size + 1 + 1) 3 1 v2 (k + 1) (st.2.map (Value.int .i64) ++ [Value.int .i64 r]) → (V.alloc (.cells #[.int .i64 r] 3)).grownBy w5 (Value.slice ka k kc).ownBlock →
        Hid (AtI w5 (w.heap.size + 1 + 1) qa S P (playV S P hs (l.take (k + 1))).1 ∧ w5.ownsRow (w.heap.size + 1 + 1) 3 1 v2 (k + 1) ((playV S P hs (l.take (k + 1))).2.map (Value.int .i64)) ∧ Below (w.heap.size + 1 + 1) W w5) := by
      intro V vt r hLV hr hoV hbV v2 w5 ho5 hg5
      have hal := balloc V (.cells #[.int .i64 r] 3)
      have hLV2 := hLV.below hal
      have hoV2 := own_keep hoV hal
      refine hide ⟨⟨vt, ?_⟩, ?_, ?_⟩
      · rw [htk.out]
        exact ⟨blk_app hoV2 hg5 hLV2.out (by decide), own_far hLV2.own hg5 (row_apart hLV2.own hoV2 (by decide))⟩
      · rw [htk.out]
        simp only [playS, List.map_append, List.map_cons, List.map_nil, ← hr]
        exact ho5
      · have hb2 : Below (w.heap.size + 1 + 1) W (V.alloc (.cells #[.int .i64 r] 3)) := hbV.trans (hal.mono (Nat.le_trans (by omega) hbV.size))
        exact hb2.grown hg5 (Nat.le_trans (by omega) hb2.size) (own_from hoV2 (Nat.le_refl _))
    have hstp : Hid (stepV S P st.1 ⟨xk, xi, xn, xf⟩ = if xk = 0 then bookV S P st.1 xi xn xf else if xk = 1 then (unbV st.1 xi, if hasI st.1 xi then 0 else -1) else (st.1, -1)) := hide rfl
    clear L ho
    by_cases hx0 : xk = 0
    · have CB := cBookS S P ta tc st.1 xi xn xf _ (Bks.own LA.own) hstl
      have hbA2 : Hid (bookA S P st.1 xi xn xf = stepV S P st.1 ⟨xk, xi, xn, xf⟩) := hide (by rw [hstp.out, if_pos hx0, bookA, if_pos htB])
      rw [hbA2.out] at CB
      have hx1 : ¬ (xk = 1) := by omega
      have d0 : (xk == 0) = true := by simp [hx0]
      have d1 : (xk == 1) = false := by simp [hx1]
      replace hx0 := hide hx0
      replace hx1 := hide hx1
      clear hstp hbA2 htk
      generalize stepV S P st.1 ⟨xk, xi, xn, xf⟩ = sv at *
      go_wp2_with fail
      generalize wr.alloc (.cells #[.int .i64 xk, .int .i64 xi, .int .i64 xn, .int .i64 xf] 35) = V at *
      refine CB.mono ?_
      rintro e w4 ⟨v4, rfl, ho4, hb4⟩
      obtain ⟨qa4, qc4, hv⟩ := own_form ho4
      subst hv
      have LS := LA.set hb4 ho4 (by omega)
      have qb := blk_keep hb4 LA.out
      obtain ⟨⟨n0, n1, n2⟩, h0, h1, h2⟩ := blk3 qb
      obtain ⟨⟨z0, z1, z2, z3⟩, -⟩ := blk4 (blk_keep hb4 kA)
      have hoS := set3_own (x := .int .i64 S) (y := .int .i64 P) (z := .slice qa4 sv.1.length qc4) (own_keep hoA hb4) qb (by decide)
      have hbS : Below (w.heap.size + 1 + 1) W (((w4.setCell ⟨qa, 0, none⟩ (.int .i64 S)).setCell ⟨qa, 1, none⟩ (.int .i64 P)).setCell ⟨qa, 2, none⟩ (.slice qa4 sv.1.length qc4)) := below_set hqB (below_set hqB (below_set hqB (hbrA.trans (hb4.mono (by omega)))))
      have hs5 : (((w4.setCell ⟨qa, 0, none⟩ (.int .i64 S)).setCell ⟨qa, 1, none⟩ (.int .i64 P)).setCell ⟨qa, 2, none⟩ (.slice qa4 sv.1.length qc4)).heap.size = w4.heap.size := by simp
      have hnw : ∀ j u, [Value.int .i64 sv.2][j]? = some u → ((((w4.setCell ⟨qa, 0, none⟩ (.int .i64 S)).setCell ⟨qa, 1, none⟩ (.int .i64 P)).setCell ⟨qa, 2, none⟩ (.slice qa4 sv.1.length qc4)).alloc (.cells #[.int .i64 sv.2] 3)).cell? ((⟨w4.heap.size, 0, none⟩ : Addr).add j) = some u := by rw [← hs5]; exact World.news_of_block (heap_alloc_new _ _)
      have hap := happ _ _ sv.2 LS rfl hoS hbS
      have hoX := own_keep hoS (balloc _ (.cells #[.int .i64 sv.2] 3))
      have hne1 : wr.heap.size ≠ qa := by omega
      have hs4 : w.heap.size + 1 + 1 ≤ w4.heap.size := by have := hb4.size; omega
      have hwr4 : wr.heap.size < w4.heap.size := cell_lt z0
      clear happ LS hoS hbS qb LA kA hoA ho4 CB hb4
      go_wp2_with (at_builtin; refine wpList_append_own _ rfl _ _ 30 rfl (w.heap.size + 1 + 1) 3 i0 _ 1 8 Try.underlying30 hi hi0 hi1 hi2 rfl (by decide) _ _ _ rfl hoX ⟨w4.heap.size, 0, none⟩ 1 1 [.int .i64 sv.2] rfl rfl hnw (by simp [Value.oneCell']) (by unfold maxLen; omega) (by omega) (by simp; omega) ?_; intro v5 w5 hown hgrow _)
      obtain ⟨j1, j2, j3⟩ := (hap v5 w5 hown hgrow).out
      clear hap hown hgrow hoX hnw
      go_wp2
      go_roundw
      case rel => exact ⟨k + 1, by go_num, by omega, j1, j2, j3⟩
      case measure => simp [intOf]; omega
    · have d0 : (xk == 0) = false := by simp [hx0]
      by_cases hx1 : xk = 1
      · have CU := cUnbookS S P ta tc st.1 xi _ (Bks.own LA.own) hstl
        have hsv1 : Hid ((unbA S P st.1 xi).1 = (stepV S P st.1 ⟨xk, xi, xn, xf⟩).1) := hide (by rw [hstp.out, if_neg hx0, if_pos hx1, unbA, if_pos htB])
        have hsv2 : Hid ((stepV S P st.1 ⟨xk, xi, xn, xf⟩).2 = if (unbA S P st.1 xi).2 then 0 else -1) := hide (by rw [hstp.out, if_neg hx0, if_pos hx1, unbA, if_pos htB])
        rw [hsv1.out] at CU
        have d1 : (xk == 1) = true := by simp [hx1]
        replace hx0 := hide hx0
        replace hx1 := hide hx1
        clear hstp hsv1 htk
        generalize stepV S P st.1 ⟨xk, xi, xn, xf⟩ = sv at *
        generalize (unbA S P st.1 xi).2 = ub at *
        go_wp2_with fail
        generalize wr.alloc (.cells #[.int .i64 xk, .int .i64 xi, .int .i64 xn, .int .i64 xf] 35) = V at *
        refine CU.mono ?_
        rintro e w4 ⟨v4, rfl, ho4, hb4⟩
        obtain ⟨qa4, qc4, hv⟩ := own_form ho4
        subst hv
        have qb0 := blk_keep hb4 LA.out
        have hqa4 : qa < w4.heap.size := lt_of_block qb0
        obtain ⟨⟨n0, n1, n2⟩, h0, h1, h2⟩ := blk3 qb0
        obtain ⟨⟨z0, z1, z2, z3⟩, -⟩ := blk4 (blk_keep hb4 kA)
        have hwr4 : wr.heap.size < w4.heap.size := cell_lt z0
        clear qb0
        cases ub
        · have hr : sv.2 = -1 := hsv2.out
          have LS := LA.set hb4 ho4 (by omega)
          have qb := blk_keep hb4 LA.out
          have hoS := set3_own (x := .int .i64 S) (y := .int .i64 P) (z := .slice qa4 sv.1.length qc4) (own_keep hoA hb4) qb (by decide)
          have hbS : Below (w.heap.size + 1 + 1) W (((w4.setCell ⟨qa, 0, none⟩ (.int .i64 S)).setCell ⟨qa, 1, none⟩ (.int .i64 P)).setCell ⟨qa, 2, none⟩ (.slice qa4 sv.1.length qc4)) := below_set hqB (below_set hqB (below_set hqB (hbrA.trans (hb4.mono (by omega)))))
          have hbx := balloc (((w4.setCell ⟨qa, 0, none⟩ (.int .i64 S)).setCell ⟨qa, 1, none⟩ (.int .i64 P)).setCell ⟨qa, 2, none⟩ (.slice qa4 sv.1.length qc4)) (.cells #[.int .i64 S, .int .i64 P, .slice qa4 sv.1.length qc4] 26)
          have LS2 := LS.below hbx
          have hoS2 := own_keep hoS hbx
          have hbS2 : Below (w.heap.size + 1 + 1) W ((((w4.setCell ⟨qa, 0, none⟩ (.int .i64 S)).setCell ⟨qa, 1, none⟩ (.int .i64 P)).setCell ⟨qa, 2, none⟩ (.slice qa4 sv.1.length qc4)).alloc (.cells #[.int .i64 S, .int .i64 P, .slice qa4 sv.1.length qc4] 26)) := hbS.trans (hbx.mono (by have := hbS.size; omega))
          have hs5 : ((((w4.setCell ⟨qa, 0, none⟩ (.int .i64 S)).setCell ⟨qa, 1, none⟩ (.int .i64 P)).setCell ⟨qa, 2, none⟩ (.slice qa4 sv.1.length qc4)).alloc (.cells #[.int .i64 S, .int .i64 P, .slice qa4 sv.1.length qc4] 26)).heap.size = w4.heap.size + 1 := by simp
          have hnw : ∀ j u, [Value.int .i64 (-1)][j]? = some u → (((((w4.setCell ⟨qa, 0, none⟩ (.int .i64 S)).setCell ⟨qa, 1, none⟩ (.int .i64 P)).setCell ⟨qa, 2, none⟩ (.slice qa4 sv.1.length qc4)).alloc (.cells #[.int .i64 S, .int .i64 P, .slice qa4 sv.1.length qc4] 26)).alloc (.cells #[.int .i64 (-1)] 3)).cell? ((⟨w4.heap.size + 1, 0, none⟩ : Addr).add j) = some u := by rw [← hs5]; exact World.news_of_block (heap_alloc_new _ _)
          have hap := happ _ _ (-1) LS2 hr.symm hoS2 hbS2
          have hoX := own_keep hoS2 (balloc _ (.cells #[.int .i64 (-1)] 3))
          have hne1 : wr.heap.size ≠ qa := by omega
          have hs4 : w.heap.size + 1 + 1 ≤ w4.heap.size := by have := hb4.size; omega
          clear happ LS hoS hbS LS2 hoS2 hbS2 hbx qb LA kA hoA ho4 CU hb4 hsv2
          go_wp2_with (at_builtin; refine wpList_append_own _ rfl _ _ 30 rfl (w.heap.size + 1 + 1) 3 i0 _ 1 8 Try.underlying30 hi hi0 hi1 hi2 rfl (by decide) _ _ _ rfl hoX ⟨w4.heap.size + 1, 0, none⟩ 1 1 [.int .i64 (-1)] rfl rfl hnw (by simp [Value.oneCell']) (by unfold maxLen; omega) (by omega) (by simp; omega) ?_; intro v5 w5 hown hgrow _)
          obtain ⟨j1, j2, j3⟩ := (hap v5 w5 hown hgrow).out
          clear hap hown hgrow hoX hnw
          go_wp2
          go_roundw
          case rel => exact ⟨k + 1, by go_num, by omega, j1, j2, j3⟩
          case measure => simp [intOf]; omega
        · have hr : sv.2 = 0 := hsv2.out
          have LS := LA.set hb4 ho4 (by omega)
          have qb := blk_keep hb4 LA.out
          have hoS := set3_own (x := .int .i64 S) (y := .int .i64 P) (z := .slice qa4 sv.1.length qc4) (own_keep hoA hb4) qb (by decide)
          have hbS : Below (w.heap.size + 1 + 1) W (((w4.setCell ⟨qa, 0, none⟩ (.int .i64 S)).setCell ⟨qa, 1, none⟩ (.int .i64 P)).setCell ⟨qa, 2, none⟩ (.slice qa4 sv.1.length qc4)) := below_set hqB (below_set hqB (below_set hqB (hbrA.trans (hb4.mono (by omega)))))
          have hbx := balloc (((w4.setCell ⟨qa, 0, none⟩ (.int .i64 S)).setCell ⟨qa, 1, none⟩ (.int .i64 P)).setCell ⟨qa, 2, none⟩ (.slice qa4 sv.1.length qc4)) (.cells #[.int .i64 S, .int .i64 P, .slice qa4 sv.1.length qc4] 26)
          have LS2 := LS.below hbx
          have hoS2 := own_keep hoS hbx
          have hbS2 : Below (w.heap.size + 1 + 1) W ((((w4.setCell ⟨qa, 0, none⟩ (.int .i64 S)).setCell ⟨qa, 1, none⟩ (.int .i64 P)).setCell ⟨qa, 2, none⟩ (.slice qa4 sv.1.length qc4)).alloc (.cells #[.int .i64 S, .int .i64 P, .slice qa4 sv.1.length qc4] 26)) := hbS.trans (hbx.mono (by have := hbS.size; omega))
          have hs5 : ((((w4.setCell ⟨qa, 0, none⟩ (.int .i64 S)).setCell ⟨qa, 1, none⟩ (.int .i64 P)).setCell ⟨qa, 2, none⟩ (.slice qa4 sv.1.length qc4)).alloc (.cells #[.int .i64 S, .int .i64 P, .slice qa4 sv.1.length qc4] 26)).heap.size = w4.heap.size + 1 := by simp
          have hnw : ∀ j u, [Value.int .i64 (0)][j]? = some u → (((((w4.setCell ⟨qa, 0, none⟩ (.int .i64 S)).setCell ⟨qa, 1, none⟩ (.int .i64 P)).setCell ⟨qa, 2, none⟩ (.slice qa4 sv.1.length qc4)).alloc (.cells #[.int .i64 S, .int .i64 P, .slice qa4 sv.1.length qc4] 26)).alloc (.cells #[.int .i64 (0)] 3)).cell? ((⟨w4.heap.size + 1, 0, none⟩ : Addr).add j) = some u := by rw [← hs5]; exact World.news_of_block (heap_alloc_new _ _)
          have hap := happ _ _ (0) LS2 hr.symm hoS2 hbS2
          have hoX := own_keep hoS2 (balloc _ (.cells #[.int .i64 (0)] 3))
          have hne1 : wr.heap.size ≠ qa := by omega
          have hs4 : w.heap.size + 1 + 1 ≤ w4.heap.size := by have := hb4.size; omega
          clear happ LS hoS hbS LS2 hoS2 hbS2 hbx qb LA kA hoA ho4 CU hb4 hsv2
          go_wp2_with (at_builtin; refine wpList_append_own _ rfl _ _ 30 rfl (w.heap.size + 1 + 1) 3 i0 _ 1 8 Try.underlying30 hi hi0 hi1 hi2 rfl (by decide) _ _ _ rfl hoX ⟨w4.heap.size + 1, 0, none⟩ 1 1 [.int .i64 (0)] rfl rfl hnw (by simp [Value.oneCell']) (by unfold maxLen; omega) (by omega) (by simp; omega) ?_; intro v5 w5 hown hgrow _)
          obtain ⟨j1, j2, j3⟩ := (hap v5 w5 hown hgrow).out
          clear hap hown hgrow hoX hnw
          go_wp2
          go_roundw
          case rel => exact ⟨k + 1, by go_num, by omega, j1, j2, j3⟩
          case measure => simp [intOf]; omega
      · have hsv : Hid (stepV S P st.1 ⟨xk, xi, xn, xf⟩ = (st.1, -1)) := hide (by rw [hstp.out, if_neg hx0, if_neg hx1])
        have d1 : (xk == 1) = false := by simp [hx1]
        replace hx0 := hide hx0
        replace hx1 := hide hx1
        rw [hsv.out] at happ
        clear hstp hsv htk
        have hap := happ _ _ (-1) LA rfl hoA hbrA
        have hoX := own_keep hoA (balloc _ (.cells #[.int .i64 (-1)] 3))
        have hnw : ∀ j u, [Value.int .i64 (-1)][j]? = some u → ((wr.alloc (.cells #[.int .i64 xk, .int .i64 xi, .int .i64 xn, .int .i64 xf] 35)).alloc (.cells #[.int .i64 (-1)] 3)).cell? ((⟨wr.heap.size + 1, 0, none⟩ : Addr).add j) = some u := by rw [← hVs]; exact World.news_of_block (heap_alloc_new _ _)
        clear happ LA kA hoA hbrA
        go_wp2_with (at_builtin; refine wpList_append_own _ rfl _ _ 30 rfl (w.heap.size + 1 + 1) 3 i0 _ 1 8 Try.underlying30 hi hi0 hi1 hi2 rfl (by decide) _ _ _ rfl hoX ⟨wr.heap.size + 1, 0, none⟩ 1 1 [.int .i64 (-1)] rfl rfl hnw (by simp [Value.oneCell']) (by unfold maxLen; omega) (by omega) (by simp; omega) ?_; intro v5 w5 hown hgrow _)
        obtain ⟨j1, j2, j3⟩ := (hap v5 w5 hown hgrow).out
        clear hap hown hgrow hoX
        go_wp2
        go_roundw
        case rel => exact ⟨k + 1, by go_num, by omega, j1, j2, j3⟩
        case measure => simp [intOf]; omega
end Go.Proofs.Ytgnlcehpajbnoaa
