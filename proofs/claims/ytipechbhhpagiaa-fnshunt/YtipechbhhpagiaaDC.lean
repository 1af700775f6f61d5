/- Drawn right sidings. -/
import Derived.Test.YtipechbhhpagiaaDB
import Derived.Test.YtipechbhhpagiaaSC
import Derived.Maps.AppendAt
namespace Go.Proofs.Ytipechbhhpagiaa
open Go.RowKit
/-- Wagons that rise, below the next one. -/
structure Rs (L : List Int) (W : Int) : Prop where
  up : L.Pairwise (· < ·)
  lt : ∀ x ∈ L, 1 ≤ x ∧ x < W
  w1 : 1 ≤ W
  w2 : W ≤ 50 + 9 * (L.length : Int)
theorem Rs.snoc {L : List Int} {W y : Int} (h : Rs L W) (y0 : 0 ≤ y) (y8 : y ≤ 8) : Rs (L ++ [W]) (W + 1 + y) := by
  refine ⟨?_, fun x hx => ?_, by have := h.w1; omega, by have := h.w2; simp; omega⟩
  · refine List.pairwise_append.2 ⟨h.up, List.pairwise_singleton _ _, fun x hx z hz => ?_⟩
    simp at hz; subst hz; exact (h.lt x hx).2
  · rcases List.mem_append.1 hx with h1 | h1
    · have := h.lt x h1; omega
    · simp at h1; subst h1; have := h.w1; omega
theorem Rs.nodup {L : List Int} {W : Int} (h : Rs L W) : L.Nodup := h.up.imp (fun h e => by subst e; exact Int.lt_irrefl _ h)
/-- What is drawn so far. -/
structure Rg (rm : List Int) (rws : List (List Int)) (W : Int) : Prop where
  rs : Rs rws.flatten W
  len : rm.length = rws.length
  row : ∀ i, i < rws.length → rowB (rm.getD i 0) (rwA rws i) = true
  few : rws.flatten.length ≤ 9 * rws.length
theorem Rg.snoc {rm : List Int} {rws : List (List Int)} {W W2 r : Int} {ms : List Int} (h : Rg rm rws W) (hs : Rs (rws.flatten ++ ms) W2) (r1 : 1 ≤ r) (r9 : r ≤ 9) (hm : (ms.length : Int) ≤ r) (hn : rws.length ≤ 4) : Rg (rm ++ [r]) (rws ++ [ms]) W2 := by
  have hf : (rws ++ [ms]).flatten = rws.flatten ++ ms := by simp
  refine ⟨by rw [hf]; exact hs, by simp [h.len], fun i hi => ?_, by rw [hf, List.length_append, List.length_append, List.length_singleton]; have := h.few; omega⟩
  by_cases hl : i < rws.length
  · have := h.row i hl
    have e1 : (rm ++ [r]).getD i 0 = rm.getD i 0 := by have := h.len; simp [List.getD, List.getElem?_append_left (show i < rm.length by omega)]
    rw [e1, rwA_app hl]; exact this
  · obtain rfl : i = rws.length := by simp at hi; omega
    have e1 : (rm ++ [r]).getD rws.length 0 = r := by rw [← h.len]; simp [List.getD]
    rw [e1, rwA_end]
    have hw : ms.all wagB = true := List.all_eq_true.2 (fun x hx => by
      have h1 := hs.lt x (by simp [hx])
      have h2 := hs.w2
      have h3 := h.few
      simp only [List.length_append] at h2
      exact inB_yes h1.1 (by omega))
    simp [rowB, inB_yes r1 (show r ≤ 40 by omega), hm, hw]
theorem Rg.sid {rm : List Int} {rws : List (List Int)} {W : Int} (h : Rg rm rws W) (h1 : 1 ≤ rws.length) (h4 : rws.length ≤ 4) : SidP rm rws :=
  ⟨h1, by omega, h.len, h.row, h.rs.nodup⟩
/-- One room more. -/
theorem SidO.room1 {B C : Nat} {w2 w3 : World} {rv rv2 v : Value} {vs : List Value} {room : List Int} {rows : List (List Int)} {x : Int} (h : SidO B w2 rv v vs room rows) (hC : w2.heap[C]? = some (.cells #[rv, v] 27 (0, 0)))
    (hown : w3.ownsRow B 3 1 rv2 (room ++ [x]).length (enc (room ++ [x]))) (hgrow : w2.grownBy w3 rv.ownBlock) (hwh : rv2.ownBlock = rv.ownBlock ∨ rv2.ownBlock = some w2.heap.size) :
    SidO B (w3.setCell ⟨C, 0, none⟩ rv2) rv2 v vs (room ++ [x]) rows ∧ (w3.setCell ⟨C, 0, none⟩ rv2).heap[C]? = some (.cells #[rv2, v] 27 (0, 0)) ∧ w3.heap[C]? = some (.cells #[rv, v] 27 (0, 0)) := by
  have hY3 : w3.heap[C]? = some (.cells #[rv, v] 27 (0, 0)) := (hgrow.block C (lt_of_block hC) (fun e => row_blk_ne h.room hC (by decide) C e.symm rfl)).trans hC
  have hT3 : TabR 24 B w3 v vs rows := h.tab.same (fun k hk => hgrow.block k (own_type h.tab.own k hk).2.1 (fun e => row_apart h.tab.own h.room (by decide) k e.symm hk)) (fun j hj k hk => hgrow.block k ((h.tab.each j hj).blk k hk).2.1 (fun e => h.far j hj k hk e.symm))
  have hR3 : RowI w3 B rv2 (room ++ [x]) := .inl hown
  refine ⟨⟨hR3.same (fun k hk => heap_setCell (row_blk_ne hR3 hY3 (by decide) k hk)), hT3.same (fun k hk => heap_setCell (own_blk_ne hT3.own hY3 (by decide) k hk)) (fun j hj k hk => heap_setCell (row_blk_ne (hT3.each j hj) hY3 (by decide) k hk)), ?_⟩, ?_, hY3⟩
  · intro j hj k hk e
    rcases hwh with q | q
    · rw [q] at e; exact h.far j hj k hk e
    · rw [q] at e; have := Option.some.inj e; have := ((h.tab.each j hj).blk k hk).2.1; omega
  · rw [heap_setCell_same w3 C 0 _ _ _ hY3]; rfl
/-- What the loop holds: sidings in a box, the answer's box, the draws. -/
structure StR (w : World) (cb : Nat) (a : Option Addr) (cap : Nat) (bs : List Int) (wr : World) (rv v : Value) (vs : List Value) (rm : List Int) (rws : List (List Int)) : Prop where
  sid : SidO w.heap.size wr rv v vs rm rws
  own : wr.ownsRow w.heap.size 3 1 rv rm.length (enc rm)
  box : wr.heap[w.heap.size + 1]? = some (.cells #[rv, v] 27 (0, 0))
  res : wr.heap[w.heap.size]? = some (.cells #[.slice none 0 0, .slice none 0 0] 27 (0, 0))
  cur : Cur wr cb a cap bs
  gr : w.grownBy wr (some cb)
theorem StR.far {w wr w2 : World} {cb cap : Nat} {a : Option Addr} {bs : List Int} {rv v : Value} {vs : List Value} {rm : List Int} {rws : List (List Int)} (h : StR w cb a cap bs wr rv v vs rm rws) (hcb : cb < w.heap.size) (hg : wr.grownBy w2 (some cb)) (hc : Cur w2 cb a cap bs) : StR w cb a cap bs w2 rv v vs rm rws :=
  ⟨h.sid.keep (fun k hk => hg.block k (h.sid.blk k hk).2 (fun e => by have := (h.sid.blk k hk).1; injection e; omega)), own_far h.own hg (fun k hk e => by have := own_from h.own (Nat.le_refl _) k hk; injection e; omega), far_blk hg h.box (fun j hj => by injection hj; omega), far_blk hg h.res (fun j hj => by injection hj; omega), hc, gtrans h.gr hg⟩
theorem StR.below {w wr w2 : World} {cb cap : Nat} {a : Option Addr} {bs : List Int} {rv v : Value} {vs : List Value} {rm : List Int} {rws : List (List Int)} (h : StR w cb a cap bs wr rv v vs rm rws) (hcb : cb < w.heap.size) (hb : Below wr.heap.size wr w2) : StR w cb a cap bs w2 rv v vs rm rws :=
  h.far hcb (gofr _ hb) (h.cur.below hb)
theorem StR.room1 {w w2 w3 : World} {cb cap : Nat} {a : Option Addr} {bs : List Int} {rv rv2 v : Value} {vs : List Value} {rm : List Int} {rws : List (List Int)} {x : Int} (h : StR w cb a cap bs w2 rv v vs rm rws) (hOn : ∀ k, OnCur cb a bs k → k < w.heap.size)
    (hown : w3.ownsRow w.heap.size 3 1 rv2 (rm ++ [x]).length (enc (rm ++ [x]))) (hgrow : w2.grownBy w3 rv.ownBlock) (hwh : rv2.ownBlock = rv.ownBlock ∨ rv2.ownBlock = some w2.heap.size) :
    StR w cb a cap bs (w3.setCell ⟨w.heap.size + 1, 0, none⟩ rv2) rv2 v vs (rm ++ [x]) rws ∧ w3.heap[w.heap.size + 1]? = some (.cells #[rv, v] 27 (0, 0)) := by
  obtain ⟨h1, h2, h3⟩ := h.sid.room1 h.box hown hgrow hwh
  have hfrom := own_from h.own (Nat.le_refl _)
  have hres : w3.heap[w.heap.size]? = some (.cells #[.slice none 0 0, .slice none 0 0] 27 (0, 0)) := (hgrow.block _ (lt_of_block h.res) (fun e => own_blk_ne h.own h.res (by decide) _ e.symm rfl)).trans h.res
  exact ⟨⟨h1, own_same hown (fun k hk => heap_setCell (own_blk_ne hown h3 (by decide) k hk)), h2, (heap_setCell (by omega)).trans hres, (h.cur.grow hOn hgrow hfrom).keep (fun k hk => heap_setCell (by have := hOn k hk; omega)), grown_far (grown_far h.gr hgrow hfrom) (grown_set _ (w.heap.size + 1) 0 _) (fun k hk => by cases hk; omega)⟩, h3⟩
theorem StR.row1 {w w2 w3 : World} {cb cap : Nat} {a : Option Addr} {bs : List Int} {rv v v2 u : Value} {vs : List Value} {rm X : List Int} {rws : List (List Int)} (h : StR w cb a cap bs w2 rv v vs rm rws) (hOn : ∀ k, OnCur cb a bs k → k < w.heap.size)
    (hown : w3.ownsRow w.heap.size 24 1 v2 (rws.length + 1) (vs ++ [u])) (hgrow : w2.grownBy w3 v.ownBlock) (hT : RowI w2 w.heap.size u X) (hnew : ∀ k, u.ownBlock = some k → rv.ownBlock ≠ some k ∧ ∀ j, (hj : j < vs.length) → vs[j].ownBlock ≠ some k) :
    StR w cb a cap bs (w3.setCell ⟨w.heap.size + 1, 1, none⟩ v2) rv v2 (vs ++ [u]) rm (rws ++ [X]) ∧ w3.heap[w.heap.size + 1]? = some (.cells #[rv, v] 27 (0, 0)) := by
  obtain ⟨h1, h2, h3⟩ := h.sid.more h.box hown hgrow hT hnew
  have hfrom := own_from h.sid.tab.own (Nat.le_refl _)
  have hres : w3.heap[w.heap.size]? = some (.cells #[.slice none 0 0, .slice none 0 0] 27 (0, 0)) := (hgrow.block _ (lt_of_block h.res) (fun e => own_blk_ne h.sid.tab.own h.res (by decide) _ e.symm rfl)).trans h.res
  have ho3 : w3.ownsRow w.heap.size 3 1 rv rm.length (enc rm) := own_same h.own (fun k hk => hgrow.block k (own_type h.own k hk).2.1 (fun e => row_apart h.sid.tab.own h.sid.room (by decide) k hk e.symm))
  exact ⟨⟨h1, own_same ho3 (fun k hk => heap_setCell (own_blk_ne ho3 h3 (by decide) k hk)), h2, (heap_setCell (by omega)).trans hres, (h.cur.grow hOn hgrow hfrom).keep (fun k hk => heap_setCell (by have := hOn k hk; omega)), grown_far (grown_far h.gr hgrow hfrom) (grown_set _ (w.heap.size + 1) 1 _) (fun k hk => by cases hk; omega)⟩, h3⟩
end Go.Proofs.Ytipechbhhpagiaa
