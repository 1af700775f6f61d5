/- A drawn right pattern. -/
import Derived.Test.YtmchdclieejohaaDK
namespace Go.Proofs.Ytmchdclieejohaa
open Go.RowKit

/-- A world's first n blocks. -/
def cutW (w : World) (n : Nat) : World := { w with heap := w.heap.extract 0 n }
theorem cut_size {w : World} {n : Nat} (h : n ≤ w.heap.size) : (cutW w n).heap.size = n := by simp [cutW]; omega
theorem cut_block {w : World} {n k : Nat} (h : n ≤ w.heap.size) (hk : k < n) : (cutW w n).heap[k]? = w.heap[k]? := by
  simp only [cutW]
  rw [Array.getElem?_extract]
  simp
  omega
theorem cut_below {w : World} {n : Nat} (h : n ≤ w.heap.size) : Below (cutW w n).heap.size (cutW w n) w :=
  ⟨rfl, rfl, rfl, by rw [cut_size h]; exact h, fun k hk => by rw [cut_size h] at hk; exact (cut_block h hk).symm⟩
structure OC (n0 : Nat) (wr : World) (wk f t : Int) (ao1 : Option Addr) (cp1 : Nat) (xs : List Int) (ao2 : Option Addr) (cp2 : Nat) (ys : List Int) : Prop where
  out : wr.heap[n0]? = some (.cells #[.int .i64 wk, .int .i64 f, .int .i64 t, .slice ao1 xs.length cp1, .slice ao2 ys.length cp2] 26 (0, 0))
  own1 : wr.ownsRow (n0 + 1) 3 1 (.slice ao1 xs.length cp1) xs.length (xs.map (Value.int .i64))
  own2 : wr.ownsRow (n0 + 1) 3 1 (.slice ao2 ys.length cp2) ys.length (ys.map (Value.int .i64))
  apart : (Value.slice ao1 xs.length cp1).ownBlock = none ∨ (Value.slice ao2 ys.length cp2).ownBlock = none ∨ (Value.slice ao1 xs.length cp1).ownBlock ≠ (Value.slice ao2 ys.length cp2).ownBlock
section
variable {n0 : Nat} {wr : World} {wk f t : Int} {ao1 ao2 : Option Addr} {cp1 cp2 : Nat} {xs ys : List Int}
theorem OC.lt (h : OC n0 wr wk f t ao1 cp1 xs ao2 cp2 ys) : n0 < wr.heap.size := lt_of_block h.out
theorem OC.toOut (h : OC n0 wr wk f t ao1 cp1 xs ao2 cp2 ys) : Out (cutW wr n0) wr wk f t ao1 cp1 xs ao2 cp2 ys := by
  have e := cut_size (w := wr) (n := n0) (Nat.le_of_lt h.lt)
  exact ⟨cut_below (Nat.le_of_lt h.lt), by rw [e]; exact h.out, by rw [e]; exact h.own1, by rw [e]; exact h.own2, h.apart⟩
theorem OC.ofOut {W0 : World} (h : Out W0 wr wk f t ao1 cp1 xs ao2 cp2 ys) (hn : W0.heap.size = n0) : OC n0 wr wk f t ao1 cp1 xs ao2 cp2 ys := by
  subst hn; exact ⟨h.out, h.own1, h.own2, h.apart⟩
theorem OC.far (h : OC n0 wr wk f t ao1 cp1 xs ao2 cp2 ys) {w2 : World} {cb : Nat} (hg : wr.grownBy w2 (some cb)) (hc : cb < n0) : OC n0 w2 wk f t ao1 cp1 xs ao2 cp2 ys :=
  ⟨(hg.block n0 h.lt (by simp; omega)).trans h.out, own_far h.own1 hg (fun k hk e => by have := own_from h.own1 (Nat.le_refl _) k hk; cases e; omega), own_far h.own2 hg (fun k hk e => by have := own_from h.own2 (Nat.le_refl _) k hk; cases e; omega), h.apart⟩
/-- What a store behind an append leaves of the blocks ahead. -/
theorem OC.rest (h : OC n0 wr wk f t ao1 cp1 xs ao2 cp2 ys) {w2 : World} {W3 : World} (hb : Below (cutW wr n0).heap.size (cutW wr n0) W3) (hs : wr.heap.size ≤ w2.heap.size) (h3 : W3.heap.size = w2.heap.size) : Below n0 wr W3 := by
  have e := cut_size (w := wr) (n := n0) (Nat.le_of_lt h.lt)
  refine ⟨hb.os, hb.tape, hb.output, by omega, fun k hk => ?_⟩
  rw [hb.block k (by rw [e]; exact hk), cut_block (Nat.le_of_lt h.lt) hk]
theorem OC.push1 (h : OC n0 wr wk f t ao1 cp1 xs ao2 cp2 ys) {o : Obj} {g cap : Nat} {w2 : World} {x : Int}
    (hown : w2.ownsRow (n0 + 1) 3 1 (.slice (some ⟨g, 0, none⟩) (xs.length + 1) cap) (xs.length + 1) (xs.map (Value.int .i64) ++ [.int .i64 x])) (hgrow : (wr.alloc o).grownBy w2 (Value.slice ao1 xs.length cp1).ownBlock) (hat : (Value.slice ao1 xs.length cp1).ownBlock = some g ∨ g = wr.heap.size + 1) :
    OC n0 (w2.setCell ⟨n0, 3, none⟩ (.slice (some ⟨g, 0, none⟩) (xs.length + 1) cap)) wk f t (some ⟨g, 0, none⟩) cap (xs ++ [x]) ao2 cp2 ys ∧ Below n0 wr (w2.setCell ⟨n0, 3, none⟩ (.slice (some ⟨g, 0, none⟩) (xs.length + 1) cap)) := by
  have e := cut_size (w := wr) (n := n0) (Nat.le_of_lt h.lt)
  have H := h.toOut.push1 (by rw [e]; exact hown) hgrow hat
  rw [e] at H
  have hs := hgrow.size
  simp at hs
  exact ⟨OC.ofOut H e, h.rest H.bel (w2 := w2) (by omega) (by simp)⟩
theorem OC.push2 (h : OC n0 wr wk f t ao1 cp1 xs ao2 cp2 ys) {o : Obj} {g cap : Nat} {w2 : World} {x : Int}
    (hown : w2.ownsRow (n0 + 1) 3 1 (.slice (some ⟨g, 0, none⟩) (ys.length + 1) cap) (ys.length + 1) (ys.map (Value.int .i64) ++ [.int .i64 x])) (hgrow : (wr.alloc o).grownBy w2 (Value.slice ao2 ys.length cp2).ownBlock) (hat : (Value.slice ao2 ys.length cp2).ownBlock = some g ∨ g = wr.heap.size + 1) :
    OC n0 (w2.setCell ⟨n0, 4, none⟩ (.slice (some ⟨g, 0, none⟩) (ys.length + 1) cap)) wk f t ao1 cp1 xs (some ⟨g, 0, none⟩) cap (ys ++ [x]) ∧ Below n0 wr (w2.setCell ⟨n0, 4, none⟩ (.slice (some ⟨g, 0, none⟩) (ys.length + 1) cap)) := by
  have e := cut_size (w := wr) (n := n0) (Nat.le_of_lt h.lt)
  have H := h.toOut.push2 (by rw [e]; exact hown) hgrow hat
  rw [e] at H
  have hs := hgrow.size
  simp at hs
  exact ⟨OC.ofOut H e, h.rest H.bel (w2 := w2) (by omega) (by simp)⟩
theorem OC.mid (h : OC n0 wr wk f t ao1 cp1 xs ao2 cp2 ys) {o : Obj} {w2 : World} {v : Value} (hv : ∀ k, v.ownBlock = some k → n0 + 1 ≤ k) (hgrow : (wr.alloc o).grownBy w2 v.ownBlock) : w2.heap[n0]? = wr.heap[n0]? :=
  (hgrow.block _ (by have := h.lt; simp; omega) (fun e => by have := hv _ e.symm; omega)).trans (Below.heap_alloc wr o _ (by have := h.lt; omega))
end
theorem grown_rest {w wr W3 : World} {cb n0 : Nat} (h : w.grownBy wr (some cb)) (hb : Below n0 wr W3) (hn : w.heap.size ≤ n0) : w.grownBy W3 (some cb) :=
  ⟨hb.os.trans h.os, hb.tape.trans h.tape, hb.output.trans h.output, Nat.le_trans h.size hb.size, fun k hk hne => (hb.block k (Nat.lt_of_lt_of_le hk hn)).trans (h.block k hk hne)⟩
end Go.Proofs.Ytmchdclieejohaa
