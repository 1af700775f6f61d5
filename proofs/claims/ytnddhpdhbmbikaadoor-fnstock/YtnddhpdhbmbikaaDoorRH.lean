/- What is held while units are read. -/
import Derived.Test.YtnddhpdhbmbikaaDoorRP
namespace Go.Proofs.YtnddhpdhbmbikaaDoor
open Go.RowKit
theorem own_rd {w w' : World} {g base e sz n : Nat} {v : Value} {xs : List Value} (h : w.ownsRow base e sz v n xs) (r : Rd g w w') (hg : g < base) : w'.ownsRow base e sz v n xs := by
  obtain ⟨h1, h2⟩ := h
  refine ⟨h1, ?_⟩
  rcases h2 with h2 | ⟨b, cap, cur, hv, hb, hh, q⟩
  · exact .inl h2
  · exact .inr ⟨b, cap, cur, hv, hb, (r.oth b (lt_of_block hh) (by omega)).trans hh, q⟩
abbrev ucells (y : UV) : Array Value := #[.int .i64 y.i, .int .i64 y.c, .int .i64 y.m, .bool y.b]
/-- The unit in its box, the units read so far, the signs apart. -/
structure Hv (w : World) (g : Nat) (us : List UV) (v : Value) (y : UV) (W : World) : Prop where
  glt : g < w.heap.size
  rd : Rd g w W
  ub : W.heap[w.heap.size]? = some (.cells (ucells y) 34 (0, 0))
  row : W.ownsRow (w.heap.size + 1) 34 4 v us.length (flatUs us)
theorem Hv.step {w : World} {g : Nat} {us : List UV} {v : Value} {y : UV} {W W' : World} (h : Hv w g us v y W) (r : Rd g W W') : Hv w g us v y W' :=
  ⟨h.glt, h.rd.trans r, (r.oth _ (lt_of_block h.ub) (by have := h.glt; omega)).trans h.ub, own_rd h.row r (by have := h.glt; omega)⟩
theorem Hv.set {w : World} {g j : Nat} {us : List UV} {v u : Value} {y y' : UV} {W : World} (h : Hv w g us v y W) (e : (ucells y).setIfInBounds j u = ucells y') : Hv w g us v y' (W.setCell ⟨w.heap.size, j, none⟩ u) := by
  have hl := h.glt
  refine ⟨h.glt, ⟨h.rd.bel.setCell (p := ⟨w.heap.size, j, none⟩) (by show g ≤ w.heap.size; omega) _, fun b hb hn => ?_⟩, ?_, own_set h.row (fun k hk => by have := own_from h.row (Nat.le_refl _) k hk; omega)⟩
  · exact (Below.heap_setCell W ⟨w.heap.size, j, none⟩ u b (by show b ≠ w.heap.size; omega)).trans (h.rd.oth b hb hn)
  · rw [← e]; exact blk_setR h.ub
theorem Sg.set {w : World} {g k j : Nat} {l : List UInt8} {u : Value} {W : World} (h : Sg W g k l) (hg : g < w.heap.size) : Sg (W.setCell ⟨w.heap.size, j, none⟩ u) g k l :=
  (Below.heap_setCell W ⟨w.heap.size, j, none⟩ u g (by show g ≠ w.heap.size; omega)).trans h
theorem Hv.cell0 {w : World} {g : Nat} {us : List UV} {v : Value} {y : UV} {W : World} {q : Value} (h : Hv w g us v y W) (h0 : 0 < g) (hq : w.cell? ⟨0, 0, none⟩ = some q) : W.cell? ⟨0, 0, none⟩ = some q := h.rd.cell0 h0 hq
/-- Behind the append (w5) to the row, over a world W1 that has the new unit's block. -/
theorem Hv.push {w : World} {g : Nat} {us : List UV} {v v2 : Value} {y : UV} {W W1 w5 : World} (h : Hv w g us v y W) (hx : Below W.heap.size W W1)
    (hown : w5.ownsRow (w.heap.size + 1) 34 4 v2 (us.length + 1) (flatUs us ++ y.vs)) (hgrow : W1.grownBy w5 v.ownBlock) :
    Hv w g (us ++ [y]) v2 y w5 := by
  have hl := h.glt
  have hf := own_from h.row (Nat.le_refl _)
  have far : ∀ b, b < W.heap.size → b < w.heap.size + 1 → w5.heap[b]? = W.heap[b]? := fun b hb hb2 =>
    (hgrow.block b (Nat.lt_of_lt_of_le hb hx.size) (fun e => by have := hf b e.symm; omega)).trans (hx.block b hb)
  have hs := h.rd.bel.size
  refine ⟨hl, ⟨?_, fun b hb hn => (far b (by omega) (by omega)).trans (h.rd.oth b hb hn)⟩, (far _ (lt_of_block h.ub) (by omega)).trans h.ub, ?_⟩
  · exact (h.rd.bel.trans (hx.mono (by omega))).grown hgrow (by have := hx.size; omega) (fun k e => by have := hf k e; omega)
  · rw [List.length_append, flatUs_app]
    have e : flatUs [y] = y.vs := by simp [flatUs]
    rw [e]
    exact hown
theorem Sg.push {w : World} {g k : Nat} {l : List UInt8} {us : List UV} {v : Value} {y : UV} {W W1 w5 : World} (h : Hv w g us v y W) (hs : Sg W g k l) (hx : Below W.heap.size W W1) (hgrow : W1.grownBy w5 v.ownBlock) : Sg w5 g k l := by
  have hl := h.glt
  have hf := own_from h.row (Nat.le_refl _)
  exact ((hgrow.block g (Nat.lt_of_lt_of_le hs.lt hx.size) (fun e => by have := hf g e.symm; omega)).trans (hx.block g hs.lt)).trans hs
end Go.Proofs.YtnddhpdhbmbikaaDoor
