/- What a statement lays that draws its order: sidings in a box, and what is told beside. -/
import Derived.Test.YtipechbhhpagiaaSO
import Derived.Test.YtipechbhhpagiaaWK
namespace Go.Proofs.Ytipechbhhpagiaa
open Go.RowKit
theorem szd (v : World) : v.drew.heap.size = v.heap.size := rfl
/-- Sidings in a box that a statement has laid. -/
structure GotS (W : World) (room : List Int) (rows : List (List Int)) (sv : Value) (wc : World) : Prop where
  ex : ∃ bw rv v vs, sv = .pointer (some ⟨bw, 0, none⟩) ∧ wc.heap[bw]? = some (.cells #[rv, v] 27 (0, 0)) ∧ SidO W.heap.size wc rv v vs room rows ∧ W.heap.size ≤ bw
  bel : Below W.heap.size W wc
theorem gotS {W w1 : World} {room : List Int} {rows : List (List Int)} {b : Nat} {rv v : Value} {vs : List Value} (h : Below W.heap.size W w1) (hz : w1.heap[b]? = some (.cells #[.slice none 0 0, .slice none 0 0] 27 (0, 0))) (hb : W.heap.size ≤ b) (hO : SidO W.heap.size w1 rv v vs room rows) :
    GotS W room rows (.pointer (some ⟨b, 0, none⟩)) ((w1.setCell ⟨b, 0, none⟩ rv).setCell ⟨b, 1, none⟩ v) :=
  ⟨⟨b, rv, v, vs, rfl, box_set hz, hO.box hz, hb⟩, below_set hb (below_set hb h)⟩
theorem gotN {W w1 : World} {room : List Int} {rows : List (List Int)} {rv v : Value} {vs : List Value} (h : Below W.heap.size W w1) (hO : SidO W.heap.size w1 rv v vs room rows) :
    GotS W room rows (.pointer (some ⟨w1.heap.size, 0, none⟩)) (w1.alloc (.cells #[rv, v] 27)) :=
  ⟨⟨_, rv, v, vs, rfl, heap_alloc_new w1 _, hO.below (balloc _ _), h.size⟩, btrans h (balloc _ _)⟩
theorem blk3 {w : World} {b : Nat} {x y z : Value} {t : TypeId} (h : w.heap[b]? = some (.cells #[x, y, z] t (0, 0))) : w.cell? ⟨b, 0, none⟩ = some x ∧ w.cell? ⟨b, 1, none⟩ = some y ∧ w.cell? ⟨b, 2, none⟩ = some z :=
  ⟨by rw [cell_blk h]; rfl, by rw [cell_blk h]; rfl, by rw [cell_blk h]; rfl⟩
end Go.Proofs.Ytipechbhhpagiaa
