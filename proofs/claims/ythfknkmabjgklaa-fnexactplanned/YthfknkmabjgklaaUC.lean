/- Uses of the model. -/
import Derived.Test.YthfknkmabjgklaaWR
import Derived.Deep.Cut
import Derived.Deep.CutRange
namespace Go.Proofs.Ythfknkmabjgklaa
open Go.RowKit
/-- The uses as the model answers them. -/
def AnsRides (w : World) (n : Int) (es : List EdgeV) (ts : List TripV) (e : Ending) (w' : World) : Prop :=
  Below w.heap.size w w' ∧ ((Ridden n es ts ∧ ∃ v, e = .returned v ∧ w'.ownsRow w.heap.size 78 5 v (usesL es ts).length (flatRides (usesL es ts))) ∨ (¬ Ridden n es ts ∧ e = .returned (.slice none 0 0)))
theorem AnsRides.no {w w' : World} {n : Int} {es : List EdgeV} {ts : List TripV} (h : ¬ Ridden n es ts) (hb : Below w.heap.size w w') : AnsRides w n es ts (.returned (.slice none 0 0)) w' := ⟨hb, .inr ⟨h, rfl⟩⟩
/-- Two calls in blocks of their own. -/
def GotAB (W : World) (x y : HaltV) (sv cv : Value) (wc : World) : Prop := ∃ p q, sv = .pointer (some ⟨p, 0, none⟩) ∧ cv = .pointer (some ⟨q, 0, none⟩) ∧ wc.heap[p]? = some (.cells #[.int .i64 x.n, .int .i64 x.a, .int .i64 x.d] 70) ∧ wc.heap[q]? = some (.cells #[.int .i64 y.n, .int .i64 y.a, .int .i64 y.d] 70) ∧ Below W.heap.size W wc

theorem two_blocks (w : World) (o1 o2 : Obj) : ((w.alloc o1).alloc o2).heap[w.heap.size]? = some o1 ∧ ((w.alloc o1).alloc o2).heap[w.heap.size + 1]? = some o2 := by
  refine ⟨?_, ?_⟩
  · show ((w.heap.push o1).push o2)[w.heap.size]? = _
    rw [Array.getElem?_push, if_neg (by simp), Array.getElem?_push, if_pos rfl]
  · show ((w.heap.push o1).push o2)[w.heap.size + 1]? = _
    rw [Array.getElem?_push, if_pos (by simp)]
theorem gotAB1 (w : World) (x y : HaltV) : GotAB w x y (.pointer (some ⟨w.heap.size, 0, none⟩)) (.pointer (some ⟨w.heap.size + 1, 0, none⟩)) ((w.alloc (.cells #[.int .i64 x.n, .int .i64 x.a, .int .i64 x.d] 70)).alloc (.cells #[.int .i64 y.n, .int .i64 y.a, .int .i64 y.d] 70)).drew :=
  ⟨_, _, rfl, rfl, (two_blocks w _ _).1, (two_blocks w _ _).2, (btrans (balloc _ _) (balloc _ _)).drew⟩
theorem gotAB2 (w : World) (x y : HaltV) : GotAB w x y (.pointer (some ⟨w.heap.size + 1, 0, none⟩)) (.pointer (some ⟨w.heap.size, 0, none⟩)) ((w.alloc (.cells #[.int .i64 y.n, .int .i64 y.a, .int .i64 y.d] 70)).alloc (.cells #[.int .i64 x.n, .int .i64 x.a, .int .i64 x.d] 70)).drew :=
  ⟨_, _, rfl, rfl, (two_blocks w _ _).2, (two_blocks w _ _).1, (btrans (balloc _ _) (balloc _ _)).drew⟩
/-- A use in a block of its own. -/
def GotU (W : World) (e f t p : Int) (sv : Value) (wc : World) : Prop := ∃ g, sv = .pointer (some ⟨g, 0, none⟩) ∧ wc.heap[g]? = some (.cells #[.int .i64 e, .int .i64 0, .int .i64 f, .int .i64 t, .int .i64 p] 78) ∧ Below W.heap.size W wc ∧ W.heap.size ≤ g
theorem gotU1 {W wb : World} (Bb : Below W.heap.size W wb) (e f t p : Int) : GotU W e f t p (.pointer (some ⟨wb.heap.size, 0, none⟩)) (wb.alloc (.cells #[.int .i64 e, .int .i64 0, .int .i64 f, .int .i64 t, .int .i64 p] 78)) :=
  ⟨_, rfl, one_block _ _, btrans Bb (balloc _ _), Bb.size⟩
theorem gotU2 {W wb : World} (Bb : Below W.heap.size W wb) (h : wb.heap[W.heap.size]? = some (.cells #[.int .i64 0, .int .i64 0, .int .i64 0, .int .i64 0, .int .i64 0] 78)) (e f t p : Int) : GotU W e f t p (.pointer (some ⟨W.heap.size, 0, none⟩)) (((((wb.setCell ⟨W.heap.size, 0, none⟩ (.int .i64 e)).setCell ⟨W.heap.size, 1, none⟩ (.int .i64 0)).setCell ⟨W.heap.size, 2, none⟩ (.int .i64 f)).setCell ⟨W.heap.size, 3, none⟩ (.int .i64 t)).setCell ⟨W.heap.size, 4, none⟩ (.int .i64 p)) :=
  ⟨_, rfl, by have := blk_set (i := 4) (v := .int .i64 p) (blk_set (i := 3) (v := .int .i64 t) (blk_set (i := 2) (v := .int .i64 f) (blk_set (i := 1) (v := .int .i64 0) (blk_set (i := 0) (v := .int .i64 e) h)))); simpa using this,
    below_set (Nat.le_refl _) (below_set (Nat.le_refl _) (below_set (Nat.le_refl _) (below_set (Nat.le_refl _) (below_set (Nat.le_refl _) Bb)))), Nat.le_refl _⟩
theorem blk3 {w : World} {g : Nat} {c0 c1 c2 : Value} {t : TypeId} (h : w.heap[g]? = some (.cells #[c0, c1, c2] t (0, 0))) : w.cell? ⟨g, 0, none⟩ = some c0 ∧ w.cell? ⟨g, 1, none⟩ = some c1 ∧ w.cell? ⟨g, 2, none⟩ = some c2 :=
  ⟨Go.Joins.cell_of_block h 0, Go.Joins.cell_of_block h 1, Go.Joins.cell_of_block h 2⟩

theorem blk5 {w : World} {g : Nat} {c0 c1 c2 c3 c4 : Value} {t : TypeId} (h : w.heap[g]? = some (.cells #[c0, c1, c2, c3, c4] t (0, 0))) : (w.cell? ⟨g, 0, none⟩ = some c0 ∧ w.cell? ⟨g, 1, none⟩ = some c1 ∧ w.cell? ⟨g, 2, none⟩ = some c2 ∧ w.cell? ⟨g, 3, none⟩ = some c3 ∧ w.cell? ⟨g, 4, none⟩ = some c4) ∧ w.frozen? ⟨g, 0, none⟩ = false ∧ w.frozen? ⟨g, 1, none⟩ = false ∧ w.frozen? ⟨g, 2, none⟩ = false ∧ w.frozen? ⟨g, 3, none⟩ = false ∧ w.frozen? ⟨g, 4, none⟩ = false :=
  ⟨⟨Go.Joins.cell_of_block h 0, Go.Joins.cell_of_block h 1, Go.Joins.cell_of_block h 2, Go.Joins.cell_of_block h 3, Go.Joins.cell_of_block h 4⟩, Go.Joins.unfrozen_of_block h 0, Go.Joins.unfrozen_of_block h 1, Go.Joins.unfrozen_of_block h 2, Go.Joins.unfrozen_of_block h 3, Go.Joins.unfrozen_of_block h 4⟩

end Go.Proofs.Ythfknkmabjgklaa
