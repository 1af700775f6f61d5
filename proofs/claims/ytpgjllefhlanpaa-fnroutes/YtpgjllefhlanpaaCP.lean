/- Plants and lockings copied. -/
import Derived.Test.YtpgjllefhlanpaaSZ
namespace Go.Proofs.Ytpgjllefhlanpaa
open Go.RowKit

theorem three_blocks (w : World) (o1 o2 o3 : Obj) : (((w.alloc o1).alloc o2).alloc o3).heap[w.heap.size]? = some o1 ∧ (((w.alloc o1).alloc o2).alloc o3).heap[w.heap.size + 1]? = some o2 ∧ (((w.alloc o1).alloc o2).alloc o3).heap[w.heap.size + 1 + 1]? = some o3 := by
  refine ⟨?_, ?_, ?_⟩
  · show (((w.heap.push o1).push o2).push o3)[w.heap.size]? = _
    simp [Array.getElem?_push]; omega
  · show (((w.heap.push o1).push o2).push o3)[w.heap.size + 1]? = _
    rw [Array.getElem?_push, if_neg (by simp), Array.getElem?_push, if_pos (by simp)]
  · show (((w.heap.push o1).push o2).push o3)[w.heap.size + 1 + 1]? = _
    rw [Array.getElem?_push, if_pos (by simp)]
theorem two_blocks1 (w : World) (o1 o2 : Obj) : ((w.alloc o1).alloc o2).heap[w.heap.size]? = some o1 := by
  show ((w.heap.push o1).push o2)[w.heap.size]? = _
  simp [Array.getElem?_push]
theorem two_blocks2 (w : World) (o1 o2 : Obj) : ((w.alloc o1).alloc o2).heap[w.heap.size + 1]? = some o2 := by
  show ((w.heap.push o1).push o2)[w.heap.size + 1]? = _
  rw [Array.getElem?_push, if_pos (by simp)]
theorem size3 (w : World) (o1 o2 o3 : Obj) : (((w.alloc o1).alloc o2).alloc o3).heap.size = w.heap.size + 1 + 1 + 1 := by simp
theorem below3 (w : World) (o1 o2 o3 : Obj) : Below w.heap.size w (((w.alloc o1).alloc o2).alloc o3) := btrans (btrans (balloc _ _) (balloc _ _)) (balloc _ _)
theorem blk2 {w : World} {g : Nat} {c0 c1 : Value} {t : TypeId} (h : w.heap[g]? = some (.cells #[c0, c1] t (0, 0))) :
    (w.cell? ⟨g, 0, none⟩ = some c0 ∧ w.cell? ⟨g, 1, none⟩ = some c1) ∧ (w.frozen? ⟨g, 0, none⟩ = false ∧ w.frozen? ⟨g, 1, none⟩ = false) :=
  ⟨⟨Go.Joins.cell_of_block h 0, Go.Joins.cell_of_block h 1⟩, ⟨Go.Joins.unfrozen_of_block h 0, Go.Joins.unfrozen_of_block h 1⟩⟩
theorem blk3 {w : World} {g : Nat} {c0 c1 c2 : Value} {t : TypeId} (h : w.heap[g]? = some (.cells #[c0, c1, c2] t (0, 0))) :
    (w.cell? ⟨g, 0, none⟩ = some c0 ∧ w.cell? ⟨g, 1, none⟩ = some c1 ∧ w.cell? ⟨g, 2, none⟩ = some c2) ∧ (w.frozen? ⟨g, 0, none⟩ = false ∧ w.frozen? ⟨g, 1, none⟩ = false ∧ w.frozen? ⟨g, 2, none⟩ = false) :=
  ⟨⟨Go.Joins.cell_of_block h 0, Go.Joins.cell_of_block h 1, Go.Joins.cell_of_block h 2⟩, ⟨Go.Joins.unfrozen_of_block h 0, Go.Joins.unfrozen_of_block h 1, Go.Joins.unfrozen_of_block h 2⟩⟩
theorem blk_keep {w w1 : World} (h : Below w.heap.size w w1) {g : Nat} {o : Obj} (hg : w.heap[g]? = some o) : w1.heap[g]? = some o := (h.block g (lt_of_block hg)).trans hg
theorem blk_set {w : World} {g i : Nat} {cs : Array Value} {t : TypeId} {f : Nat × Nat} {v : Value} (h : w.heap[g]? = some (.cells cs t f)) : (w.setCell ⟨g, i, none⟩ v).heap[g]? = some (.cells (cs.setIfInBounds i v) t f) := by
  have hl := lt_of_block h
  have h' : w.heap[g] = .cells cs t f := by rw [Array.getElem?_eq_getElem hl] at h; exact Option.some.inj h
  simp [World.setCell, hl, Array.getElem_modify, h']
theorem blk_other {w : World} {g b i : Nat} {o : Obj} {v : Value} (h : w.heap[g]? = some o) (hne : g ≠ b) : (w.setCell ⟨b, i, none⟩ v).heap[g]? = some o := (Below.heap_setCell _ _ _ _ hne).trans h

/-- A route that the call itself made. -/
def RouteOwn (w : World) (lo hi : Nat) (va vb : Value) (r : RouteV) : Prop :=
  ∃ a ca b cb, va = .slice a r.needs.length ca ∧ vb = .slice b r.blocks.length cb ∧ Needs w a r.needs ∧ Ints w b r.blocks ∧ Wz w lo hi a (r.needs.length * 2) ∧ Wz w lo hi b r.blocks.length ∧ r.blocks.length ≤ cb
theorem RouteOwn.below {w w' : World} {lo hi : Nat} {va vb : Value} {r : RouteV} (h : RouteOwn w lo hi va vb r) (hb : Below w.heap.size w w') : RouteOwn w' lo hi va vb r := by
  obtain ⟨a, ca, b, cb, h1, h2, h3, h4, h5, h6, h7⟩ := h
  exact ⟨a, ca, b, cb, h1, h2, h3.below hb, h4.below hb, h5.below hb, h6.below hb, h7⟩
theorem RouteOwn.wider {w : World} {lo hi lo' hi' : Nat} {va vb : Value} {r : RouteV} (h : RouteOwn w lo hi va vb r) (g1 : lo' ≤ lo) (g2 : hi ≤ hi') : RouteOwn w lo' hi' va vb r := by
  obtain ⟨a, ca, b, cb, h1, h2, h3, h4, h5, h6, h7⟩ := h
  exact ⟨a, ca, b, cb, h1, h2, h3, h4, h5.wider g1 g2, h6.wider g1 g2, h7⟩
theorem wz_ints {w : World} {base n c lo hi : Nat} {a : Option Addr} {zs : List Int} (h : w.ownsRow base 3 1 (.slice a n c) n (zs.map (.int .i64))) (h1 : lo ≤ base) (h2 : ∀ k, (Value.slice a n c).ownBlock = some k → k < hi) : Wz w lo hi a n := by
  have hl := h.1
  simp at hl
  exact Wz.owns h (fun i hi => ⟨zs.getD i 0, by have : i < zs.length := by omega
                                                simp [List.getD, this]⟩) (by omega) h1 h2
theorem flat_int (es : List NeedV) : ∀ i, i < es.length * 2 → ∃ v, (flatNeeds es)[i]? = some (.int .i64 v) := by
  induction es with
  | nil => intro i hi; simp at hi
  | cons e es ih =>
    intro i hi
    rw [flatNeeds_cons]
    match i with
    | 0 => exact ⟨_, rfl⟩
    | 1 => exact ⟨_, rfl⟩
    | i + 2 =>
      obtain ⟨v, hv⟩ := ih i (by simp at hi; omega)
      exact ⟨v, by simpa using hv⟩
theorem wz_needs {w : World} {base n c lo hi : Nat} {a : Option Addr} {es : List NeedV} (h : w.ownsRow base 74 2 (.slice a n c) n (flatNeeds es)) (h1 : lo ≤ base) (h2 : ∀ k, (Value.slice a n c).ownBlock = some k → k < hi) : Wz w lo hi a (n * 2) := by
  have hl := h.1
  rw [flatNeeds_len] at hl
  exact Wz.owns h (fun i hi => flat_int es i (by omega)) rfl h1 h2

end Go.Proofs.Ytpgjllefhlanpaa
