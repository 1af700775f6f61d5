/- Both: the days on which both of two patterns run, as plain mathematics; and what holds while the answer is put together. -/
import Derived.Test.YtmchdclieejohaaT
namespace Go.Proofs.Ytmchdclieejohaa
open Go.RowKit

/-- A pattern that is put together in a block of its own behind the world W0; all older memory is as it was. -/
structure Out (W0 wr : World) (wk f t : Int) (ao1 : Option Addr) (cp1 : Nat) (xs : List Int) (ao2 : Option Addr) (cp2 : Nat) (ys : List Int) : Prop where
  bel : Below W0.heap.size W0 wr
  out : wr.heap[W0.heap.size]? = some (.cells #[.int .i64 wk, .int .i64 f, .int .i64 t, .slice ao1 xs.length cp1, .slice ao2 ys.length cp2] 26 (0, 0))
  own1 : wr.ownsRow (W0.heap.size + 1) 3 1 (.slice ao1 xs.length cp1) xs.length (xs.map (Value.int .i64))
  own2 : wr.ownsRow (W0.heap.size + 1) 3 1 (.slice ao2 ys.length cp2) ys.length (ys.map (Value.int .i64))
  apart : (Value.slice ao1 xs.length cp1).ownBlock = none ∨ (Value.slice ao2 ys.length cp2).ownBlock = none ∨ (Value.slice ao1 xs.length cp1).ownBlock ≠ (Value.slice ao2 ys.length cp2).ownBlock

section
variable {W0 wr : World} {wk f t : Int} {ao1 ao2 : Option Addr} {cp1 cp2 : Nat} {xs ys : List Int}

theorem Out.new (W0 : World) (wk f t : Int) : Out W0 (W0.alloc (.cells #[.int .i64 wk, .int .i64 f, .int .i64 t, .slice none 0 0, .slice none 0 0] 26)) wk f t none 0 [] none 0 [] :=
  ⟨balloc _ _, by show (W0.heap.push _)[W0.heap.size]? = _; rw [Array.getElem?_push, if_pos rfl]; rfl, World.ownsRow_nil _ _ _ _, World.ownsRow_nil _ _ _ _, .inl rfl⟩
theorem Out.lt (h : Out W0 wr wk f t ao1 cp1 xs ao2 cp2 ys) : W0.heap.size < wr.heap.size := lt_of_block h.out
theorem Out.cells (h : Out W0 wr wk f t ao1 cp1 xs ao2 cp2 ys) : (wr.cell? ⟨W0.heap.size, 0, none⟩ = some (.int .i64 wk) ∧ wr.cell? ⟨W0.heap.size, 1, none⟩ = some (.int .i64 f) ∧ wr.cell? ⟨W0.heap.size, 2, none⟩ = some (.int .i64 t) ∧ wr.cell? ⟨W0.heap.size, 3, none⟩ = some (.slice ao1 xs.length cp1) ∧ wr.cell? ⟨W0.heap.size, 4, none⟩ = some (.slice ao2 ys.length cp2)) ∧
    (wr.frozen? ⟨W0.heap.size, 0, none⟩ = false ∧ wr.frozen? ⟨W0.heap.size, 1, none⟩ = false ∧ wr.frozen? ⟨W0.heap.size, 2, none⟩ = false ∧ wr.frozen? ⟨W0.heap.size, 3, none⟩ = false ∧ wr.frozen? ⟨W0.heap.size, 4, none⟩ = false) := blk5 h.out
theorem Out.below {w2 : World} (h : Out W0 wr wk f t ao1 cp1 xs ao2 cp2 ys) (hb : Below wr.heap.size wr w2) : Out W0 w2 wk f t ao1 cp1 xs ao2 cp2 ys :=
  ⟨btrans h.bel hb, (hb.block _ h.lt).trans h.out, own_keep h.own1 hb, own_keep h.own2 hb, h.apart⟩
theorem Out.after {o : Obj} {w2 : World} {v : Value} (h : Out W0 wr wk f t ao1 cp1 xs ao2 cp2 ys) (hv : ∀ k, v.ownBlock = some k → W0.heap.size + 1 ≤ k) (hgrow : (wr.alloc o).grownBy w2 v.ownBlock) :
    (w2.cell? ⟨W0.heap.size, 3, none⟩ = some (.slice ao1 xs.length cp1) ∧ w2.cell? ⟨W0.heap.size, 4, none⟩ = some (.slice ao2 ys.length cp2)) ∧ (w2.frozen? ⟨W0.heap.size, 3, none⟩ = false ∧ w2.frozen? ⟨W0.heap.size, 4, none⟩ = false) := by
  have hU := h.lt
  have hb : w2.heap[W0.heap.size]? = wr.heap[W0.heap.size]? := (hgrow.block _ (by simp; omega) (fun e => by have := hv _ e.symm; omega)).trans (Below.heap_alloc wr o _ (by omega))
  obtain ⟨⟨_, _, _, a, b⟩, _, _, _, c, d⟩ := blk5 (hb.trans h.out)
  exact ⟨⟨a, b⟩, c, d⟩

theorem Out.push1 (h : Out W0 wr wk f t ao1 cp1 xs ao2 cp2 ys) {o : Obj} {g cap : Nat} {w2 : World} {x : Int}
    (hown : w2.ownsRow (W0.heap.size + 1) 3 1 (.slice (some ⟨g, 0, none⟩) (xs.length + 1) cap) (xs.length + 1) (xs.map (Value.int .i64) ++ [.int .i64 x])) (hgrow : (wr.alloc o).grownBy w2 (Value.slice ao1 xs.length cp1).ownBlock) (hat : (Value.slice ao1 xs.length cp1).ownBlock = some g ∨ g = wr.heap.size + 1) :
    Out W0 (w2.setCell ⟨W0.heap.size, 3, none⟩ (.slice (some ⟨g, 0, none⟩) (xs.length + 1) cap)) wk f t (some ⟨g, 0, none⟩) cap (xs ++ [x]) ao2 cp2 ys := by
  have hU := h.lt
  have hge := own_ge h.own1
  have hblk : ∀ k, k ≤ W0.heap.size → w2.heap[k]? = wr.heap[k]? := fun k hk =>
    (hgrow.block k (by simp; omega) (fun e => by have := hge k e.symm; omega)).trans (Below.heap_alloc wr o k (by omega))
  have hbel : Below W0.heap.size W0 w2 := (h.bel.alloc h.bel.size o).grown hgrow (by have := h.bel.size; simp; omega) (fun k e => by have := hge k e; omega)
  have hlen : (xs ++ [x]).length = xs.length + 1 := by simp
  refine ⟨hbel.setCell (by simp) _, ?_, ?_, ?_, ?_⟩
  · have := Go.Joins.block_setCell (i := 3) ((hblk _ (Nat.le_refl _)).trans h.out) (.slice (some ⟨g, 0, none⟩) (xs.length + 1) cap)
    rw [hlen]; simpa using this
  · rw [hlen, List.map_append]; exact ownsRow_setCell_below hown (by simp) _
  · exact ownsRow_setCell_below (grown_own hgrow (h.own2.alloc o) h.apart) (by simp) _
  · rcases hat with hat | rfl
    · rcases h.apart with ha | ha | ha
      · rw [ha] at hat; cases hat
      · exact .inr (.inl ha)
      · right; right; rw [hat] at ha; exact ha
    · right
      rcases h.own2.2 with ⟨e, _⟩ | ⟨g', cap', cur', e, _, hh, _⟩
      · left; rw [e]; rfl
      · right; rw [e]; have := lt_of_block hh; simp [Value.ownBlock]; omega

theorem Out.push2 (h : Out W0 wr wk f t ao1 cp1 xs ao2 cp2 ys) {o : Obj} {g cap : Nat} {w2 : World} {x : Int}
    (hown : w2.ownsRow (W0.heap.size + 1) 3 1 (.slice (some ⟨g, 0, none⟩) (ys.length + 1) cap) (ys.length + 1) (ys.map (Value.int .i64) ++ [.int .i64 x])) (hgrow : (wr.alloc o).grownBy w2 (Value.slice ao2 ys.length cp2).ownBlock) (hat : (Value.slice ao2 ys.length cp2).ownBlock = some g ∨ g = wr.heap.size + 1) :
    Out W0 (w2.setCell ⟨W0.heap.size, 4, none⟩ (.slice (some ⟨g, 0, none⟩) (ys.length + 1) cap)) wk f t ao1 cp1 xs (some ⟨g, 0, none⟩) cap (ys ++ [x]) := by
  have hU := h.lt
  have hge := own_ge h.own2
  have hblk : ∀ k, k ≤ W0.heap.size → w2.heap[k]? = wr.heap[k]? := fun k hk =>
    (hgrow.block k (by simp; omega) (fun e => by have := hge k e.symm; omega)).trans (Below.heap_alloc wr o k (by omega))
  have hbel : Below W0.heap.size W0 w2 := (h.bel.alloc h.bel.size o).grown hgrow (by have := h.bel.size; simp; omega) (fun k e => by have := hge k e; omega)
  have hlen : (ys ++ [x]).length = ys.length + 1 := by simp
  refine ⟨hbel.setCell (by simp) _, ?_, ?_, ?_, ?_⟩
  · have := Go.Joins.block_setCell (i := 4) ((hblk _ (Nat.le_refl _)).trans h.out) (.slice (some ⟨g, 0, none⟩) (ys.length + 1) cap)
    rw [hlen]; simpa using this
  · refine ownsRow_setCell_below (grown_own hgrow (h.own1.alloc o) ?_) (by simp) _
    rcases h.apart with ha | ha | ha
    · exact .inr (.inl ha)
    · exact .inl ha
    · exact .inr (.inr (fun e => ha e.symm))
  · rw [hlen, List.map_append]; exact ownsRow_setCell_below hown (by simp) _
  · rcases hat with hat | rfl
    · rcases h.apart with ha | ha | ha
      · exact .inl ha
      · rw [ha] at hat; cases hat
      · right; right; rw [hat] at ha; exact ha
    · rcases h.own1.2 with ⟨e, _⟩ | ⟨g', cap', cur', e, _, hh, _⟩
      · left; rw [e]; rfl
      · right; right; rw [e]; have := lt_of_block hh; simp [Value.ownBlock]; omega
end

/-- The first j days from f on that a test picks. -/
def pick (b : Int → Bool) (f : Int) (j : Nat) : List Int := ((List.range j).map fun (i : Nat) => f + (i : Int)).filter b
theorem pick_yes (b : Int → Bool) (f : Int) (j : Nat) (h : b (f + j) = true) : pick b f (j + 1) = pick b f j ++ [f + j] := by simp [pick, List.range_succ, h]
theorem pick_no (b : Int → Bool) (f : Int) (j : Nat) (h : b (f + j) = false) : pick b f (j + 1) = pick b f j := by simp [pick, List.range_succ, h]
theorem pick_len (b : Int → Bool) (f : Int) (j : Nat) : (pick b f j).length ≤ j := by
  have := List.length_filter_le b ((List.range j).map fun (i : Nat) => f + (i : Int))
  simpa [pick] using this
end Go.Proofs.Ytmchdclieejohaa
