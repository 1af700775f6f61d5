/- A train's step: the speed held, the growth, the train in memory. -/
import Derived.Test.YtcadgafenbmihabH
import Derived.Deep.RegionHeld3
import Derived.Deep.Cut
namespace Go.Proofs.Ytcadgafenbmihab
open Go.RowKit Fl

attribute [local go_sem] run_store_float

theorem bcell {W w1 : World} (hb : Below W.heap.size W w1) : (∀ b o, b < W.heap.size → w1.cell? ⟨b, o, none⟩ = W.cell? ⟨b, o, none⟩) ∧ (∀ b o, b < W.heap.size → w1.frozen? ⟨b, o, none⟩ = W.frozen? ⟨b, o, none⟩) :=
  ⟨fun b o h => hb.cell (p := ⟨b, o, none⟩) h, fun b o h => hb.frozen (p := ⟨b, o, none⟩) h⟩

/-- Nothing turns but what lies in one block. -/
theorem gset {w w' : World} {b : Nat} (h : w.grownBy w' (some b)) (o : Nat) (v : Value) : w.grownBy (w'.setCell ⟨b, o, none⟩ v) (some b) :=
  ⟨h.os, h.tape, h.output, by simpa using h.size, fun k hk hne => (Below.heap_setCell _ _ _ _ (by rintro rfl; exact hne rfl)).trans (h.block k hk hne)⟩
theorem gbelow {w w' w2 : World} {b : Nat} (h : w.grownBy w' (some b)) (hb : Below w'.heap.size w' w2) : w.grownBy w2 (some b) :=
  ⟨hb.os.trans h.os, hb.tape.trans h.tape, hb.output.trans h.output, Nat.le_trans h.size hb.size, fun k hk hne => (hb.block k (Nat.lt_of_lt_of_le hk h.size)).trans (h.block k hk hne)⟩
theorem gtrans {w w' w2 : World} {b : Nat} (h : w.grownBy w' (some b)) (g : w'.grownBy w2 (some b)) : w.grownBy w2 (some b) :=
  ⟨g.os.trans h.os, g.tape.trans h.tape, g.output.trans h.output, Nat.le_trans h.size g.size, fun k hk hne => (g.block k (Nat.lt_of_lt_of_le hk h.size) hne).trans (h.block k hk hne)⟩
theorem gof {w w' : World} {b : Nat} (hb : Below w.heap.size w w') : w.grownBy w' (some b) := gbelow (World.grownBy.refl _ _) hb

theorem Cars.lt {w : World} {a : Option Addr} {es : List CarV} (h : Cars w a es) : es = [] ∨ ∃ b off, a = some ⟨b, off, none⟩ ∧ b < w.heap.size := by
  rcases h with h | ⟨b, off, ha, hc⟩
  · exact .inl h
  · by_cases h0 : es = []
    · exact .inl h0
    · have : 0 < es.length := List.length_pos_iff.2 h0
      exact .inr ⟨b, off, ha, cell_lt (hc 0 this).1⟩
/-- The cars lie in another block. -/
def Apart (a : Option Addr) (b : Nat) : Prop := ∀ ad, a = some ad → ad.block ≠ b
theorem Cars.far {w w' : World} {a : Option Addr} {es : List CarV} {b : Nat} (h : Cars w a es) (ha : Apart a b) (hg : w.grownBy w' (some b)) : Cars w' a es := by
  rcases h with h | ⟨b', off, rfl, hc⟩
  · exact .inl h
  · refine .inr ⟨b', off, rfl, fun i hi => ?_⟩
    have hb := cell_lt (hc i hi).1
    have hne : b' ≠ b := ha _ rfl
    have hh : w'.heap[b']? = w.heap[b']? := hg.block b' hb (by intro e; cases e; exact hne rfl)
    have key : ∀ o v, w.cell? ⟨b', o, none⟩ = some v → w'.cell? ⟨b', o, none⟩ = some v := by
      intro o v hv; unfold World.cell? at *; rw [hh]; exact hv
    exact ⟨key _ _ (hc i hi).1, key _ _ (hc i hi).2.1, key _ _ (hc i hi).2.2.1, key _ _ (hc i hi).2.2.2⟩

end Go.Proofs.Ytcadgafenbmihab
