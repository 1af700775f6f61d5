/- The model's reach: for each node the least minute at which one is there. -/
import Derived.Test.YtpfnnpgielnaeaaDoorLR
import Derived.Test.YtpfnnpgielnaeaaDoorB
import Derived.Deep.AppendLies
import Derived.Deep.RegionLaw
import Derived.Deep.RegionHeld3
namespace Go.Proofs.YtpfnnpgielnaeaaDoor
open Go.RowKit

/-- A row of thirty numbers at a block. -/
def Row30 (w : World) (g c : Nat) (L : List Int) : Prop := w.ownsRow g 3 1 (.slice (some ⟨g, 0, none⟩) 30 c) 30 (L.map (.int .i64))
theorem row30_of {w : World} {B : Nat} {v : Value} {L : List Int} (h : w.ownsRow B 3 1 v 30 (L.map (.int .i64))) : ∃ g c, v = .slice (some ⟨g, 0, none⟩) 30 c ∧ B ≤ g ∧ Row30 w g c L ∧ L.length = 30 := by
  have hl := h.1
  simp at hl
  rcases h.2 with ⟨_, h0⟩ | ⟨g, c, cur, rfl, hg, r⟩
  · omega
  · exact ⟨g, c, rfl, hg, ⟨h.1, .inr ⟨g, c, cur, rfl, Nat.le_refl _, r⟩⟩, hl⟩
theorem Row30.lt {w : World} {g c : Nat} {L : List Int} (h : Row30 w g c L) : g < w.heap.size := owns_lt h
theorem Row30.len {w : World} {g c : Nat} {L : List Int} (h : Row30 w g c L) : L.length = 30 := by have := h.1; simpa using this
theorem Row30.cell {w : World} {g c : Nat} {L : List Int} (h : Row30 w g c L) {j : Nat} (hj : j < 30) : w.cell? ⟨g, j, none⟩ = some (.int .i64 (L.getD j 0)) := by
  have hl := h.len
  rw [World.ownsRow.cellAt h j (by omega)]
  simp [List.getD, show j < L.length by omega]
theorem Row30.below {w w' : World} {g c : Nat} {L : List Int} (h : Row30 w g c L) (hb : Below w.heap.size w w') : Row30 w' g c L := own_keep h hb
theorem Row30.set {w : World} {g c : Nat} {L : List Int} (h : Row30 w g c L) (j : Nat) (x : Int) : Row30 (w.setCell ⟨g, j, none⟩ (.int .i64 x)) g c (L.set j x) := by
  have := (World.ownsRow.stored h j (.int .i64 x)).1
  unfold Row30
  rw [List.map_set]
  exact this
theorem Row30.far {w : World} {g c b j : Nat} {u : Value} {L : List Int} (h : Row30 w g c L) (hne : g ≠ b) : Row30 (w.setCell ⟨b, j, none⟩ u) g c L :=
  own_set h (fun k hk e => by simp [Value.ownBlock] at hk; omega)
theorem Row30.own {w : World} {g c B : Nat} {L : List Int} (h : Row30 w g c L) (hB : B ≤ g) : w.ownsRow B 3 1 (.slice (some ⟨g, 0, none⟩) 30 c) 30 (L.map (.int .i64)) := own_base h hB
theorem Row30.frozen {w : World} {g c : Nat} {L : List Int} (h : Row30 w g c L) (j : Nat) : w.frozen? ⟨g, j, none⟩ = false := World.ownsRow.frozenAt h j
end Go.Proofs.YtpfnnpgielnaeaaDoor
