/- The walks of the laws on UseOk and Clash. -/
import Derived.Test.YtbghfihlpbcomaaGreatCC
import Derived.Deep.RegionHeld3
namespace Go.Proofs.YtbghfihlpbcomaaGreat
open Go.RowKit

theorem Bx5.parts {w : World} {b : Nat} {c0 c1 c2 c3 c4 : Value} (h : Bx5 w b c0 c1 c2 c3 c4) : w.cell? ⟨b, 0, none⟩ = some c0 ∧ w.cell? ⟨b, 1, none⟩ = some c1 ∧ w.cell? ⟨b, 2, none⟩ = some c2 ∧ w.cell? ⟨b, 3, none⟩ = some c3 ∧ w.cell? ⟨b, 4, none⟩ = some c4 := h

end Go.Proofs.YtbghfihlpbcomaaGreat
