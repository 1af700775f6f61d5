/- A text cut at a byte: the model's l08Split. -/
import Derived.Test.YthlmaljgnhakfaaGreatDoorSPM
import Derived.Test.YthlmaljgnhakfaaGreatDoorTX
import Derived.Maps.AppendAt
namespace Go.Proofs.YthlmaljgnhakfaaGreatDoor
open Go.RowKit
theorem news1 (W : World) (c0 : Value) (t : TypeId) : ∀ j u, [c0][j]? = some u → (W.alloc (.cells #[c0] t)).cell? ((⟨W.heap.size, 0, none⟩ : Addr).add j) = some u := by
  intro j u hj
  match j, hj with
  | 0, hj => simp at hj; subst hj; simp [Addr.add, go_sem]
end Go.Proofs.YthlmaljgnhakfaaGreatDoor
