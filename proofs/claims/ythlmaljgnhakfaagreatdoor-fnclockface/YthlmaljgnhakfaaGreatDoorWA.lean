/- The walk of the law on TripOk. -/
import Derived.Test.YthlmaljgnhakfaaGreatDoorG
import Derived.Deep.RegionWith
namespace Go.Proofs.YthlmaljgnhakfaaGreatDoor
open Go.RowKit

theorem one_block (w : World) (o : Obj) : (w.alloc o).heap[w.heap.size]? = some o := by
  show (w.heap.push o)[w.heap.size]? = _
  simp

end Go.Proofs.YthlmaljgnhakfaaGreatDoor
