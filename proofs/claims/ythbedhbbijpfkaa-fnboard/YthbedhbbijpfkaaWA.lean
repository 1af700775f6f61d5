/- The walk of the law on TripOk. -/
import Derived.Test.YthbedhbbijpfkaaG
import Derived.Deep.RegionWith
namespace Go.Proofs.Ythbedhbbijpfkaa
open Go.RowKit

theorem one_block (w : World) (o : Obj) : (w.alloc o).heap[w.heap.size]? = some o := by
  show (w.heap.push o)[w.heap.size]? = _
  simp

end Go.Proofs.Ythbedhbbijpfkaa
