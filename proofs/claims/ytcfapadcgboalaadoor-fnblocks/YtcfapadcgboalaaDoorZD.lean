/- Forward of the model. -/
import Derived.Test.YtcfapadcgboalaaDoorZC
namespace Go.Proofs.YtcfapadcgboalaaDoor
open Go.RowKit

theorem ahead_end {n : Int} {ts : List SpanV} {q : Nat} {y : Int} (h0 : 0 ≤ y) (h3 : y ≤ 3) (hn : fAt ts q + 1 = n) : ahead n ts q y = y := by
  unfold ahead
  rw [hn]
  have := asp_end (bs := takens ts n.toNat) h0 h3
  rwa [takens_len] at this

theorem szlt {w : World} {o : Obj} {k : Nat} (h : (w.alloc o).heap.size ≤ k) : w.heap.size < k := by rw [sz1] at h; exact h
theorem szltd {w : World} {o : Obj} {k : Nat} (h : (w.alloc o).drew.heap.size ≤ k) : w.heap.size < k := szlt h

end Go.Proofs.YtcfapadcgboalaaDoor
