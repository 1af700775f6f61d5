/- Shrink of the model. -/
import Derived.Test.YtcfapadcgboalaaDoorZD
namespace Go.Proofs.YtcfapadcgboalaaDoor
open Go.RowKit

theorem cTrainsV {n : Int} {ts : List SpanV} {r : Bool} (h : trainsOk n ts = r) (a : Option Addr) (cap : Nat) (w : World) (he : Spans w a ts) (hl : ts.length ≤ 1048576) :
    Calls Tryd.prog 28 #[.int .i64 n, .slice a ts.length cap] w fun e w' => e = .returned (.bool r) ∧ Below w.heap.size w w' := by
  rw [← h]; exact cTrainsS a cap n ts w he hl

end Go.Proofs.YtcfapadcgboalaaDoor
