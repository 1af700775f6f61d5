/- The model's text of a number: it is TT's. -/
import Derived.Test.YthlmaljgnhakfaaDoorDK
import Derived.Test.YthlmaljgnhakfaaDoorTT
namespace Go.Proofs.YthlmaljgnhakfaaDoor
end Go.Proofs.YthlmaljgnhakfaaDoor
