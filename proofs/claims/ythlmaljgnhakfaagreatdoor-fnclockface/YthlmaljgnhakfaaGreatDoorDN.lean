/- The model's text of a number: it is TT's. -/
import Derived.Test.YthlmaljgnhakfaaGreatDoorDK
import Derived.Test.YthlmaljgnhakfaaGreatDoorTT
namespace Go.Proofs.YthlmaljgnhakfaaGreatDoor
end Go.Proofs.YthlmaljgnhakfaaGreatDoor
