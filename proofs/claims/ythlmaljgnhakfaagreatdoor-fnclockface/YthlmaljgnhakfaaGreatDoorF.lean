/- Trips that are right: the model's. -/
import Derived.Test.YthlmaljgnhakfaaGreatDoorE
namespace Go.Proofs.YthlmaljgnhakfaaGreatDoor
open Go.RowKit

end Go.Proofs.YthlmaljgnhakfaaGreatDoor
