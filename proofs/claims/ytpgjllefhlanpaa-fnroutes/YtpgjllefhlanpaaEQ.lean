/- Plants and lockings compared. -/
import Derived.Test.YtpgjllefhlanpaaCQ
namespace Go.Proofs.Ytpgjllefhlanpaa
open Go.RowKit

end Go.Proofs.Ytpgjllefhlanpaa
