/- The laws' own measure of what comes in. -/
import Derived.Test.YtpgjllefhlanpaaV
namespace Go.Proofs.Ytpgjllefhlanpaa
open Go.RowKit

/-- No list beyond what a slice may be. -/
structure Big (p : PlantV) : Prop where
  under : p.under.length ≤ maxLen
  routes : p.routes.length ≤ maxLen
  each : ∀ r ∈ p.routes, r.needs.length ≤ maxLen ∧ r.blocks.length ≤ maxLen

/-- A locking's lists are slices. -/
structure LBig (l : LockV) : Prop where
  pos : l.pos.length ≤ maxLen
  set : l.set.length ≤ maxLen
  taken : l.taken.length ≤ maxLen
end Go.Proofs.Ytpgjllefhlanpaa
