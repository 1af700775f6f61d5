/-
  No cell of these rows narrows 'for every input' (looked for: loops, veiled, ifaces, maps, wideKeys, modest, calm, conditions, laid).
  DERIVED. THE GIVEN ROWS OF THIS SEAT. 12 by the template 'for every input the law returns true; each argument reads behind the call as it read before'; 0 by the template 'total and deterministic' (their statements: YtcadgafenbmihaaTotals.lean).
  GIVEN WITH THE SEED: the statements are not yours to turn. If you find one false, say at which input.
  Laid BY PROGRAM, IN A SANDBOX (cutbox-rows.mjs): the forced cells as the released guide's own fill.sh prints them over the translation 1e8f6808ecfdf43b… (all of the seat's roots in one cut). By AI agents, Wed Nov 11 2026. No macro, syntax, notation, axiom, sorry.
-/
import Derived.Test.YtcadgafenbmihaaChecked
import GoSem.Claim
import GoSem.ClaimJoined
import GoSem.ClaimMapViews
import Derived.JoinedTies
import Derived.KernelRfl
namespace Go.Proofs.Ytcadgafenbmihaa
/- THE CELL 'sum', in the pinned program and in every row, IS THE sha256 OF THE DUMP (.gsa) THAT YtcadgafenbmihaaProg.lean LOADS. Nothing in Lean hashes anything: it is a label: what it is worth is what the hold of that sum in a sandbox is worth. -/
noncomputable def Try.pinned : Pinned := { name := "ytcadgafenbmihaa", sum := "1e8f6808ecfdf43bcddcae879db38f0a78d644b2ec501bef3066dccbabba88ad", checked := Try.checked }
namespace Rows
def none {H : Type} : Left H := { results := [], args := [] }

/-- 'laws.FnExactInRange': WHATEVER THE INPUT: true; the input reads as it did. -/
def fnExactInRangeSpec : ChangeSpec := { name := "fnExactInRange", fn := fun _ => fun
  | [d1, d2, d3] => { results := [.lit (.bool true)], args := [d1, d2, d3] }
  | _ => none }
def fnExactInRangeRow : OpenClaim := { program := "ytcadgafenbmihaa", sum := "1e8f6808ecfdf43bcddcae879db38f0a78d644b2ec501bef3066dccbabba88ad", func := "loop.example/g00075/laws.FnExactInRange", spec := "fnExactInRange", apart := false }
def FnExactInRangeSaid : Prop := fnExactInRangeRow.holds Try.pinned (OpenSpec.ofChange fnExactInRangeSpec)

/-- ITS FALSE NEIGHBOUR: 'it returns false'. Refute it at one input. -/
def fnExactInRangeWrong : ChangeSpec := { name := "fnExactInRange", fn := fun _ => fun
  | [d1, d2, d3] => { results := [.lit (.bool false)], args := [d1, d2, d3] }
  | _ => none }
def FnExactInRangeWrongFalsely : Prop := fnExactInRangeRow.holds Try.pinned (OpenSpec.ofChange fnExactInRangeWrong)

/-- 'laws.FnExactCarOk': WHATEVER THE INPUT: true; the input reads as it did. -/
def fnExactCarOkSpec : ChangeSpec := { name := "fnExactCarOk", fn := fun _ => fun
  | [d] => { results := [.lit (.bool true)], args := [d] }
  | _ => none }
def fnExactCarOkRow : OpenClaim := { program := "ytcadgafenbmihaa", sum := "1e8f6808ecfdf43bcddcae879db38f0a78d644b2ec501bef3066dccbabba88ad", func := "loop.example/g00075/laws.FnExactCarOk", spec := "fnExactCarOk", apart := false }
def FnExactCarOkSaid : Prop := fnExactCarOkRow.holds Try.pinned (OpenSpec.ofChange fnExactCarOkSpec)

/-- ITS FALSE NEIGHBOUR: 'it returns false'. Refute it at one input. -/
def fnExactCarOkWrong : ChangeSpec := { name := "fnExactCarOk", fn := fun _ => fun
  | [d] => { results := [.lit (.bool false)], args := [d] }
  | _ => none }
def FnExactCarOkWrongFalsely : Prop := fnExactCarOkRow.holds Try.pinned (OpenSpec.ofChange fnExactCarOkWrong)

/-- 'laws.FnExactLocoOk': WHATEVER THE INPUT: true; the input reads as it did. -/
def fnExactLocoOkSpec : ChangeSpec := { name := "fnExactLocoOk", fn := fun _ => fun
  | [d] => { results := [.lit (.bool true)], args := [d] }
  | _ => none }
def fnExactLocoOkRow : OpenClaim := { program := "ytcadgafenbmihaa", sum := "1e8f6808ecfdf43bcddcae879db38f0a78d644b2ec501bef3066dccbabba88ad", func := "loop.example/g00075/laws.FnExactLocoOk", spec := "fnExactLocoOk", apart := false }
def FnExactLocoOkSaid : Prop := fnExactLocoOkRow.holds Try.pinned (OpenSpec.ofChange fnExactLocoOkSpec)

/-- ITS FALSE NEIGHBOUR: 'it returns false'. Refute it at one input. -/
def fnExactLocoOkWrong : ChangeSpec := { name := "fnExactLocoOk", fn := fun _ => fun
  | [d] => { results := [.lit (.bool false)], args := [d] }
  | _ => none }
def FnExactLocoOkWrongFalsely : Prop := fnExactLocoOkRow.holds Try.pinned (OpenSpec.ofChange fnExactLocoOkWrong)

/-- 'laws.FnExactResist': WHATEVER THE INPUT: true; the input reads as it did. -/
def fnExactResistSpec : ChangeSpec := { name := "fnExactResist", fn := fun _ => fun
  | [d1, d2] => { results := [.lit (.bool true)], args := [d1, d2] }
  | _ => none }
def fnExactResistRow : OpenClaim := { program := "ytcadgafenbmihaa", sum := "1e8f6808ecfdf43bcddcae879db38f0a78d644b2ec501bef3066dccbabba88ad", func := "loop.example/g00075/laws.FnExactResist", spec := "fnExactResist", apart := false }
def FnExactResistSaid : Prop := fnExactResistRow.holds Try.pinned (OpenSpec.ofChange fnExactResistSpec)

/-- ITS FALSE NEIGHBOUR: 'it returns false'. Refute it at one input. -/
def fnExactResistWrong : ChangeSpec := { name := "fnExactResist", fn := fun _ => fun
  | [d1, d2] => { results := [.lit (.bool false)], args := [d1, d2] }
  | _ => none }
def FnExactResistWrongFalsely : Prop := fnExactResistRow.holds Try.pinned (OpenSpec.ofChange fnExactResistWrong)

/-- 'laws.FnExactEffort': WHATEVER THE INPUT: true; the input reads as it did. -/
def fnExactEffortSpec : ChangeSpec := { name := "fnExactEffort", fn := fun _ => fun
  | [d1, d2] => { results := [.lit (.bool true)], args := [d1, d2] }
  | _ => none }
def fnExactEffortRow : OpenClaim := { program := "ytcadgafenbmihaa", sum := "1e8f6808ecfdf43bcddcae879db38f0a78d644b2ec501bef3066dccbabba88ad", func := "loop.example/g00075/laws.FnExactEffort", spec := "fnExactEffort", apart := false }
def FnExactEffortSaid : Prop := fnExactEffortRow.holds Try.pinned (OpenSpec.ofChange fnExactEffortSpec)

/-- ITS FALSE NEIGHBOUR: 'it returns false'. Refute it at one input. -/
def fnExactEffortWrong : ChangeSpec := { name := "fnExactEffort", fn := fun _ => fun
  | [d1, d2] => { results := [.lit (.bool false)], args := [d1, d2] }
  | _ => none }
def FnExactEffortWrongFalsely : Prop := fnExactEffortRow.holds Try.pinned (OpenSpec.ofChange fnExactEffortWrong)

/-- 'laws.FnExactWeigh': WHATEVER THE INPUT: true; the input reads as it did. -/
def fnExactWeighSpec : ChangeSpec := { name := "fnExactWeigh", fn := fun _ => fun
  | [d] => { results := [.lit (.bool true)], args := [d] }
  | _ => none }
def fnExactWeighRow : OpenClaim := { program := "ytcadgafenbmihaa", sum := "1e8f6808ecfdf43bcddcae879db38f0a78d644b2ec501bef3066dccbabba88ad", func := "loop.example/g00075/laws.FnExactWeigh", spec := "fnExactWeigh", unfollowed := true, recurses := true, apart := false }
def FnExactWeighSaid : Prop := fnExactWeighRow.holds Try.pinned (OpenSpec.ofChange fnExactWeighSpec)

/-- ITS FALSE NEIGHBOUR: 'it returns false'. Refute it at one input. -/
def fnExactWeighWrong : ChangeSpec := { name := "fnExactWeigh", fn := fun _ => fun
  | [d] => { results := [.lit (.bool false)], args := [d] }
  | _ => none }
def FnExactWeighWrongFalsely : Prop := fnExactWeighRow.holds Try.pinned (OpenSpec.ofChange fnExactWeighWrong)

/-- 'laws.FnExactDrag': WHATEVER THE INPUT: true; the input reads as it did. -/
def fnExactDragSpec : ChangeSpec := { name := "fnExactDrag", fn := fun _ => fun
  | [d1, d2, d3] => { results := [.lit (.bool true)], args := [d1, d2, d3] }
  | _ => none }
def fnExactDragRow : OpenClaim := { program := "ytcadgafenbmihaa", sum := "1e8f6808ecfdf43bcddcae879db38f0a78d644b2ec501bef3066dccbabba88ad", func := "loop.example/g00075/laws.FnExactDrag", spec := "fnExactDrag", unfollowed := true, recurses := true, apart := false }
def FnExactDragSaid : Prop := fnExactDragRow.holds Try.pinned (OpenSpec.ofChange fnExactDragSpec)

/-- ITS FALSE NEIGHBOUR: 'it returns false'. Refute it at one input. -/
def fnExactDragWrong : ChangeSpec := { name := "fnExactDrag", fn := fun _ => fun
  | [d1, d2, d3] => { results := [.lit (.bool false)], args := [d1, d2, d3] }
  | _ => none }
def FnExactDragWrongFalsely : Prop := fnExactDragRow.holds Try.pinned (OpenSpec.ofChange fnExactDragWrong)

/-- 'laws.FnExactPull': WHATEVER THE INPUT: true; the input reads as it did. -/
def fnExactPullSpec : ChangeSpec := { name := "fnExactPull", fn := fun _ => fun
  | [d1, d2, d3, d4, d5] => { results := [.lit (.bool true)], args := [d1, d2, d3, d4, d5] }
  | _ => none }
def fnExactPullRow : OpenClaim := { program := "ytcadgafenbmihaa", sum := "1e8f6808ecfdf43bcddcae879db38f0a78d644b2ec501bef3066dccbabba88ad", func := "loop.example/g00075/laws.FnExactPull", spec := "fnExactPull", unfollowed := true, recurses := true, apart := false }
def FnExactPullSaid : Prop := fnExactPullRow.holds Try.pinned (OpenSpec.ofChange fnExactPullSpec)

/-- ITS FALSE NEIGHBOUR: 'it returns false'. Refute it at one input. -/
def fnExactPullWrong : ChangeSpec := { name := "fnExactPull", fn := fun _ => fun
  | [d1, d2, d3, d4, d5] => { results := [.lit (.bool false)], args := [d1, d2, d3, d4, d5] }
  | _ => none }
def FnExactPullWrongFalsely : Prop := fnExactPullRow.holds Try.pinned (OpenSpec.ofChange fnExactPullWrong)

/-- 'laws.FnExactRide': WHATEVER THE INPUT: true; the input reads as it did. -/
def fnExactRideSpec : ChangeSpec := { name := "fnExactRide", fn := fun _ => fun
  | [d1, d2, d3, d4, d5] => { results := [.lit (.bool true)], args := [d1, d2, d3, d4, d5] }
  | _ => none }
def fnExactRideRow : OpenClaim := { program := "ytcadgafenbmihaa", sum := "1e8f6808ecfdf43bcddcae879db38f0a78d644b2ec501bef3066dccbabba88ad", func := "loop.example/g00075/laws.FnExactRide", spec := "fnExactRide", unfollowed := true, recurses := true, apart := false }
def FnExactRideSaid : Prop := fnExactRideRow.holds Try.pinned (OpenSpec.ofChange fnExactRideSpec)

/-- ITS FALSE NEIGHBOUR: 'it returns false'. Refute it at one input. -/
def fnExactRideWrong : ChangeSpec := { name := "fnExactRide", fn := fun _ => fun
  | [d1, d2, d3, d4, d5] => { results := [.lit (.bool false)], args := [d1, d2, d3, d4, d5] }
  | _ => none }
def FnExactRideWrongFalsely : Prop := fnExactRideRow.holds Try.pinned (OpenSpec.ofChange fnExactRideWrong)

/-- 'laws.FnExactBalance': WHATEVER THE INPUT: true; the input reads as it did. -/
def fnExactBalanceSpec : ChangeSpec := { name := "fnExactBalance", fn := fun _ => fun
  | [d1, d2, d3] => { results := [.lit (.bool true)], args := [d1, d2, d3] }
  | _ => none }
def fnExactBalanceRow : OpenClaim := { program := "ytcadgafenbmihaa", sum := "1e8f6808ecfdf43bcddcae879db38f0a78d644b2ec501bef3066dccbabba88ad", func := "loop.example/g00075/laws.FnExactBalance", spec := "fnExactBalance", unfollowed := true, recurses := true, apart := false }
def FnExactBalanceSaid : Prop := fnExactBalanceRow.holds Try.pinned (OpenSpec.ofChange fnExactBalanceSpec)

/-- ITS FALSE NEIGHBOUR: 'it returns false'. Refute it at one input. -/
def fnExactBalanceWrong : ChangeSpec := { name := "fnExactBalance", fn := fun _ => fun
  | [d1, d2, d3] => { results := [.lit (.bool false)], args := [d1, d2, d3] }
  | _ => none }
def FnExactBalanceWrongFalsely : Prop := fnExactBalanceRow.holds Try.pinned (OpenSpec.ofChange fnExactBalanceWrong)

/-- 'laws.FnExactJoules': WHATEVER THE INPUT: true; the input reads as it did. -/
def fnExactJoulesSpec : ChangeSpec := { name := "fnExactJoules", fn := fun _ => fun
  | [d1, d2, d3] => { results := [.lit (.bool true)], args := [d1, d2, d3] }
  | _ => none }
def fnExactJoulesRow : OpenClaim := { program := "ytcadgafenbmihaa", sum := "1e8f6808ecfdf43bcddcae879db38f0a78d644b2ec501bef3066dccbabba88ad", func := "loop.example/g00075/laws.FnExactJoules", spec := "fnExactJoules", unfollowed := true, recurses := true, apart := false }
def FnExactJoulesSaid : Prop := fnExactJoulesRow.holds Try.pinned (OpenSpec.ofChange fnExactJoulesSpec)

/-- ITS FALSE NEIGHBOUR: 'it returns false'. Refute it at one input. -/
def fnExactJoulesWrong : ChangeSpec := { name := "fnExactJoules", fn := fun _ => fun
  | [d1, d2, d3] => { results := [.lit (.bool false)], args := [d1, d2, d3] }
  | _ => none }
def FnExactJoulesWrongFalsely : Prop := fnExactJoulesRow.holds Try.pinned (OpenSpec.ofChange fnExactJoulesWrong)

/-- 'laws.FnRide': WHATEVER THE INPUT: true; the input reads as it did. -/
def fnRideSpec : ChangeSpec := { name := "fnRide", fn := fun _ => fun
  | [d] => { results := [.lit (.bool true)], args := [d] }
  | _ => none }
def fnRideRow : OpenClaim := { program := "ytcadgafenbmihaa", sum := "1e8f6808ecfdf43bcddcae879db38f0a78d644b2ec501bef3066dccbabba88ad", func := "loop.example/g00075/laws.FnRide", spec := "fnRide", unfollowed := true, recurses := true, apart := false }
def FnRideSaid : Prop := fnRideRow.holds Try.pinned (OpenSpec.ofChange fnRideSpec)

/-- ITS FALSE NEIGHBOUR: 'it returns false'. Refute it at one input. -/
def fnRideWrong : ChangeSpec := { name := "fnRide", fn := fun _ => fun
  | [d] => { results := [.lit (.bool false)], args := [d] }
  | _ => none }
def FnRideWrongFalsely : Prop := fnRideRow.holds Try.pinned (OpenSpec.ofChange fnRideWrong)

/- THE SECOND FORM. 'bulk': how many values and letters a reading holds, each counted each time it is reached (what is shared counts as often as it is met; a slice's spare places count too). A statement '..UptoSaid' is the law's where the arguments, and the package variables that the reading takes, are together of bulk at most 1048576: NARROWER than '..Said'. Prove '..Said' where nothing that the law and all that it calls make is longer than what came in: it says more and counts as full. Else prove '..UptoSaid'. A law counts once. -/
mutual
def uptoBulk {H : Type} : DataW H → Nat
  | .lit (.string bytes) => bytes.length + 1
  | .lit _ => 1
  | .nil => 1
  | .ptr d => uptoBulk d + 1
  | .slice elems spare => uptoBulkAll elems + uptoBulkAll spare + 1
  | .agg parts => uptoBulkAll parts + 1
  | .iface _ d => uptoBulk d + 1
  | .map entries => uptoBulkEntries entries + 1
  | .held _ => 1
def uptoBulkAll {H : Type} : List (DataW H) → Nat
  | [] => 0
  | d :: r => uptoBulk d + uptoBulkAll r
def uptoBulkEntries {H : Type} : List (Lit × DataW H) → Nat
  | [] => 0
  | x :: r => uptoBulkEntry x + uptoBulkEntries r
def uptoBulkEntry {H : Type} : Lit × DataW H → Nat
  | (.string bytes, d) => bytes.length + uptoBulk d + 1
  | (_, d) => uptoBulk d + 1
 end
def uptoSmall : (H : Type) → List (DataW H) → Bool := fun _ ds => decide (uptoBulkAll ds ≤ 1048576)
def OpenSpec.upto (s : _root_.Go.ChangeSpec) : _root_.Go.OpenSpec := { _root_.Go.OpenSpec.ofChange s with cond := some uptoSmall }

/-- 'laws.FnExactInRange', WHERE WHAT IT READS IS OF BULK AT MOST 1048576: true; the input reads as it did. -/
def fnExactInRangeUptoRow : OpenClaim := { program := "ytcadgafenbmihaa", sum := "1e8f6808ecfdf43bcddcae879db38f0a78d644b2ec501bef3066dccbabba88ad", func := "loop.example/g00075/laws.FnExactInRange", spec := "fnExactInRange", apart := false, narrowed := true }
def FnExactInRangeUptoSaid : Prop := fnExactInRangeUptoRow.holds Try.pinned (OpenSpec.upto fnExactInRangeSpec)

/-- 'laws.FnExactCarOk', WHERE WHAT IT READS IS OF BULK AT MOST 1048576: true; the input reads as it did. -/
def fnExactCarOkUptoRow : OpenClaim := { program := "ytcadgafenbmihaa", sum := "1e8f6808ecfdf43bcddcae879db38f0a78d644b2ec501bef3066dccbabba88ad", func := "loop.example/g00075/laws.FnExactCarOk", spec := "fnExactCarOk", apart := false, narrowed := true }
def FnExactCarOkUptoSaid : Prop := fnExactCarOkUptoRow.holds Try.pinned (OpenSpec.upto fnExactCarOkSpec)

/-- 'laws.FnExactLocoOk', WHERE WHAT IT READS IS OF BULK AT MOST 1048576: true; the input reads as it did. -/
def fnExactLocoOkUptoRow : OpenClaim := { program := "ytcadgafenbmihaa", sum := "1e8f6808ecfdf43bcddcae879db38f0a78d644b2ec501bef3066dccbabba88ad", func := "loop.example/g00075/laws.FnExactLocoOk", spec := "fnExactLocoOk", apart := false, narrowed := true }
def FnExactLocoOkUptoSaid : Prop := fnExactLocoOkUptoRow.holds Try.pinned (OpenSpec.upto fnExactLocoOkSpec)

/-- 'laws.FnExactResist', WHERE WHAT IT READS IS OF BULK AT MOST 1048576: true; the input reads as it did. -/
def fnExactResistUptoRow : OpenClaim := { program := "ytcadgafenbmihaa", sum := "1e8f6808ecfdf43bcddcae879db38f0a78d644b2ec501bef3066dccbabba88ad", func := "loop.example/g00075/laws.FnExactResist", spec := "fnExactResist", apart := false, narrowed := true }
def FnExactResistUptoSaid : Prop := fnExactResistUptoRow.holds Try.pinned (OpenSpec.upto fnExactResistSpec)

/-- 'laws.FnExactEffort', WHERE WHAT IT READS IS OF BULK AT MOST 1048576: true; the input reads as it did. -/
def fnExactEffortUptoRow : OpenClaim := { program := "ytcadgafenbmihaa", sum := "1e8f6808ecfdf43bcddcae879db38f0a78d644b2ec501bef3066dccbabba88ad", func := "loop.example/g00075/laws.FnExactEffort", spec := "fnExactEffort", apart := false, narrowed := true }
def FnExactEffortUptoSaid : Prop := fnExactEffortUptoRow.holds Try.pinned (OpenSpec.upto fnExactEffortSpec)

/-- 'laws.FnExactWeigh', WHERE WHAT IT READS IS OF BULK AT MOST 1048576: true; the input reads as it did. -/
def fnExactWeighUptoRow : OpenClaim := { program := "ytcadgafenbmihaa", sum := "1e8f6808ecfdf43bcddcae879db38f0a78d644b2ec501bef3066dccbabba88ad", func := "loop.example/g00075/laws.FnExactWeigh", spec := "fnExactWeigh", unfollowed := true, recurses := true, apart := false, narrowed := true }
def FnExactWeighUptoSaid : Prop := fnExactWeighUptoRow.holds Try.pinned (OpenSpec.upto fnExactWeighSpec)

/-- 'laws.FnExactDrag', WHERE WHAT IT READS IS OF BULK AT MOST 1048576: true; the input reads as it did. -/
def fnExactDragUptoRow : OpenClaim := { program := "ytcadgafenbmihaa", sum := "1e8f6808ecfdf43bcddcae879db38f0a78d644b2ec501bef3066dccbabba88ad", func := "loop.example/g00075/laws.FnExactDrag", spec := "fnExactDrag", unfollowed := true, recurses := true, apart := false, narrowed := true }
def FnExactDragUptoSaid : Prop := fnExactDragUptoRow.holds Try.pinned (OpenSpec.upto fnExactDragSpec)

/-- 'laws.FnExactPull', WHERE WHAT IT READS IS OF BULK AT MOST 1048576: true; the input reads as it did. -/
def fnExactPullUptoRow : OpenClaim := { program := "ytcadgafenbmihaa", sum := "1e8f6808ecfdf43bcddcae879db38f0a78d644b2ec501bef3066dccbabba88ad", func := "loop.example/g00075/laws.FnExactPull", spec := "fnExactPull", unfollowed := true, recurses := true, apart := false, narrowed := true }
def FnExactPullUptoSaid : Prop := fnExactPullUptoRow.holds Try.pinned (OpenSpec.upto fnExactPullSpec)

/-- 'laws.FnExactRide', WHERE WHAT IT READS IS OF BULK AT MOST 1048576: true; the input reads as it did. -/
def fnExactRideUptoRow : OpenClaim := { program := "ytcadgafenbmihaa", sum := "1e8f6808ecfdf43bcddcae879db38f0a78d644b2ec501bef3066dccbabba88ad", func := "loop.example/g00075/laws.FnExactRide", spec := "fnExactRide", unfollowed := true, recurses := true, apart := false, narrowed := true }
def FnExactRideUptoSaid : Prop := fnExactRideUptoRow.holds Try.pinned (OpenSpec.upto fnExactRideSpec)

/-- 'laws.FnExactBalance', WHERE WHAT IT READS IS OF BULK AT MOST 1048576: true; the input reads as it did. -/
def fnExactBalanceUptoRow : OpenClaim := { program := "ytcadgafenbmihaa", sum := "1e8f6808ecfdf43bcddcae879db38f0a78d644b2ec501bef3066dccbabba88ad", func := "loop.example/g00075/laws.FnExactBalance", spec := "fnExactBalance", unfollowed := true, recurses := true, apart := false, narrowed := true }
def FnExactBalanceUptoSaid : Prop := fnExactBalanceUptoRow.holds Try.pinned (OpenSpec.upto fnExactBalanceSpec)

/-- 'laws.FnExactJoules', WHERE WHAT IT READS IS OF BULK AT MOST 1048576: true; the input reads as it did. -/
def fnExactJoulesUptoRow : OpenClaim := { program := "ytcadgafenbmihaa", sum := "1e8f6808ecfdf43bcddcae879db38f0a78d644b2ec501bef3066dccbabba88ad", func := "loop.example/g00075/laws.FnExactJoules", spec := "fnExactJoules", unfollowed := true, recurses := true, apart := false, narrowed := true }
def FnExactJoulesUptoSaid : Prop := fnExactJoulesUptoRow.holds Try.pinned (OpenSpec.upto fnExactJoulesSpec)

/-- 'laws.FnRide', WHERE WHAT IT READS IS OF BULK AT MOST 1048576: true; the input reads as it did. -/
def fnRideUptoRow : OpenClaim := { program := "ytcadgafenbmihaa", sum := "1e8f6808ecfdf43bcddcae879db38f0a78d644b2ec501bef3066dccbabba88ad", func := "loop.example/g00075/laws.FnRide", spec := "fnRide", unfollowed := true, recurses := true, apart := false, narrowed := true }
def FnRideUptoSaid : Prop := fnRideUptoRow.holds Try.pinned (OpenSpec.upto fnRideSpec)

end Rows
end Go.Proofs.Ytcadgafenbmihaa
