/-
  No cell of these rows narrows 'for every input' (looked for: loops, veiled, ifaces, maps, wideKeys, modest, calm, conditions, laid).
  DERIVED. THE GIVEN ROWS OF THIS SEAT. 3 by the template 'for every input the law returns true; each argument reads behind the call as it read before'; 0 by the template 'total and deterministic' (their statements: YtnbfkkmjehhihaaTotals.lean).
  GIVEN WITH THE SEED: the statements are not yours to turn. If you find one false, say at which input.
  Laid BY PROGRAM, IN A SANDBOX (cutbox-rows.mjs): the forced cells as the released guide's own fill.sh prints them over the translation 45d84a442571ac8e… (all of the seat's roots in one cut). By AI agents, Wed Nov 11 2026. No macro, syntax, notation, axiom, sorry.
-/
import Derived.Test.YtnbfkkmjehhihaaChecked
import GoSem.Claim
import GoSem.ClaimJoined
import GoSem.ClaimMapViews
import Derived.JoinedTies
import Derived.KernelRfl
namespace Go.Proofs.Ytnbfkkmjehhihaa
/- THE CELL 'sum', in the pinned program and in every row, IS THE sha256 OF THE DUMP (.gsa) THAT YtnbfkkmjehhihaaProg.lean LOADS. Nothing in Lean hashes anything: it is a label: what it is worth is what the hold of that sum in a sandbox is worth. -/
noncomputable def Try.pinned : Pinned := { name := "ytnbfkkmjehhihaa", sum := "45d84a442571ac8eefe81e9186576a9a7291ca5b99b53aca228b8ace452ad2b9", checked := Try.checked }
namespace Rows
def none {H : Type} : Left H := { results := [], args := [] }

/-- 'laws.FnExactAspects': WHATEVER THE INPUT: true; the input reads as it did. -/
def fnExactAspectsSpec : ChangeSpec := { name := "fnExactAspects", fn := fun _ => fun
  | [d1, d2] => { results := [.lit (.bool true)], args := [d1, d2] }
  | _ => none }
def fnExactAspectsRow : OpenClaim := { program := "ytnbfkkmjehhihaa", sum := "45d84a442571ac8eefe81e9186576a9a7291ca5b99b53aca228b8ace452ad2b9", func := "loop.example/g00075/laws.FnExactAspects", spec := "fnExactAspects", apart := false }
def FnExactAspectsSaid : Prop := fnExactAspectsRow.holds Try.pinned (OpenSpec.ofChange fnExactAspectsSpec)

/-- ITS FALSE NEIGHBOUR: 'it returns false'. Refute it at one input. -/
def fnExactAspectsWrong : ChangeSpec := { name := "fnExactAspects", fn := fun _ => fun
  | [d1, d2] => { results := [.lit (.bool false)], args := [d1, d2] }
  | _ => none }
def FnExactAspectsWrongFalsely : Prop := fnExactAspectsRow.holds Try.pinned (OpenSpec.ofChange fnExactAspectsWrong)

/-- 'laws.FnExactFreeFrom': WHATEVER THE INPUT: true; the input reads as it did. -/
def fnExactFreeFromSpec : ChangeSpec := { name := "fnExactFreeFrom", fn := fun _ => fun
  | [d1, d2] => { results := [.lit (.bool true)], args := [d1, d2] }
  | _ => none }
def fnExactFreeFromRow : OpenClaim := { program := "ytnbfkkmjehhihaa", sum := "45d84a442571ac8eefe81e9186576a9a7291ca5b99b53aca228b8ace452ad2b9", func := "loop.example/g00075/laws.FnExactFreeFrom", spec := "fnExactFreeFrom", apart := false }
def FnExactFreeFromSaid : Prop := fnExactFreeFromRow.holds Try.pinned (OpenSpec.ofChange fnExactFreeFromSpec)

/-- ITS FALSE NEIGHBOUR: 'it returns false'. Refute it at one input. -/
def fnExactFreeFromWrong : ChangeSpec := { name := "fnExactFreeFrom", fn := fun _ => fun
  | [d1, d2] => { results := [.lit (.bool false)], args := [d1, d2] }
  | _ => none }
def FnExactFreeFromWrongFalsely : Prop := fnExactFreeFromRow.holds Try.pinned (OpenSpec.ofChange fnExactFreeFromWrong)

/-- 'laws.FnExactPassed': WHATEVER THE INPUT: true; the input reads as it did. -/
def fnExactPassedSpec : ChangeSpec := { name := "fnExactPassed", fn := fun _ => fun
  | [d1, d2] => { results := [.lit (.bool true)], args := [d1, d2] }
  | _ => none }
def fnExactPassedRow : OpenClaim := { program := "ytnbfkkmjehhihaa", sum := "45d84a442571ac8eefe81e9186576a9a7291ca5b99b53aca228b8ace452ad2b9", func := "loop.example/g00075/laws.FnExactPassed", spec := "fnExactPassed", unfollowed := true, recurses := true, apart := false }
def FnExactPassedSaid : Prop := fnExactPassedRow.holds Try.pinned (OpenSpec.ofChange fnExactPassedSpec)

/-- ITS FALSE NEIGHBOUR: 'it returns false'. Refute it at one input. -/
def fnExactPassedWrong : ChangeSpec := { name := "fnExactPassed", fn := fun _ => fun
  | [d1, d2] => { results := [.lit (.bool false)], args := [d1, d2] }
  | _ => none }
def FnExactPassedWrongFalsely : Prop := fnExactPassedRow.holds Try.pinned (OpenSpec.ofChange fnExactPassedWrong)

/- THE SECOND FORM. 'bulk': how many values and letters a reading holds, each counted each time it is reached (what is shared counts as often as it is met; a slice's spare places count too). A statement '..UptoSaid' is the law's where the arguments, and the package variables that the reading takes, are together of bulk at most 1048576: NARROWER than '..Said'. Prove '..Said' where nothing that the law and all that it calls make is longer than what came in: it says more and counts as full. Else prove '..UptoSaid'. A law counts once. -/
mutual
def uptoBulk {H : Type} : DataW H → Nat
  | .lit (.string bytes) => bytes.length + 1
  | .lit _ => 1
  | .nil => 1
  | .ptr d => uptoBulk d + 1
  | .slice elems spare => uptoBulkAll elems + uptoBulkAll spare + 1
  | .agg parts => uptoBulkAll parts + 1
  | .iface _ d => uptoBulk d + 1
  | .map entries => uptoBulkEntries entries + 1
  | .held _ => 1
def uptoBulkAll {H : Type} : List (DataW H) → Nat
  | [] => 0
  | d :: r => uptoBulk d + uptoBulkAll r
def uptoBulkEntries {H : Type} : List (Lit × DataW H) → Nat
  | [] => 0
  | x :: r => uptoBulkEntry x + uptoBulkEntries r
def uptoBulkEntry {H : Type} : Lit × DataW H → Nat
  | (.string bytes, d) => bytes.length + uptoBulk d + 1
  | (_, d) => uptoBulk d + 1
 end
def uptoSmall : (H : Type) → List (DataW H) → Bool := fun _ ds => decide (uptoBulkAll ds ≤ 1048576)
def OpenSpec.upto (s : _root_.Go.ChangeSpec) : _root_.Go.OpenSpec := { _root_.Go.OpenSpec.ofChange s with cond := some uptoSmall }

/-- 'laws.FnExactAspects', WHERE WHAT IT READS IS OF BULK AT MOST 1048576: true; the input reads as it did. -/
def fnExactAspectsUptoRow : OpenClaim := { program := "ytnbfkkmjehhihaa", sum := "45d84a442571ac8eefe81e9186576a9a7291ca5b99b53aca228b8ace452ad2b9", func := "loop.example/g00075/laws.FnExactAspects", spec := "fnExactAspects", apart := false, narrowed := true }
def FnExactAspectsUptoSaid : Prop := fnExactAspectsUptoRow.holds Try.pinned (OpenSpec.upto fnExactAspectsSpec)

/-- 'laws.FnExactFreeFrom', WHERE WHAT IT READS IS OF BULK AT MOST 1048576: true; the input reads as it did. -/
def fnExactFreeFromUptoRow : OpenClaim := { program := "ytnbfkkmjehhihaa", sum := "45d84a442571ac8eefe81e9186576a9a7291ca5b99b53aca228b8ace452ad2b9", func := "loop.example/g00075/laws.FnExactFreeFrom", spec := "fnExactFreeFrom", apart := false, narrowed := true }
def FnExactFreeFromUptoSaid : Prop := fnExactFreeFromUptoRow.holds Try.pinned (OpenSpec.upto fnExactFreeFromSpec)

/-- 'laws.FnExactPassed', WHERE WHAT IT READS IS OF BULK AT MOST 1048576: true; the input reads as it did. -/
def fnExactPassedUptoRow : OpenClaim := { program := "ytnbfkkmjehhihaa", sum := "45d84a442571ac8eefe81e9186576a9a7291ca5b99b53aca228b8ace452ad2b9", func := "loop.example/g00075/laws.FnExactPassed", spec := "fnExactPassed", unfollowed := true, recurses := true, apart := false, narrowed := true }
def FnExactPassedUptoSaid : Prop := fnExactPassedUptoRow.holds Try.pinned (OpenSpec.upto fnExactPassedSpec)

end Rows
end Go.Proofs.Ytnbfkkmjehhihaa
