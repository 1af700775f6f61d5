/-
  No cell of these rows narrows 'for every input' (looked for: loops, veiled, ifaces, maps, wideKeys, modest, calm, conditions, laid).
  DERIVED. THE GIVEN ROWS OF THIS SEAT. 9 by the template 'for every input the law returns true; each argument reads behind the call as it read before'; 0 by the template 'total and deterministic' (their statements: YtipechbhhpagiaaTotals.lean).
  GIVEN WITH THE SEED: the statements are not yours to turn. If you find one false, say at which input.
  Laid BY PROGRAM, IN A SANDBOX (cutbox-rows.mjs): the forced cells as the released guide's own fill.sh prints them over the translation c776f7bc96f16e61… (all of the seat's roots in one cut). By AI agents, Wed Nov 11 2026. No macro, syntax, notation, axiom, sorry.
-/
import Derived.Test.YtipechbhhpagiaaChecked
import GoSem.Claim
import GoSem.ClaimJoined
import GoSem.ClaimMapViews
import Derived.JoinedTies
import Derived.KernelRfl
namespace Go.Proofs.Ytipechbhhpagiaa
/- THE CELL 'sum', in the pinned program and in every row, IS THE sha256 OF THE DUMP (.gsa) THAT YtipechbhhpagiaaProg.lean LOADS. Nothing in Lean hashes anything: it is a label: what it is worth is what the hold of that sum in a sandbox is worth. -/
noncomputable def Try.pinned : Pinned := { name := "ytipechbhhpagiaa", sum := "c776f7bc96f16e61cdcd389fd960ff2350b73f0ecd5818ed4a96650c94316952", checked := Try.checked }
namespace Rows
def none {H : Type} : Left H := { results := [], args := [] }

/-- 'laws.FnShunt': WHATEVER THE INPUT: true; the input reads as it did. -/
def fnShuntSpec : ChangeSpec := { name := "fnShunt", fn := fun _ => fun
  | [d] => { results := [.lit (.bool true)], args := [d] }
  | _ => none }
def fnShuntRow : OpenClaim := { program := "ytipechbhhpagiaa", sum := "c776f7bc96f16e61cdcd389fd960ff2350b73f0ecd5818ed4a96650c94316952", func := "loop.example/g00075/laws.FnShunt", spec := "fnShunt", unfollowed := true, recurses := true, apart := false }
def FnShuntSaid : Prop := fnShuntRow.holds Try.pinned (OpenSpec.ofChange fnShuntSpec)

/-- ITS FALSE NEIGHBOUR: 'it returns false'. Refute it at one input. -/
def fnShuntWrong : ChangeSpec := { name := "fnShunt", fn := fun _ => fun
  | [d] => { results := [.lit (.bool false)], args := [d] }
  | _ => none }
def FnShuntWrongFalsely : Prop := fnShuntRow.holds Try.pinned (OpenSpec.ofChange fnShuntWrong)

/-- 'laws.FnHump': WHATEVER THE INPUT: true; the input reads as it did. -/
def fnHumpSpec : ChangeSpec := { name := "fnHump", fn := fun _ => fun
  | [d] => { results := [.lit (.bool true)], args := [d] }
  | _ => none }
def fnHumpRow : OpenClaim := { program := "ytipechbhhpagiaa", sum := "c776f7bc96f16e61cdcd389fd960ff2350b73f0ecd5818ed4a96650c94316952", func := "loop.example/g00075/laws.FnHump", spec := "fnHump", unfollowed := true, recurses := true, apart := false }
def FnHumpSaid : Prop := fnHumpRow.holds Try.pinned (OpenSpec.ofChange fnHumpSpec)

/-- ITS FALSE NEIGHBOUR: 'it returns false'. Refute it at one input. -/
def fnHumpWrong : ChangeSpec := { name := "fnHump", fn := fun _ => fun
  | [d] => { results := [.lit (.bool false)], args := [d] }
  | _ => none }
def FnHumpWrongFalsely : Prop := fnHumpRow.holds Try.pinned (OpenSpec.ofChange fnHumpWrong)

/-- 'laws.FnExactSidingsOk': WHATEVER THE INPUT: true; the input reads as it did. -/
def fnExactSidingsOkSpec : ChangeSpec := { name := "fnExactSidingsOk", fn := fun _ => fun
  | [d] => { results := [.lit (.bool true)], args := [d] }
  | _ => none }
def fnExactSidingsOkRow : OpenClaim := { program := "ytipechbhhpagiaa", sum := "c776f7bc96f16e61cdcd389fd960ff2350b73f0ecd5818ed4a96650c94316952", func := "loop.example/g00075/laws.FnExactSidingsOk", spec := "fnExactSidingsOk", unfollowed := true, recurses := true, apart := false }
def FnExactSidingsOkSaid : Prop := fnExactSidingsOkRow.holds Try.pinned (OpenSpec.ofChange fnExactSidingsOkSpec)

/-- ITS FALSE NEIGHBOUR: 'it returns false'. Refute it at one input. -/
def fnExactSidingsOkWrong : ChangeSpec := { name := "fnExactSidingsOk", fn := fun _ => fun
  | [d] => { results := [.lit (.bool false)], args := [d] }
  | _ => none }
def FnExactSidingsOkWrongFalsely : Prop := fnExactSidingsOkRow.holds Try.pinned (OpenSpec.ofChange fnExactSidingsOkWrong)

/-- 'laws.FnExactShuntOne': WHATEVER THE INPUT: true; the input reads as it did. -/
def fnExactShuntOneSpec : ChangeSpec := { name := "fnExactShuntOne", fn := fun _ => fun
  | [d1, d2] => { results := [.lit (.bool true)], args := [d1, d2] }
  | _ => none }
def fnExactShuntOneRow : OpenClaim := { program := "ytipechbhhpagiaa", sum := "c776f7bc96f16e61cdcd389fd960ff2350b73f0ecd5818ed4a96650c94316952", func := "loop.example/g00075/laws.FnExactShuntOne", spec := "fnExactShuntOne", unfollowed := true, recurses := true, apart := false }
def FnExactShuntOneSaid : Prop := fnExactShuntOneRow.holds Try.pinned (OpenSpec.ofChange fnExactShuntOneSpec)

/-- ITS FALSE NEIGHBOUR: 'it returns false'. Refute it at one input. -/
def fnExactShuntOneWrong : ChangeSpec := { name := "fnExactShuntOne", fn := fun _ => fun
  | [d1, d2] => { results := [.lit (.bool false)], args := [d1, d2] }
  | _ => none }
def FnExactShuntOneWrongFalsely : Prop := fnExactShuntOneRow.holds Try.pinned (OpenSpec.ofChange fnExactShuntOneWrong)

/-- 'laws.FnExactPlayShunts': WHATEVER THE INPUT: true; the input reads as it did. -/
def fnExactPlayShuntsSpec : ChangeSpec := { name := "fnExactPlayShunts", fn := fun _ => fun
  | [d1, d2] => { results := [.lit (.bool true)], args := [d1, d2] }
  | _ => none }
def fnExactPlayShuntsRow : OpenClaim := { program := "ytipechbhhpagiaa", sum := "c776f7bc96f16e61cdcd389fd960ff2350b73f0ecd5818ed4a96650c94316952", func := "loop.example/g00075/laws.FnExactPlayShunts", spec := "fnExactPlayShunts", unfollowed := true, recurses := true, apart := false }
def FnExactPlayShuntsSaid : Prop := fnExactPlayShuntsRow.holds Try.pinned (OpenSpec.ofChange fnExactPlayShuntsSpec)

/-- ITS FALSE NEIGHBOUR: 'it returns false'. Refute it at one input. -/
def fnExactPlayShuntsWrong : ChangeSpec := { name := "fnExactPlayShunts", fn := fun _ => fun
  | [d1, d2] => { results := [.lit (.bool false)], args := [d1, d2] }
  | _ => none }
def FnExactPlayShuntsWrongFalsely : Prop := fnExactPlayShuntsRow.holds Try.pinned (OpenSpec.ofChange fnExactPlayShuntsWrong)

/-- 'laws.FnExactUndo': WHATEVER THE INPUT: true; the input reads as it did. -/
def fnExactUndoSpec : ChangeSpec := { name := "fnExactUndo", fn := fun _ => fun
  | [d] => { results := [.lit (.bool true)], args := [d] }
  | _ => none }
def fnExactUndoRow : OpenClaim := { program := "ytipechbhhpagiaa", sum := "c776f7bc96f16e61cdcd389fd960ff2350b73f0ecd5818ed4a96650c94316952", func := "loop.example/g00075/laws.FnExactUndo", spec := "fnExactUndo", apart := false }
def FnExactUndoSaid : Prop := fnExactUndoRow.holds Try.pinned (OpenSpec.ofChange fnExactUndoSpec)

/-- ITS FALSE NEIGHBOUR: 'it returns false'. Refute it at one input. -/
def fnExactUndoWrong : ChangeSpec := { name := "fnExactUndo", fn := fun _ => fun
  | [d] => { results := [.lit (.bool false)], args := [d] }
  | _ => none }
def FnExactUndoWrongFalsely : Prop := fnExactUndoRow.holds Try.pinned (OpenSpec.ofChange fnExactUndoWrong)

/-- 'laws.FnExactHumpPass': WHATEVER THE INPUT: true; the input reads as it did. -/
def fnExactHumpPassSpec : ChangeSpec := { name := "fnExactHumpPass", fn := fun _ => fun
  | [d1, d2, d3] => { results := [.lit (.bool true)], args := [d1, d2, d3] }
  | _ => none }
def fnExactHumpPassRow : OpenClaim := { program := "ytipechbhhpagiaa", sum := "c776f7bc96f16e61cdcd389fd960ff2350b73f0ecd5818ed4a96650c94316952", func := "loop.example/g00075/laws.FnExactHumpPass", spec := "fnExactHumpPass", unfollowed := true, recurses := true, apart := false }
def FnExactHumpPassSaid : Prop := fnExactHumpPassRow.holds Try.pinned (OpenSpec.ofChange fnExactHumpPassSpec)

/-- ITS FALSE NEIGHBOUR: 'it returns false'. Refute it at one input. -/
def fnExactHumpPassWrong : ChangeSpec := { name := "fnExactHumpPass", fn := fun _ => fun
  | [d1, d2, d3] => { results := [.lit (.bool false)], args := [d1, d2, d3] }
  | _ => none }
def FnExactHumpPassWrongFalsely : Prop := fnExactHumpPassRow.holds Try.pinned (OpenSpec.ofChange fnExactHumpPassWrong)

/-- 'laws.FnExactHumpSort': WHATEVER THE INPUT: true; the input reads as it did. -/
def fnExactHumpSortSpec : ChangeSpec := { name := "fnExactHumpSort", fn := fun _ => fun
  | [d1, d2] => { results := [.lit (.bool true)], args := [d1, d2] }
  | _ => none }
def fnExactHumpSortRow : OpenClaim := { program := "ytipechbhhpagiaa", sum := "c776f7bc96f16e61cdcd389fd960ff2350b73f0ecd5818ed4a96650c94316952", func := "loop.example/g00075/laws.FnExactHumpSort", spec := "fnExactHumpSort", unfollowed := true, recurses := true, apart := false }
def FnExactHumpSortSaid : Prop := fnExactHumpSortRow.holds Try.pinned (OpenSpec.ofChange fnExactHumpSortSpec)

/-- ITS FALSE NEIGHBOUR: 'it returns false'. Refute it at one input. -/
def fnExactHumpSortWrong : ChangeSpec := { name := "fnExactHumpSort", fn := fun _ => fun
  | [d1, d2] => { results := [.lit (.bool false)], args := [d1, d2] }
  | _ => none }
def FnExactHumpSortWrongFalsely : Prop := fnExactHumpSortRow.holds Try.pinned (OpenSpec.ofChange fnExactHumpSortWrong)

/-- 'laws.FnExactInversions': WHATEVER THE INPUT: true; the input reads as it did. -/
def fnExactInversionsSpec : ChangeSpec := { name := "fnExactInversions", fn := fun _ => fun
  | [d] => { results := [.lit (.bool true)], args := [d] }
  | _ => none }
def fnExactInversionsRow : OpenClaim := { program := "ytipechbhhpagiaa", sum := "c776f7bc96f16e61cdcd389fd960ff2350b73f0ecd5818ed4a96650c94316952", func := "loop.example/g00075/laws.FnExactInversions", spec := "fnExactInversions", unfollowed := true, recurses := true, apart := false }
def FnExactInversionsSaid : Prop := fnExactInversionsRow.holds Try.pinned (OpenSpec.ofChange fnExactInversionsSpec)

/-- ITS FALSE NEIGHBOUR: 'it returns false'. Refute it at one input. -/
def fnExactInversionsWrong : ChangeSpec := { name := "fnExactInversions", fn := fun _ => fun
  | [d] => { results := [.lit (.bool false)], args := [d] }
  | _ => none }
def FnExactInversionsWrongFalsely : Prop := fnExactInversionsRow.holds Try.pinned (OpenSpec.ofChange fnExactInversionsWrong)

/- THE SECOND FORM. 'bulk': how many values and letters a reading holds, each counted each time it is reached (what is shared counts as often as it is met; a slice's spare places count too). A statement '..UptoSaid' is the law's where the arguments, and the package variables that the reading takes, are together of bulk at most 1048576: NARROWER than '..Said'. Prove '..Said' where nothing that the law and all that it calls make is longer than what came in: it says more and counts as full. Else prove '..UptoSaid'. A law counts once. -/
mutual
def uptoBulk {H : Type} : DataW H → Nat
  | .lit (.string bytes) => bytes.length + 1
  | .lit _ => 1
  | .nil => 1
  | .ptr d => uptoBulk d + 1
  | .slice elems spare => uptoBulkAll elems + uptoBulkAll spare + 1
  | .agg parts => uptoBulkAll parts + 1
  | .iface _ d => uptoBulk d + 1
  | .map entries => uptoBulkEntries entries + 1
  | .held _ => 1
def uptoBulkAll {H : Type} : List (DataW H) → Nat
  | [] => 0
  | d :: r => uptoBulk d + uptoBulkAll r
def uptoBulkEntries {H : Type} : List (Lit × DataW H) → Nat
  | [] => 0
  | x :: r => uptoBulkEntry x + uptoBulkEntries r
def uptoBulkEntry {H : Type} : Lit × DataW H → Nat
  | (.string bytes, d) => bytes.length + uptoBulk d + 1
  | (_, d) => uptoBulk d + 1
 end
def uptoSmall : (H : Type) → List (DataW H) → Bool := fun _ ds => decide (uptoBulkAll ds ≤ 1048576)
def OpenSpec.upto (s : _root_.Go.ChangeSpec) : _root_.Go.OpenSpec := { _root_.Go.OpenSpec.ofChange s with cond := some uptoSmall }

/-- 'laws.FnShunt', WHERE WHAT IT READS IS OF BULK AT MOST 1048576: true; the input reads as it did. -/
def fnShuntUptoRow : OpenClaim := { program := "ytipechbhhpagiaa", sum := "c776f7bc96f16e61cdcd389fd960ff2350b73f0ecd5818ed4a96650c94316952", func := "loop.example/g00075/laws.FnShunt", spec := "fnShunt", unfollowed := true, recurses := true, apart := false, narrowed := true }
def FnShuntUptoSaid : Prop := fnShuntUptoRow.holds Try.pinned (OpenSpec.upto fnShuntSpec)

/-- 'laws.FnHump', WHERE WHAT IT READS IS OF BULK AT MOST 1048576: true; the input reads as it did. -/
def fnHumpUptoRow : OpenClaim := { program := "ytipechbhhpagiaa", sum := "c776f7bc96f16e61cdcd389fd960ff2350b73f0ecd5818ed4a96650c94316952", func := "loop.example/g00075/laws.FnHump", spec := "fnHump", unfollowed := true, recurses := true, apart := false, narrowed := true }
def FnHumpUptoSaid : Prop := fnHumpUptoRow.holds Try.pinned (OpenSpec.upto fnHumpSpec)

/-- 'laws.FnExactSidingsOk', WHERE WHAT IT READS IS OF BULK AT MOST 1048576: true; the input reads as it did. -/
def fnExactSidingsOkUptoRow : OpenClaim := { program := "ytipechbhhpagiaa", sum := "c776f7bc96f16e61cdcd389fd960ff2350b73f0ecd5818ed4a96650c94316952", func := "loop.example/g00075/laws.FnExactSidingsOk", spec := "fnExactSidingsOk", unfollowed := true, recurses := true, apart := false, narrowed := true }
def FnExactSidingsOkUptoSaid : Prop := fnExactSidingsOkUptoRow.holds Try.pinned (OpenSpec.upto fnExactSidingsOkSpec)

/-- 'laws.FnExactShuntOne', WHERE WHAT IT READS IS OF BULK AT MOST 1048576: true; the input reads as it did. -/
def fnExactShuntOneUptoRow : OpenClaim := { program := "ytipechbhhpagiaa", sum := "c776f7bc96f16e61cdcd389fd960ff2350b73f0ecd5818ed4a96650c94316952", func := "loop.example/g00075/laws.FnExactShuntOne", spec := "fnExactShuntOne", unfollowed := true, recurses := true, apart := false, narrowed := true }
def FnExactShuntOneUptoSaid : Prop := fnExactShuntOneUptoRow.holds Try.pinned (OpenSpec.upto fnExactShuntOneSpec)

/-- 'laws.FnExactPlayShunts', WHERE WHAT IT READS IS OF BULK AT MOST 1048576: true; the input reads as it did. -/
def fnExactPlayShuntsUptoRow : OpenClaim := { program := "ytipechbhhpagiaa", sum := "c776f7bc96f16e61cdcd389fd960ff2350b73f0ecd5818ed4a96650c94316952", func := "loop.example/g00075/laws.FnExactPlayShunts", spec := "fnExactPlayShunts", unfollowed := true, recurses := true, apart := false, narrowed := true }
def FnExactPlayShuntsUptoSaid : Prop := fnExactPlayShuntsUptoRow.holds Try.pinned (OpenSpec.upto fnExactPlayShuntsSpec)

/-- 'laws.FnExactUndo', WHERE WHAT IT READS IS OF BULK AT MOST 1048576: true; the input reads as it did. -/
def fnExactUndoUptoRow : OpenClaim := { program := "ytipechbhhpagiaa", sum := "c776f7bc96f16e61cdcd389fd960ff2350b73f0ecd5818ed4a96650c94316952", func := "loop.example/g00075/laws.FnExactUndo", spec := "fnExactUndo", apart := false, narrowed := true }
def FnExactUndoUptoSaid : Prop := fnExactUndoUptoRow.holds Try.pinned (OpenSpec.upto fnExactUndoSpec)

/-- 'laws.FnExactHumpPass', WHERE WHAT IT READS IS OF BULK AT MOST 1048576: true; the input reads as it did. -/
def fnExactHumpPassUptoRow : OpenClaim := { program := "ytipechbhhpagiaa", sum := "c776f7bc96f16e61cdcd389fd960ff2350b73f0ecd5818ed4a96650c94316952", func := "loop.example/g00075/laws.FnExactHumpPass", spec := "fnExactHumpPass", unfollowed := true, recurses := true, apart := false, narrowed := true }
def FnExactHumpPassUptoSaid : Prop := fnExactHumpPassUptoRow.holds Try.pinned (OpenSpec.upto fnExactHumpPassSpec)

/-- 'laws.FnExactHumpSort', WHERE WHAT IT READS IS OF BULK AT MOST 1048576: true; the input reads as it did. -/
def fnExactHumpSortUptoRow : OpenClaim := { program := "ytipechbhhpagiaa", sum := "c776f7bc96f16e61cdcd389fd960ff2350b73f0ecd5818ed4a96650c94316952", func := "loop.example/g00075/laws.FnExactHumpSort", spec := "fnExactHumpSort", unfollowed := true, recurses := true, apart := false, narrowed := true }
def FnExactHumpSortUptoSaid : Prop := fnExactHumpSortUptoRow.holds Try.pinned (OpenSpec.upto fnExactHumpSortSpec)

/-- 'laws.FnExactInversions', WHERE WHAT IT READS IS OF BULK AT MOST 1048576: true; the input reads as it did. -/
def fnExactInversionsUptoRow : OpenClaim := { program := "ytipechbhhpagiaa", sum := "c776f7bc96f16e61cdcd389fd960ff2350b73f0ecd5818ed4a96650c94316952", func := "loop.example/g00075/laws.FnExactInversions", spec := "fnExactInversions", unfollowed := true, recurses := true, apart := false, narrowed := true }
def FnExactInversionsUptoSaid : Prop := fnExactInversionsUptoRow.holds Try.pinned (OpenSpec.upto fnExactInversionsSpec)

end Rows
end Go.Proofs.Ytipechbhhpagiaa
