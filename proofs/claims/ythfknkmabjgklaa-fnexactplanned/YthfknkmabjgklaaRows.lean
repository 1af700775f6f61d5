/-
  No cell of these rows narrows 'for every input' (looked for: loops, veiled, ifaces, maps, wideKeys, modest, calm, conditions, laid).
  DERIVED. THE GIVEN ROWS OF THIS SEAT. 3 by the template 'for every input the law returns true; each argument reads behind the call as it read before'; 0 by the template 'total and deterministic' (their statements: YthfknkmabjgklaaTotals.lean).
  GIVEN WITH THE SEED: the statements are not yours to turn. If you find one false, say at which input.
  Laid BY PROGRAM, IN A SANDBOX (cutbox-rows.mjs): the forced cells as the released guide's own fill.sh prints them over the translation e213294aa6add3cd… (all of the seat's roots in one cut). By AI agents, Wed Nov 11 2026. No macro, syntax, notation, axiom, sorry.
-/
import Derived.Test.YthfknkmabjgklaaChecked
import GoSem.Claim
import GoSem.ClaimJoined
import GoSem.ClaimMapViews
import Derived.JoinedTies
import Derived.KernelRfl
namespace Go.Proofs.Ythfknkmabjgklaa
/- THE CELL 'sum', in the pinned program and in every row, IS THE sha256 OF THE DUMP (.gsa) THAT YthfknkmabjgklaaProg.lean LOADS. Nothing in Lean hashes anything: it is a label: what it is worth is what the hold of that sum in a sandbox is worth. -/
noncomputable def Try.pinned : Pinned := { name := "ythfknkmabjgklaa", sum := "e213294aa6add3cd2fc85a9ef78382e683b35fc54a1f5d3ef7de3bd33cbb646f", checked := Try.checked }
namespace Rows
def none {H : Type} : Left H := { results := [], args := [] }

/-- 'laws.FnExactDayOk': WHATEVER THE INPUT: true; the input reads as it did. -/
def fnExactDayOkSpec : ChangeSpec := { name := "fnExactDayOk", fn := fun _ => fun
  | [d1, d2, d3] => { results := [.lit (.bool true)], args := [d1, d2, d3] }
  | _ => none }
def fnExactDayOkRow : OpenClaim := { program := "ythfknkmabjgklaa", sum := "e213294aa6add3cd2fc85a9ef78382e683b35fc54a1f5d3ef7de3bd33cbb646f", func := "loop.example/g00075/laws.FnExactDayOk", spec := "fnExactDayOk", inPlace := ["internal/bytealg.abigen_runtime_cmpstring"], unfollowed := true, recurses := true, apart := false }
def FnExactDayOkSaid : Prop := fnExactDayOkRow.holds Try.pinned (OpenSpec.ofChange fnExactDayOkSpec)

/-- ITS FALSE NEIGHBOUR: 'it returns false'. Refute it at one input. -/
def fnExactDayOkWrong : ChangeSpec := { name := "fnExactDayOk", fn := fun _ => fun
  | [d1, d2, d3] => { results := [.lit (.bool false)], args := [d1, d2, d3] }
  | _ => none }
def FnExactDayOkWrongFalsely : Prop := fnExactDayOkRow.holds Try.pinned (OpenSpec.ofChange fnExactDayOkWrong)

/-- 'laws.FnExactPlanned': WHATEVER THE INPUT: true; the input reads as it did. -/
def fnExactPlannedSpec : ChangeSpec := { name := "fnExactPlanned", fn := fun _ => fun
  | [d1, d2] => { results := [.lit (.bool true)], args := [d1, d2] }
  | _ => none }
def fnExactPlannedRow : OpenClaim := { program := "ythfknkmabjgklaa", sum := "e213294aa6add3cd2fc85a9ef78382e683b35fc54a1f5d3ef7de3bd33cbb646f", func := "loop.example/g00075/laws.FnExactPlanned", spec := "fnExactPlanned", inPlace := ["internal/bytealg.abigen_runtime_cmpstring"], unfollowed := true, recurses := true, apart := false }
def FnExactPlannedSaid : Prop := fnExactPlannedRow.holds Try.pinned (OpenSpec.ofChange fnExactPlannedSpec)

/-- ITS FALSE NEIGHBOUR: 'it returns false'. Refute it at one input. -/
def fnExactPlannedWrong : ChangeSpec := { name := "fnExactPlanned", fn := fun _ => fun
  | [d1, d2] => { results := [.lit (.bool false)], args := [d1, d2] }
  | _ => none }
def FnExactPlannedWrongFalsely : Prop := fnExactPlannedRow.holds Try.pinned (OpenSpec.ofChange fnExactPlannedWrong)

/-- 'laws.FnExactApart': WHATEVER THE INPUT: true; the input reads as it did. -/
def fnExactApartSpec : ChangeSpec := { name := "fnExactApart", fn := fun _ => fun
  | [d1, d2, d3] => { results := [.lit (.bool true)], args := [d1, d2, d3] }
  | _ => none }
def fnExactApartRow : OpenClaim := { program := "ythfknkmabjgklaa", sum := "e213294aa6add3cd2fc85a9ef78382e683b35fc54a1f5d3ef7de3bd33cbb646f", func := "loop.example/g00075/laws.FnExactApart", spec := "fnExactApart", inPlace := ["internal/bytealg.abigen_runtime_cmpstring"], unfollowed := true, recurses := true, apart := false }
def FnExactApartSaid : Prop := fnExactApartRow.holds Try.pinned (OpenSpec.ofChange fnExactApartSpec)

/-- ITS FALSE NEIGHBOUR: 'it returns false'. Refute it at one input. -/
def fnExactApartWrong : ChangeSpec := { name := "fnExactApart", fn := fun _ => fun
  | [d1, d2, d3] => { results := [.lit (.bool false)], args := [d1, d2, d3] }
  | _ => none }
def FnExactApartWrongFalsely : Prop := fnExactApartRow.holds Try.pinned (OpenSpec.ofChange fnExactApartWrong)

/- THE SECOND FORM. 'bulk': how many values and letters a reading holds, each counted each time it is reached (what is shared counts as often as it is met; a slice's spare places count too). A statement '..UptoSaid' is the law's where the arguments, and the package variables that the reading takes, are together of bulk at most 1048576: NARROWER than '..Said'. Prove '..Said' where nothing that the law and all that it calls make is longer than what came in: it says more and counts as full. Else prove '..UptoSaid'. A law counts once. -/
mutual
def uptoBulk {H : Type} : DataW H → Nat
  | .lit (.string bytes) => bytes.length + 1
  | .lit _ => 1
  | .nil => 1
  | .ptr d => uptoBulk d + 1
  | .slice elems spare => uptoBulkAll elems + uptoBulkAll spare + 1
  | .agg parts => uptoBulkAll parts + 1
  | .iface _ d => uptoBulk d + 1
  | .map entries => uptoBulkEntries entries + 1
  | .held _ => 1
def uptoBulkAll {H : Type} : List (DataW H) → Nat
  | [] => 0
  | d :: r => uptoBulk d + uptoBulkAll r
def uptoBulkEntries {H : Type} : List (Lit × DataW H) → Nat
  | [] => 0
  | x :: r => uptoBulkEntry x + uptoBulkEntries r
def uptoBulkEntry {H : Type} : Lit × DataW H → Nat
  | (.string bytes, d) => bytes.length + uptoBulk d + 1
  | (_, d) => uptoBulk d + 1
 end
def uptoSmall : (H : Type) → List (DataW H) → Bool := fun _ ds => decide (uptoBulkAll ds ≤ 1048576)
def OpenSpec.upto (s : _root_.Go.ChangeSpec) : _root_.Go.OpenSpec := { _root_.Go.OpenSpec.ofChange s with cond := some uptoSmall }

/-- 'laws.FnExactDayOk', WHERE WHAT IT READS IS OF BULK AT MOST 1048576: true; the input reads as it did. -/
def fnExactDayOkUptoRow : OpenClaim := { program := "ythfknkmabjgklaa", sum := "e213294aa6add3cd2fc85a9ef78382e683b35fc54a1f5d3ef7de3bd33cbb646f", func := "loop.example/g00075/laws.FnExactDayOk", spec := "fnExactDayOk", inPlace := ["internal/bytealg.abigen_runtime_cmpstring"], unfollowed := true, recurses := true, apart := false, narrowed := true }
def FnExactDayOkUptoSaid : Prop := fnExactDayOkUptoRow.holds Try.pinned (OpenSpec.upto fnExactDayOkSpec)

/-- 'laws.FnExactPlanned', WHERE WHAT IT READS IS OF BULK AT MOST 1048576: true; the input reads as it did. -/
def fnExactPlannedUptoRow : OpenClaim := { program := "ythfknkmabjgklaa", sum := "e213294aa6add3cd2fc85a9ef78382e683b35fc54a1f5d3ef7de3bd33cbb646f", func := "loop.example/g00075/laws.FnExactPlanned", spec := "fnExactPlanned", inPlace := ["internal/bytealg.abigen_runtime_cmpstring"], unfollowed := true, recurses := true, apart := false, narrowed := true }
def FnExactPlannedUptoSaid : Prop := fnExactPlannedUptoRow.holds Try.pinned (OpenSpec.upto fnExactPlannedSpec)

/-- 'laws.FnExactApart', WHERE WHAT IT READS IS OF BULK AT MOST 1048576: true; the input reads as it did. -/
def fnExactApartUptoRow : OpenClaim := { program := "ythfknkmabjgklaa", sum := "e213294aa6add3cd2fc85a9ef78382e683b35fc54a1f5d3ef7de3bd33cbb646f", func := "loop.example/g00075/laws.FnExactApart", spec := "fnExactApart", inPlace := ["internal/bytealg.abigen_runtime_cmpstring"], unfollowed := true, recurses := true, apart := false, narrowed := true }
def FnExactApartUptoSaid : Prop := fnExactApartUptoRow.holds Try.pinned (OpenSpec.upto fnExactApartSpec)

end Rows
end Go.Proofs.Ythfknkmabjgklaa
