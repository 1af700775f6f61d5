/-
  No cell of these rows narrows 'for every input' (looked for: loops, veiled, ifaces, maps, wideKeys, modest, calm, conditions, laid).
  DERIVED. THE GIVEN ROWS OF THIS SEAT. 13 by the template 'for every input the law returns true; each argument reads behind the call as it read before'; 0 by the template 'total and deterministic' (their statements: YtapnidhokpkmdaaTotals.lean).
  GIVEN WITH THE SEED: the statements are not yours to turn. If you find one false, say at which input.
  Laid BY PROGRAM, IN A SANDBOX (cutbox-rows.mjs): the forced cells as the released guide's own fill.sh prints them over the translation 23b91d3681fddfcf… (all of the seat's roots in one cut). By AI agents, Wed Nov 11 2026. No macro, syntax, notation, axiom, sorry.
-/
import Derived.Test.YtapnidhokpkmdaaChecked
import GoSem.Claim
import GoSem.ClaimJoined
import GoSem.ClaimMapViews
import Derived.JoinedTies
import Derived.KernelRfl
namespace Go.Proofs.Ytapnidhokpkmdaa
/- THE CELL 'sum', in the pinned program and in every row, IS THE sha256 OF THE DUMP (.gsa) THAT YtapnidhokpkmdaaProg.lean LOADS. Nothing in Lean hashes anything: it is a label: what it is worth is what the hold of that sum in a sandbox is worth. -/
noncomputable def Try.pinned : Pinned := { name := "ytapnidhokpkmdaa", sum := "23b91d3681fddfcf4ae1f8c36f31bd67ae185123fd5d5e20387417b35640d7f1", checked := Try.checked }
namespace Rows
def none {H : Type} : Left H := { results := [], args := [] }

/-- 'laws.FnWire': WHATEVER THE INPUT: true; the input reads as it did. -/
def fnWireSpec : ChangeSpec := { name := "fnWire", fn := fun _ => fun
  | [d] => { results := [.lit (.bool true)], args := [d] }
  | _ => none }
def fnWireRow : OpenClaim := { program := "ytapnidhokpkmdaa", sum := "23b91d3681fddfcf4ae1f8c36f31bd67ae185123fd5d5e20387417b35640d7f1", func := "loop.example/g00075/laws.FnWire", spec := "fnWire", unfollowed := true, recurses := true, apart := false }
def FnWireSaid : Prop := fnWireRow.holds Try.pinned (OpenSpec.ofChange fnWireSpec)

/-- ITS FALSE NEIGHBOUR: 'it returns false'. Refute it at one input. -/
def fnWireWrong : ChangeSpec := { name := "fnWire", fn := fun _ => fun
  | [d] => { results := [.lit (.bool false)], args := [d] }
  | _ => none }
def FnWireWrongFalsely : Prop := fnWireRow.holds Try.pinned (OpenSpec.ofChange fnWireWrong)

/-- 'laws.FnComplex': WHATEVER THE INPUT: true; the input reads as it did. -/
def fnComplexSpec : ChangeSpec := { name := "fnComplex", fn := fun _ => fun
  | [d] => { results := [.lit (.bool true)], args := [d] }
  | _ => none }
def fnComplexRow : OpenClaim := { program := "ytapnidhokpkmdaa", sum := "23b91d3681fddfcf4ae1f8c36f31bd67ae185123fd5d5e20387417b35640d7f1", func := "loop.example/g00075/laws.FnComplex", spec := "fnComplex", apart := false }
def FnComplexSaid : Prop := fnComplexRow.holds Try.pinned (OpenSpec.ofChange fnComplexSpec)

/-- ITS FALSE NEIGHBOUR: 'it returns false'. Refute it at one input. -/
def fnComplexWrong : ChangeSpec := { name := "fnComplex", fn := fun _ => fun
  | [d] => { results := [.lit (.bool false)], args := [d] }
  | _ => none }
def FnComplexWrongFalsely : Prop := fnComplexRow.holds Try.pinned (OpenSpec.ofChange fnComplexWrong)

/-- 'laws.FnPhases': WHATEVER THE INPUT: true; the input reads as it did. -/
def fnPhasesSpec : ChangeSpec := { name := "fnPhases", fn := fun _ => fun
  | [d] => { results := [.lit (.bool true)], args := [d] }
  | _ => none }
def fnPhasesRow : OpenClaim := { program := "ytapnidhokpkmdaa", sum := "23b91d3681fddfcf4ae1f8c36f31bd67ae185123fd5d5e20387417b35640d7f1", func := "loop.example/g00075/laws.FnPhases", spec := "fnPhases", unfollowed := true, recurses := true, apart := false }
def FnPhasesSaid : Prop := fnPhasesRow.holds Try.pinned (OpenSpec.ofChange fnPhasesSpec)

/-- ITS FALSE NEIGHBOUR: 'it returns false'. Refute it at one input. -/
def fnPhasesWrong : ChangeSpec := { name := "fnPhases", fn := fun _ => fun
  | [d] => { results := [.lit (.bool false)], args := [d] }
  | _ => none }
def FnPhasesWrongFalsely : Prop := fnPhasesRow.holds Try.pinned (OpenSpec.ofChange fnPhasesWrong)

/-- 'laws.FnExactZAdd': WHATEVER THE INPUT: true; the input reads as it did. -/
def fnExactZAddSpec : ChangeSpec := { name := "fnExactZAdd", fn := fun _ => fun
  | [d1, d2] => { results := [.lit (.bool true)], args := [d1, d2] }
  | _ => none }
def fnExactZAddRow : OpenClaim := { program := "ytapnidhokpkmdaa", sum := "23b91d3681fddfcf4ae1f8c36f31bd67ae185123fd5d5e20387417b35640d7f1", func := "loop.example/g00075/laws.FnExactZAdd", spec := "fnExactZAdd", apart := false }
def FnExactZAddSaid : Prop := fnExactZAddRow.holds Try.pinned (OpenSpec.ofChange fnExactZAddSpec)

/-- ITS FALSE NEIGHBOUR: 'it returns false'. Refute it at one input. -/
def fnExactZAddWrong : ChangeSpec := { name := "fnExactZAdd", fn := fun _ => fun
  | [d1, d2] => { results := [.lit (.bool false)], args := [d1, d2] }
  | _ => none }
def FnExactZAddWrongFalsely : Prop := fnExactZAddRow.holds Try.pinned (OpenSpec.ofChange fnExactZAddWrong)

/-- 'laws.FnExactZMul': WHATEVER THE INPUT: true; the input reads as it did. -/
def fnExactZMulSpec : ChangeSpec := { name := "fnExactZMul", fn := fun _ => fun
  | [d1, d2] => { results := [.lit (.bool true)], args := [d1, d2] }
  | _ => none }
def fnExactZMulRow : OpenClaim := { program := "ytapnidhokpkmdaa", sum := "23b91d3681fddfcf4ae1f8c36f31bd67ae185123fd5d5e20387417b35640d7f1", func := "loop.example/g00075/laws.FnExactZMul", spec := "fnExactZMul", apart := false }
def FnExactZMulSaid : Prop := fnExactZMulRow.holds Try.pinned (OpenSpec.ofChange fnExactZMulSpec)

/-- ITS FALSE NEIGHBOUR: 'it returns false'. Refute it at one input. -/
def fnExactZMulWrong : ChangeSpec := { name := "fnExactZMul", fn := fun _ => fun
  | [d1, d2] => { results := [.lit (.bool false)], args := [d1, d2] }
  | _ => none }
def FnExactZMulWrongFalsely : Prop := fnExactZMulRow.holds Try.pinned (OpenSpec.ofChange fnExactZMulWrong)

/-- 'laws.FnExactZSize': WHATEVER THE INPUT: true; the input reads as it did. -/
def fnExactZSizeSpec : ChangeSpec := { name := "fnExactZSize", fn := fun _ => fun
  | [d] => { results := [.lit (.bool true)], args := [d] }
  | _ => none }
def fnExactZSizeRow : OpenClaim := { program := "ytapnidhokpkmdaa", sum := "23b91d3681fddfcf4ae1f8c36f31bd67ae185123fd5d5e20387417b35640d7f1", func := "loop.example/g00075/laws.FnExactZSize", spec := "fnExactZSize", apart := false }
def FnExactZSizeSaid : Prop := fnExactZSizeRow.holds Try.pinned (OpenSpec.ofChange fnExactZSizeSpec)

/-- ITS FALSE NEIGHBOUR: 'it returns false'. Refute it at one input. -/
def fnExactZSizeWrong : ChangeSpec := { name := "fnExactZSize", fn := fun _ => fun
  | [d] => { results := [.lit (.bool false)], args := [d] }
  | _ => none }
def FnExactZSizeWrongFalsely : Prop := fnExactZSizeRow.holds Try.pinned (OpenSpec.ofChange fnExactZSizeWrong)

/-- 'laws.FnExactZDiv': WHATEVER THE INPUT: true; the input reads as it did. -/
def fnExactZDivSpec : ChangeSpec := { name := "fnExactZDiv", fn := fun _ => fun
  | [d1, d2] => { results := [.lit (.bool true)], args := [d1, d2] }
  | _ => none }
def fnExactZDivRow : OpenClaim := { program := "ytapnidhokpkmdaa", sum := "23b91d3681fddfcf4ae1f8c36f31bd67ae185123fd5d5e20387417b35640d7f1", func := "loop.example/g00075/laws.FnExactZDiv", spec := "fnExactZDiv", apart := false }
def FnExactZDivSaid : Prop := fnExactZDivRow.holds Try.pinned (OpenSpec.ofChange fnExactZDivSpec)

/-- ITS FALSE NEIGHBOUR: 'it returns false'. Refute it at one input. -/
def fnExactZDivWrong : ChangeSpec := { name := "fnExactZDiv", fn := fun _ => fun
  | [d1, d2] => { results := [.lit (.bool false)], args := [d1, d2] }
  | _ => none }
def FnExactZDivWrongFalsely : Prop := fnExactZDivRow.holds Try.pinned (OpenSpec.ofChange fnExactZDivWrong)

/-- 'laws.FnExactSums': WHATEVER THE INPUT: true; the input reads as it did. -/
def fnExactSumsSpec : ChangeSpec := { name := "fnExactSums", fn := fun _ => fun
  | [d] => { results := [.lit (.bool true)], args := [d] }
  | _ => none }
def fnExactSumsRow : OpenClaim := { program := "ytapnidhokpkmdaa", sum := "23b91d3681fddfcf4ae1f8c36f31bd67ae185123fd5d5e20387417b35640d7f1", func := "loop.example/g00075/laws.FnExactSums", spec := "fnExactSums", apart := false }
def FnExactSumsSaid : Prop := fnExactSumsRow.holds Try.pinned (OpenSpec.ofChange fnExactSumsSpec)

/-- ITS FALSE NEIGHBOUR: 'it returns false'. Refute it at one input. -/
def fnExactSumsWrong : ChangeSpec := { name := "fnExactSums", fn := fun _ => fun
  | [d] => { results := [.lit (.bool false)], args := [d] }
  | _ => none }
def FnExactSumsWrongFalsely : Prop := fnExactSumsRow.holds Try.pinned (OpenSpec.ofChange fnExactSumsWrong)

/-- 'laws.FnExactVolts': WHATEVER THE INPUT: true; the input reads as it did. -/
def fnExactVoltsSpec : ChangeSpec := { name := "fnExactVolts", fn := fun _ => fun
  | [d1, d2, d3] => { results := [.lit (.bool true)], args := [d1, d2, d3] }
  | _ => none }
def fnExactVoltsRow : OpenClaim := { program := "ytapnidhokpkmdaa", sum := "23b91d3681fddfcf4ae1f8c36f31bd67ae185123fd5d5e20387417b35640d7f1", func := "loop.example/g00075/laws.FnExactVolts", spec := "fnExactVolts", apart := false }
def FnExactVoltsSaid : Prop := fnExactVoltsRow.holds Try.pinned (OpenSpec.ofChange fnExactVoltsSpec)

/-- ITS FALSE NEIGHBOUR: 'it returns false'. Refute it at one input. -/
def fnExactVoltsWrong : ChangeSpec := { name := "fnExactVolts", fn := fun _ => fun
  | [d1, d2, d3] => { results := [.lit (.bool false)], args := [d1, d2, d3] }
  | _ => none }
def FnExactVoltsWrongFalsely : Prop := fnExactVoltsRow.holds Try.pinned (OpenSpec.ofChange fnExactVoltsWrong)

/-- 'laws.FnExactLosses': WHATEVER THE INPUT: true; the input reads as it did. -/
def fnExactLossesSpec : ChangeSpec := { name := "fnExactLosses", fn := fun _ => fun
  | [d1, d2] => { results := [.lit (.bool true)], args := [d1, d2] }
  | _ => none }
def fnExactLossesRow : OpenClaim := { program := "ytapnidhokpkmdaa", sum := "23b91d3681fddfcf4ae1f8c36f31bd67ae185123fd5d5e20387417b35640d7f1", func := "loop.example/g00075/laws.FnExactLosses", spec := "fnExactLosses", apart := false }
def FnExactLossesSaid : Prop := fnExactLossesRow.holds Try.pinned (OpenSpec.ofChange fnExactLossesSpec)

/-- ITS FALSE NEIGHBOUR: 'it returns false'. Refute it at one input. -/
def fnExactLossesWrong : ChangeSpec := { name := "fnExactLosses", fn := fun _ => fun
  | [d1, d2] => { results := [.lit (.bool false)], args := [d1, d2] }
  | _ => none }
def FnExactLossesWrongFalsely : Prop := fnExactLossesRow.holds Try.pinned (OpenSpec.ofChange fnExactLossesWrong)

/-- 'laws.FnExactLowest': WHATEVER THE INPUT: true; the input reads as it did. -/
def fnExactLowestSpec : ChangeSpec := { name := "fnExactLowest", fn := fun _ => fun
  | [d] => { results := [.lit (.bool true)], args := [d] }
  | _ => none }
def fnExactLowestRow : OpenClaim := { program := "ytapnidhokpkmdaa", sum := "23b91d3681fddfcf4ae1f8c36f31bd67ae185123fd5d5e20387417b35640d7f1", func := "loop.example/g00075/laws.FnExactLowest", spec := "fnExactLowest", apart := false }
def FnExactLowestSaid : Prop := fnExactLowestRow.holds Try.pinned (OpenSpec.ofChange fnExactLowestSpec)

/-- ITS FALSE NEIGHBOUR: 'it returns false'. Refute it at one input. -/
def fnExactLowestWrong : ChangeSpec := { name := "fnExactLowest", fn := fun _ => fun
  | [d] => { results := [.lit (.bool false)], args := [d] }
  | _ => none }
def FnExactLowestWrongFalsely : Prop := fnExactLowestRow.holds Try.pinned (OpenSpec.ofChange fnExactLowestWrong)

/-- 'laws.FnExactFed': WHATEVER THE INPUT: true; the input reads as it did. -/
def fnExactFedSpec : ChangeSpec := { name := "fnExactFed", fn := fun _ => fun
  | [d1, d2] => { results := [.lit (.bool true)], args := [d1, d2] }
  | _ => none }
def fnExactFedRow : OpenClaim := { program := "ytapnidhokpkmdaa", sum := "23b91d3681fddfcf4ae1f8c36f31bd67ae185123fd5d5e20387417b35640d7f1", func := "loop.example/g00075/laws.FnExactFed", spec := "fnExactFed", unfollowed := true, recurses := true, apart := false }
def FnExactFedSaid : Prop := fnExactFedRow.holds Try.pinned (OpenSpec.ofChange fnExactFedSpec)

/-- ITS FALSE NEIGHBOUR: 'it returns false'. Refute it at one input. -/
def fnExactFedWrong : ChangeSpec := { name := "fnExactFed", fn := fun _ => fun
  | [d1, d2] => { results := [.lit (.bool false)], args := [d1, d2] }
  | _ => none }
def FnExactFedWrongFalsely : Prop := fnExactFedRow.holds Try.pinned (OpenSpec.ofChange fnExactFedWrong)

/-- 'laws.FnExactPhases': WHATEVER THE INPUT: true; the input reads as it did. -/
def fnExactPhasesSpec : ChangeSpec := { name := "fnExactPhases", fn := fun _ => fun
  | [d1, d2] => { results := [.lit (.bool true)], args := [d1, d2] }
  | _ => none }
def fnExactPhasesRow : OpenClaim := { program := "ytapnidhokpkmdaa", sum := "23b91d3681fddfcf4ae1f8c36f31bd67ae185123fd5d5e20387417b35640d7f1", func := "loop.example/g00075/laws.FnExactPhases", spec := "fnExactPhases", unfollowed := true, recurses := true, apart := false }
def FnExactPhasesSaid : Prop := fnExactPhasesRow.holds Try.pinned (OpenSpec.ofChange fnExactPhasesSpec)

/-- ITS FALSE NEIGHBOUR: 'it returns false'. Refute it at one input. -/
def fnExactPhasesWrong : ChangeSpec := { name := "fnExactPhases", fn := fun _ => fun
  | [d1, d2] => { results := [.lit (.bool false)], args := [d1, d2] }
  | _ => none }
def FnExactPhasesWrongFalsely : Prop := fnExactPhasesRow.holds Try.pinned (OpenSpec.ofChange fnExactPhasesWrong)

/- THE SECOND FORM. 'bulk': how many values and letters a reading holds, each counted each time it is reached (what is shared counts as often as it is met; a slice's spare places count too). A statement '..UptoSaid' is the law's where the arguments, and the package variables that the reading takes, are together of bulk at most 1048576: NARROWER than '..Said'. Prove '..Said' where nothing that the law and all that it calls make is longer than what came in: it says more and counts as full. Else prove '..UptoSaid'. A law counts once. -/
mutual
def uptoBulk {H : Type} : DataW H → Nat
  | .lit (.string bytes) => bytes.length + 1
  | .lit _ => 1
  | .nil => 1
  | .ptr d => uptoBulk d + 1
  | .slice elems spare => uptoBulkAll elems + uptoBulkAll spare + 1
  | .agg parts => uptoBulkAll parts + 1
  | .iface _ d => uptoBulk d + 1
  | .map entries => uptoBulkEntries entries + 1
  | .held _ => 1
def uptoBulkAll {H : Type} : List (DataW H) → Nat
  | [] => 0
  | d :: r => uptoBulk d + uptoBulkAll r
def uptoBulkEntries {H : Type} : List (Lit × DataW H) → Nat
  | [] => 0
  | x :: r => uptoBulkEntry x + uptoBulkEntries r
def uptoBulkEntry {H : Type} : Lit × DataW H → Nat
  | (.string bytes, d) => bytes.length + uptoBulk d + 1
  | (_, d) => uptoBulk d + 1
 end
def uptoSmall : (H : Type) → List (DataW H) → Bool := fun _ ds => decide (uptoBulkAll ds ≤ 1048576)
def OpenSpec.upto (s : _root_.Go.ChangeSpec) : _root_.Go.OpenSpec := { _root_.Go.OpenSpec.ofChange s with cond := some uptoSmall }

/-- 'laws.FnWire', WHERE WHAT IT READS IS OF BULK AT MOST 1048576: true; the input reads as it did. -/
def fnWireUptoRow : OpenClaim := { program := "ytapnidhokpkmdaa", sum := "23b91d3681fddfcf4ae1f8c36f31bd67ae185123fd5d5e20387417b35640d7f1", func := "loop.example/g00075/laws.FnWire", spec := "fnWire", unfollowed := true, recurses := true, apart := false, narrowed := true }
def FnWireUptoSaid : Prop := fnWireUptoRow.holds Try.pinned (OpenSpec.upto fnWireSpec)

/-- 'laws.FnComplex', WHERE WHAT IT READS IS OF BULK AT MOST 1048576: true; the input reads as it did. -/
def fnComplexUptoRow : OpenClaim := { program := "ytapnidhokpkmdaa", sum := "23b91d3681fddfcf4ae1f8c36f31bd67ae185123fd5d5e20387417b35640d7f1", func := "loop.example/g00075/laws.FnComplex", spec := "fnComplex", apart := false, narrowed := true }
def FnComplexUptoSaid : Prop := fnComplexUptoRow.holds Try.pinned (OpenSpec.upto fnComplexSpec)

/-- 'laws.FnPhases', WHERE WHAT IT READS IS OF BULK AT MOST 1048576: true; the input reads as it did. -/
def fnPhasesUptoRow : OpenClaim := { program := "ytapnidhokpkmdaa", sum := "23b91d3681fddfcf4ae1f8c36f31bd67ae185123fd5d5e20387417b35640d7f1", func := "loop.example/g00075/laws.FnPhases", spec := "fnPhases", unfollowed := true, recurses := true, apart := false, narrowed := true }
def FnPhasesUptoSaid : Prop := fnPhasesUptoRow.holds Try.pinned (OpenSpec.upto fnPhasesSpec)

/-- 'laws.FnExactZAdd', WHERE WHAT IT READS IS OF BULK AT MOST 1048576: true; the input reads as it did. -/
def fnExactZAddUptoRow : OpenClaim := { program := "ytapnidhokpkmdaa", sum := "23b91d3681fddfcf4ae1f8c36f31bd67ae185123fd5d5e20387417b35640d7f1", func := "loop.example/g00075/laws.FnExactZAdd", spec := "fnExactZAdd", apart := false, narrowed := true }
def FnExactZAddUptoSaid : Prop := fnExactZAddUptoRow.holds Try.pinned (OpenSpec.upto fnExactZAddSpec)

/-- 'laws.FnExactZMul', WHERE WHAT IT READS IS OF BULK AT MOST 1048576: true; the input reads as it did. -/
def fnExactZMulUptoRow : OpenClaim := { program := "ytapnidhokpkmdaa", sum := "23b91d3681fddfcf4ae1f8c36f31bd67ae185123fd5d5e20387417b35640d7f1", func := "loop.example/g00075/laws.FnExactZMul", spec := "fnExactZMul", apart := false, narrowed := true }
def FnExactZMulUptoSaid : Prop := fnExactZMulUptoRow.holds Try.pinned (OpenSpec.upto fnExactZMulSpec)

/-- 'laws.FnExactZSize', WHERE WHAT IT READS IS OF BULK AT MOST 1048576: true; the input reads as it did. -/
def fnExactZSizeUptoRow : OpenClaim := { program := "ytapnidhokpkmdaa", sum := "23b91d3681fddfcf4ae1f8c36f31bd67ae185123fd5d5e20387417b35640d7f1", func := "loop.example/g00075/laws.FnExactZSize", spec := "fnExactZSize", apart := false, narrowed := true }
def FnExactZSizeUptoSaid : Prop := fnExactZSizeUptoRow.holds Try.pinned (OpenSpec.upto fnExactZSizeSpec)

/-- 'laws.FnExactZDiv', WHERE WHAT IT READS IS OF BULK AT MOST 1048576: true; the input reads as it did. -/
def fnExactZDivUptoRow : OpenClaim := { program := "ytapnidhokpkmdaa", sum := "23b91d3681fddfcf4ae1f8c36f31bd67ae185123fd5d5e20387417b35640d7f1", func := "loop.example/g00075/laws.FnExactZDiv", spec := "fnExactZDiv", apart := false, narrowed := true }
def FnExactZDivUptoSaid : Prop := fnExactZDivUptoRow.holds Try.pinned (OpenSpec.upto fnExactZDivSpec)

/-- 'laws.FnExactSums', WHERE WHAT IT READS IS OF BULK AT MOST 1048576: true; the input reads as it did. -/
def fnExactSumsUptoRow : OpenClaim := { program := "ytapnidhokpkmdaa", sum := "23b91d3681fddfcf4ae1f8c36f31bd67ae185123fd5d5e20387417b35640d7f1", func := "loop.example/g00075/laws.FnExactSums", spec := "fnExactSums", apart := false, narrowed := true }
def FnExactSumsUptoSaid : Prop := fnExactSumsUptoRow.holds Try.pinned (OpenSpec.upto fnExactSumsSpec)

/-- 'laws.FnExactVolts', WHERE WHAT IT READS IS OF BULK AT MOST 1048576: true; the input reads as it did. -/
def fnExactVoltsUptoRow : OpenClaim := { program := "ytapnidhokpkmdaa", sum := "23b91d3681fddfcf4ae1f8c36f31bd67ae185123fd5d5e20387417b35640d7f1", func := "loop.example/g00075/laws.FnExactVolts", spec := "fnExactVolts", apart := false, narrowed := true }
def FnExactVoltsUptoSaid : Prop := fnExactVoltsUptoRow.holds Try.pinned (OpenSpec.upto fnExactVoltsSpec)

/-- 'laws.FnExactLosses', WHERE WHAT IT READS IS OF BULK AT MOST 1048576: true; the input reads as it did. -/
def fnExactLossesUptoRow : OpenClaim := { program := "ytapnidhokpkmdaa", sum := "23b91d3681fddfcf4ae1f8c36f31bd67ae185123fd5d5e20387417b35640d7f1", func := "loop.example/g00075/laws.FnExactLosses", spec := "fnExactLosses", apart := false, narrowed := true }
def FnExactLossesUptoSaid : Prop := fnExactLossesUptoRow.holds Try.pinned (OpenSpec.upto fnExactLossesSpec)

/-- 'laws.FnExactLowest', WHERE WHAT IT READS IS OF BULK AT MOST 1048576: true; the input reads as it did. -/
def fnExactLowestUptoRow : OpenClaim := { program := "ytapnidhokpkmdaa", sum := "23b91d3681fddfcf4ae1f8c36f31bd67ae185123fd5d5e20387417b35640d7f1", func := "loop.example/g00075/laws.FnExactLowest", spec := "fnExactLowest", apart := false, narrowed := true }
def FnExactLowestUptoSaid : Prop := fnExactLowestUptoRow.holds Try.pinned (OpenSpec.upto fnExactLowestSpec)

/-- 'laws.FnExactFed', WHERE WHAT IT READS IS OF BULK AT MOST 1048576: true; the input reads as it did. -/
def fnExactFedUptoRow : OpenClaim := { program := "ytapnidhokpkmdaa", sum := "23b91d3681fddfcf4ae1f8c36f31bd67ae185123fd5d5e20387417b35640d7f1", func := "loop.example/g00075/laws.FnExactFed", spec := "fnExactFed", unfollowed := true, recurses := true, apart := false, narrowed := true }
def FnExactFedUptoSaid : Prop := fnExactFedUptoRow.holds Try.pinned (OpenSpec.upto fnExactFedSpec)

/-- 'laws.FnExactPhases', WHERE WHAT IT READS IS OF BULK AT MOST 1048576: true; the input reads as it did. -/
def fnExactPhasesUptoRow : OpenClaim := { program := "ytapnidhokpkmdaa", sum := "23b91d3681fddfcf4ae1f8c36f31bd67ae185123fd5d5e20387417b35640d7f1", func := "loop.example/g00075/laws.FnExactPhases", spec := "fnExactPhases", unfollowed := true, recurses := true, apart := false, narrowed := true }
def FnExactPhasesUptoSaid : Prop := fnExactPhasesUptoRow.holds Try.pinned (OpenSpec.upto fnExactPhasesSpec)

end Rows
end Go.Proofs.Ytapnidhokpkmdaa
