/-
  No cell of these rows narrows 'for every input' (looked for: loops, veiled, ifaces, maps, wideKeys, modest, calm, conditions, laid).
  DERIVED. THE GIVEN ROWS OF THIS SEAT. 8 by the template 'for every input the law returns true; each argument reads behind the call as it read before'; 0 by the template 'total and deterministic' (their statements: YtpfnnpgielnaeaaTotals.lean).
  GIVEN WITH THE SEED: the statements are not yours to turn. If you find one false, say at which input.
  Laid BY PROGRAM, IN A SANDBOX (cutbox-rows.mjs): the forced cells as the released guide's own fill.sh prints them over the translation 268d0725b572405a… (all of the seat's roots in one cut). By AI agents, Wed Nov 11 2026. No macro, syntax, notation, axiom, sorry.
-/
import Derived.Test.YtpfnnpgielnaeaaChecked
import GoSem.Claim
import GoSem.ClaimJoined
import GoSem.ClaimMapViews
import Derived.JoinedTies
import Derived.KernelRfl
namespace Go.Proofs.Ytpfnnpgielnaeaa
/- THE CELL 'sum', in the pinned program and in every row, IS THE sha256 OF THE DUMP (.gsa) THAT YtpfnnpgielnaeaaProg.lean LOADS. Nothing in Lean hashes anything: it is a label: what it is worth is what the hold of that sum in a sandbox is worth. -/
noncomputable def Try.pinned : Pinned := { name := "ytpfnnpgielnaeaa", sum := "268d0725b572405a0f5aee8f25858afa6c0eb2dbb3cbaba37fa394f203810460", checked := Try.checked }
namespace Rows
def none {H : Type} : Left H := { results := [], args := [] }

/-- 'laws.FnSooner': WHATEVER THE INPUT: true; the input reads as it did. -/
def fnSoonerSpec : ChangeSpec := { name := "fnSooner", fn := fun _ => fun
  | [d] => { results := [.lit (.bool true)], args := [d] }
  | _ => none }
def fnSoonerRow : OpenClaim := { program := "ytpfnnpgielnaeaa", sum := "268d0725b572405a0f5aee8f25858afa6c0eb2dbb3cbaba37fa394f203810460", func := "loop.example/g00075/laws.FnSooner", spec := "fnSooner", inPlace := ["internal/bytealg.abigen_runtime_cmpstring"], unfollowed := true, recurses := true, plainKeys := false, apart := false }
def FnSoonerSaid : Prop := fnSoonerRow.holds Try.pinned (OpenSpec.ofChange fnSoonerSpec)

/-- ITS FALSE NEIGHBOUR: 'it returns false'. Refute it at one input. -/
def fnSoonerWrong : ChangeSpec := { name := "fnSooner", fn := fun _ => fun
  | [d] => { results := [.lit (.bool false)], args := [d] }
  | _ => none }
def FnSoonerWrongFalsely : Prop := fnSoonerRow.holds Try.pinned (OpenSpec.ofChange fnSoonerWrong)

/-- 'laws.FnLatest': WHATEVER THE INPUT: true; the input reads as it did. -/
def fnLatestSpec : ChangeSpec := { name := "fnLatest", fn := fun _ => fun
  | [d] => { results := [.lit (.bool true)], args := [d] }
  | _ => none }
def fnLatestRow : OpenClaim := { program := "ytpfnnpgielnaeaa", sum := "268d0725b572405a0f5aee8f25858afa6c0eb2dbb3cbaba37fa394f203810460", func := "loop.example/g00075/laws.FnLatest", spec := "fnLatest", inPlace := ["internal/bytealg.abigen_runtime_cmpstring"], unfollowed := true, recurses := true, plainKeys := false, apart := false }
def FnLatestSaid : Prop := fnLatestRow.holds Try.pinned (OpenSpec.ofChange fnLatestSpec)

/-- ITS FALSE NEIGHBOUR: 'it returns false'. Refute it at one input. -/
def fnLatestWrong : ChangeSpec := { name := "fnLatest", fn := fun _ => fun
  | [d] => { results := [.lit (.bool false)], args := [d] }
  | _ => none }
def FnLatestWrongFalsely : Prop := fnLatestRow.holds Try.pinned (OpenSpec.ofChange fnLatestWrong)

/-- 'laws.FnExactLegsOk': WHATEVER THE INPUT: true; the input reads as it did. -/
def fnExactLegsOkSpec : ChangeSpec := { name := "fnExactLegsOk", fn := fun _ => fun
  | [d1, d2, d3] => { results := [.lit (.bool true)], args := [d1, d2, d3] }
  | _ => none }
def fnExactLegsOkRow : OpenClaim := { program := "ytpfnnpgielnaeaa", sum := "268d0725b572405a0f5aee8f25858afa6c0eb2dbb3cbaba37fa394f203810460", func := "loop.example/g00075/laws.FnExactLegsOk", spec := "fnExactLegsOk", inPlace := ["internal/bytealg.abigen_runtime_cmpstring"], unfollowed := true, recurses := true, plainKeys := false, apart := false }
def FnExactLegsOkSaid : Prop := fnExactLegsOkRow.holds Try.pinned (OpenSpec.ofChange fnExactLegsOkSpec)

/-- ITS FALSE NEIGHBOUR: 'it returns false'. Refute it at one input. -/
def fnExactLegsOkWrong : ChangeSpec := { name := "fnExactLegsOk", fn := fun _ => fun
  | [d1, d2, d3] => { results := [.lit (.bool false)], args := [d1, d2, d3] }
  | _ => none }
def FnExactLegsOkWrongFalsely : Prop := fnExactLegsOkRow.holds Try.pinned (OpenSpec.ofChange fnExactLegsOkWrong)

/-- 'laws.FnExactSoonest': WHATEVER THE INPUT: true; the input reads as it did. -/
def fnExactSoonestSpec : ChangeSpec := { name := "fnExactSoonest", fn := fun _ => fun
  | [d1, d2, d3, d4, d5, d6] => { results := [.lit (.bool true)], args := [d1, d2, d3, d4, d5, d6] }
  | _ => none }
def fnExactSoonestRow : OpenClaim := { program := "ytpfnnpgielnaeaa", sum := "268d0725b572405a0f5aee8f25858afa6c0eb2dbb3cbaba37fa394f203810460", func := "loop.example/g00075/laws.FnExactSoonest", spec := "fnExactSoonest", inPlace := ["internal/bytealg.abigen_runtime_cmpstring"], unfollowed := true, recurses := true, plainKeys := false, apart := false }
def FnExactSoonestSaid : Prop := fnExactSoonestRow.holds Try.pinned (OpenSpec.ofChange fnExactSoonestSpec)

/-- ITS FALSE NEIGHBOUR: 'it returns false'. Refute it at one input. -/
def fnExactSoonestWrong : ChangeSpec := { name := "fnExactSoonest", fn := fun _ => fun
  | [d1, d2, d3, d4, d5, d6] => { results := [.lit (.bool false)], args := [d1, d2, d3, d4, d5, d6] }
  | _ => none }
def FnExactSoonestWrongFalsely : Prop := fnExactSoonestRow.holds Try.pinned (OpenSpec.ofChange fnExactSoonestWrong)

/-- 'laws.FnExactJourney': WHATEVER THE INPUT: true; the input reads as it did. -/
def fnExactJourneySpec : ChangeSpec := { name := "fnExactJourney", fn := fun _ => fun
  | [d1, d2, d3, d4, d5, d6] => { results := [.lit (.bool true)], args := [d1, d2, d3, d4, d5, d6] }
  | _ => none }
def fnExactJourneyRow : OpenClaim := { program := "ytpfnnpgielnaeaa", sum := "268d0725b572405a0f5aee8f25858afa6c0eb2dbb3cbaba37fa394f203810460", func := "loop.example/g00075/laws.FnExactJourney", spec := "fnExactJourney", inPlace := ["internal/bytealg.abigen_runtime_cmpstring"], unfollowed := true, recurses := true, plainKeys := false, apart := false }
def FnExactJourneySaid : Prop := fnExactJourneyRow.holds Try.pinned (OpenSpec.ofChange fnExactJourneySpec)

/-- ITS FALSE NEIGHBOUR: 'it returns false'. Refute it at one input. -/
def fnExactJourneyWrong : ChangeSpec := { name := "fnExactJourney", fn := fun _ => fun
  | [d1, d2, d3, d4, d5, d6] => { results := [.lit (.bool false)], args := [d1, d2, d3, d4, d5, d6] }
  | _ => none }
def FnExactJourneyWrongFalsely : Prop := fnExactJourneyRow.holds Try.pinned (OpenSpec.ofChange fnExactJourneyWrong)

/-- 'laws.FnExactFastest': WHATEVER THE INPUT: true; the input reads as it did. -/
def fnExactFastestSpec : ChangeSpec := { name := "fnExactFastest", fn := fun _ => fun
  | [d1, d2, d3, d4, d5] => { results := [.lit (.bool true)], args := [d1, d2, d3, d4, d5] }
  | _ => none }
def fnExactFastestRow : OpenClaim := { program := "ytpfnnpgielnaeaa", sum := "268d0725b572405a0f5aee8f25858afa6c0eb2dbb3cbaba37fa394f203810460", func := "loop.example/g00075/laws.FnExactFastest", spec := "fnExactFastest", inPlace := ["internal/bytealg.abigen_runtime_cmpstring"], unfollowed := true, recurses := true, plainKeys := false, apart := false }
def FnExactFastestSaid : Prop := fnExactFastestRow.holds Try.pinned (OpenSpec.ofChange fnExactFastestSpec)

/-- ITS FALSE NEIGHBOUR: 'it returns false'. Refute it at one input. -/
def fnExactFastestWrong : ChangeSpec := { name := "fnExactFastest", fn := fun _ => fun
  | [d1, d2, d3, d4, d5] => { results := [.lit (.bool false)], args := [d1, d2, d3, d4, d5] }
  | _ => none }
def FnExactFastestWrongFalsely : Prop := fnExactFastestRow.holds Try.pinned (OpenSpec.ofChange fnExactFastestWrong)

/-- 'laws.FnExactLatest': WHATEVER THE INPUT: true; the input reads as it did. -/
def fnExactLatestSpec : ChangeSpec := { name := "fnExactLatest", fn := fun _ => fun
  | [d1, d2, d3, d4, d5, d6] => { results := [.lit (.bool true)], args := [d1, d2, d3, d4, d5, d6] }
  | _ => none }
def fnExactLatestRow : OpenClaim := { program := "ytpfnnpgielnaeaa", sum := "268d0725b572405a0f5aee8f25858afa6c0eb2dbb3cbaba37fa394f203810460", func := "loop.example/g00075/laws.FnExactLatest", spec := "fnExactLatest", inPlace := ["internal/bytealg.abigen_runtime_cmpstring"], unfollowed := true, recurses := true, plainKeys := false, apart := false }
def FnExactLatestSaid : Prop := fnExactLatestRow.holds Try.pinned (OpenSpec.ofChange fnExactLatestSpec)

/-- ITS FALSE NEIGHBOUR: 'it returns false'. Refute it at one input. -/
def fnExactLatestWrong : ChangeSpec := { name := "fnExactLatest", fn := fun _ => fun
  | [d1, d2, d3, d4, d5, d6] => { results := [.lit (.bool false)], args := [d1, d2, d3, d4, d5, d6] }
  | _ => none }
def FnExactLatestWrongFalsely : Prop := fnExactLatestRow.holds Try.pinned (OpenSpec.ofChange fnExactLatestWrong)

/-- 'laws.FnExactWithin': WHATEVER THE INPUT: true; the input reads as it did. -/
def fnExactWithinSpec : ChangeSpec := { name := "fnExactWithin", fn := fun _ => fun
  | [d1, d2, d3, d4, d5] => { results := [.lit (.bool true)], args := [d1, d2, d3, d4, d5] }
  | _ => none }
def fnExactWithinRow : OpenClaim := { program := "ytpfnnpgielnaeaa", sum := "268d0725b572405a0f5aee8f25858afa6c0eb2dbb3cbaba37fa394f203810460", func := "loop.example/g00075/laws.FnExactWithin", spec := "fnExactWithin", inPlace := ["internal/bytealg.abigen_runtime_cmpstring"], unfollowed := true, recurses := true, plainKeys := false, apart := false }
def FnExactWithinSaid : Prop := fnExactWithinRow.holds Try.pinned (OpenSpec.ofChange fnExactWithinSpec)

/-- ITS FALSE NEIGHBOUR: 'it returns false'. Refute it at one input. -/
def fnExactWithinWrong : ChangeSpec := { name := "fnExactWithin", fn := fun _ => fun
  | [d1, d2, d3, d4, d5] => { results := [.lit (.bool false)], args := [d1, d2, d3, d4, d5] }
  | _ => none }
def FnExactWithinWrongFalsely : Prop := fnExactWithinRow.holds Try.pinned (OpenSpec.ofChange fnExactWithinWrong)

/- THE SECOND FORM. 'bulk': how many values and letters a reading holds, each counted each time it is reached (what is shared counts as often as it is met; a slice's spare places count too). A statement '..UptoSaid' is the law's where the arguments, and the package variables that the reading takes, are together of bulk at most 1048576: NARROWER than '..Said'. Prove '..Said' where nothing that the law and all that it calls make is longer than what came in: it says more and counts as full. Else prove '..UptoSaid'. A law counts once. -/
mutual
def uptoBulk {H : Type} : DataW H → Nat
  | .lit (.string bytes) => bytes.length + 1
  | .lit _ => 1
  | .nil => 1
  | .ptr d => uptoBulk d + 1
  | .slice elems spare => uptoBulkAll elems + uptoBulkAll spare + 1
  | .agg parts => uptoBulkAll parts + 1
  | .iface _ d => uptoBulk d + 1
  | .map entries => uptoBulkEntries entries + 1
  | .held _ => 1
def uptoBulkAll {H : Type} : List (DataW H) → Nat
  | [] => 0
  | d :: r => uptoBulk d + uptoBulkAll r
def uptoBulkEntries {H : Type} : List (Lit × DataW H) → Nat
  | [] => 0
  | x :: r => uptoBulkEntry x + uptoBulkEntries r
def uptoBulkEntry {H : Type} : Lit × DataW H → Nat
  | (.string bytes, d) => bytes.length + uptoBulk d + 1
  | (_, d) => uptoBulk d + 1
 end
def uptoSmall : (H : Type) → List (DataW H) → Bool := fun _ ds => decide (uptoBulkAll ds ≤ 1048576)
def OpenSpec.upto (s : _root_.Go.ChangeSpec) : _root_.Go.OpenSpec := { _root_.Go.OpenSpec.ofChange s with cond := some uptoSmall }

/-- 'laws.FnSooner', WHERE WHAT IT READS IS OF BULK AT MOST 1048576: true; the input reads as it did. -/
def fnSoonerUptoRow : OpenClaim := { program := "ytpfnnpgielnaeaa", sum := "268d0725b572405a0f5aee8f25858afa6c0eb2dbb3cbaba37fa394f203810460", func := "loop.example/g00075/laws.FnSooner", spec := "fnSooner", inPlace := ["internal/bytealg.abigen_runtime_cmpstring"], unfollowed := true, recurses := true, plainKeys := false, apart := false, narrowed := true }
def FnSoonerUptoSaid : Prop := fnSoonerUptoRow.holds Try.pinned (OpenSpec.upto fnSoonerSpec)

/-- 'laws.FnLatest', WHERE WHAT IT READS IS OF BULK AT MOST 1048576: true; the input reads as it did. -/
def fnLatestUptoRow : OpenClaim := { program := "ytpfnnpgielnaeaa", sum := "268d0725b572405a0f5aee8f25858afa6c0eb2dbb3cbaba37fa394f203810460", func := "loop.example/g00075/laws.FnLatest", spec := "fnLatest", inPlace := ["internal/bytealg.abigen_runtime_cmpstring"], unfollowed := true, recurses := true, plainKeys := false, apart := false, narrowed := true }
def FnLatestUptoSaid : Prop := fnLatestUptoRow.holds Try.pinned (OpenSpec.upto fnLatestSpec)

/-- 'laws.FnExactLegsOk', WHERE WHAT IT READS IS OF BULK AT MOST 1048576: true; the input reads as it did. -/
def fnExactLegsOkUptoRow : OpenClaim := { program := "ytpfnnpgielnaeaa", sum := "268d0725b572405a0f5aee8f25858afa6c0eb2dbb3cbaba37fa394f203810460", func := "loop.example/g00075/laws.FnExactLegsOk", spec := "fnExactLegsOk", inPlace := ["internal/bytealg.abigen_runtime_cmpstring"], unfollowed := true, recurses := true, plainKeys := false, apart := false, narrowed := true }
def FnExactLegsOkUptoSaid : Prop := fnExactLegsOkUptoRow.holds Try.pinned (OpenSpec.upto fnExactLegsOkSpec)

/-- 'laws.FnExactSoonest', WHERE WHAT IT READS IS OF BULK AT MOST 1048576: true; the input reads as it did. -/
def fnExactSoonestUptoRow : OpenClaim := { program := "ytpfnnpgielnaeaa", sum := "268d0725b572405a0f5aee8f25858afa6c0eb2dbb3cbaba37fa394f203810460", func := "loop.example/g00075/laws.FnExactSoonest", spec := "fnExactSoonest", inPlace := ["internal/bytealg.abigen_runtime_cmpstring"], unfollowed := true, recurses := true, plainKeys := false, apart := false, narrowed := true }
def FnExactSoonestUptoSaid : Prop := fnExactSoonestUptoRow.holds Try.pinned (OpenSpec.upto fnExactSoonestSpec)

/-- 'laws.FnExactJourney', WHERE WHAT IT READS IS OF BULK AT MOST 1048576: true; the input reads as it did. -/
def fnExactJourneyUptoRow : OpenClaim := { program := "ytpfnnpgielnaeaa", sum := "268d0725b572405a0f5aee8f25858afa6c0eb2dbb3cbaba37fa394f203810460", func := "loop.example/g00075/laws.FnExactJourney", spec := "fnExactJourney", inPlace := ["internal/bytealg.abigen_runtime_cmpstring"], unfollowed := true, recurses := true, plainKeys := false, apart := false, narrowed := true }
def FnExactJourneyUptoSaid : Prop := fnExactJourneyUptoRow.holds Try.pinned (OpenSpec.upto fnExactJourneySpec)

/-- 'laws.FnExactFastest', WHERE WHAT IT READS IS OF BULK AT MOST 1048576: true; the input reads as it did. -/
def fnExactFastestUptoRow : OpenClaim := { program := "ytpfnnpgielnaeaa", sum := "268d0725b572405a0f5aee8f25858afa6c0eb2dbb3cbaba37fa394f203810460", func := "loop.example/g00075/laws.FnExactFastest", spec := "fnExactFastest", inPlace := ["internal/bytealg.abigen_runtime_cmpstring"], unfollowed := true, recurses := true, plainKeys := false, apart := false, narrowed := true }
def FnExactFastestUptoSaid : Prop := fnExactFastestUptoRow.holds Try.pinned (OpenSpec.upto fnExactFastestSpec)

/-- 'laws.FnExactLatest', WHERE WHAT IT READS IS OF BULK AT MOST 1048576: true; the input reads as it did. -/
def fnExactLatestUptoRow : OpenClaim := { program := "ytpfnnpgielnaeaa", sum := "268d0725b572405a0f5aee8f25858afa6c0eb2dbb3cbaba37fa394f203810460", func := "loop.example/g00075/laws.FnExactLatest", spec := "fnExactLatest", inPlace := ["internal/bytealg.abigen_runtime_cmpstring"], unfollowed := true, recurses := true, plainKeys := false, apart := false, narrowed := true }
def FnExactLatestUptoSaid : Prop := fnExactLatestUptoRow.holds Try.pinned (OpenSpec.upto fnExactLatestSpec)

/-- 'laws.FnExactWithin', WHERE WHAT IT READS IS OF BULK AT MOST 1048576: true; the input reads as it did. -/
def fnExactWithinUptoRow : OpenClaim := { program := "ytpfnnpgielnaeaa", sum := "268d0725b572405a0f5aee8f25858afa6c0eb2dbb3cbaba37fa394f203810460", func := "loop.example/g00075/laws.FnExactWithin", spec := "fnExactWithin", inPlace := ["internal/bytealg.abigen_runtime_cmpstring"], unfollowed := true, recurses := true, plainKeys := false, apart := false, narrowed := true }
def FnExactWithinUptoSaid : Prop := fnExactWithinUptoRow.holds Try.pinned (OpenSpec.upto fnExactWithinSpec)

end Rows
end Go.Proofs.Ytpfnnpgielnaeaa
