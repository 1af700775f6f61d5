/-
  No cell of these rows narrows 'for every input' (looked for: loops, veiled, ifaces, maps, wideKeys, modest, calm, conditions, laid).
  DERIVED. THE GIVEN ROWS OF THIS SEAT. 10 by the template 'for every input the law returns true; each argument reads behind the call as it read before'; 0 by the template 'total and deterministic' (their statements: YtgnohomplehacaaTotals.lean).
  GIVEN WITH THE SEED: the statements are not yours to turn. If you find one false, say at which input.
  Laid BY PROGRAM, IN A SANDBOX (cutbox-rows.mjs): the forced cells as the released guide's own fill.sh prints them over the translation f2ac7859be74de55… (all of the seat's roots in one cut). By AI agents, Wed Nov 11 2026. No macro, syntax, notation, axiom, sorry.
-/
import Derived.Test.YtgnohomplehacaaChecked
import GoSem.Claim
import GoSem.ClaimJoined
import GoSem.ClaimMapViews
import Derived.JoinedTies
import Derived.KernelRfl
namespace Go.Proofs.Ytgnohomplehacaa
/- THE CELL 'sum', in the pinned program and in every row, IS THE sha256 OF THE DUMP (.gsa) THAT YtgnohomplehacaaProg.lean LOADS. Nothing in Lean hashes anything: it is a label: what it is worth is what the hold of that sum in a sandbox is worth. -/
noncomputable def Try.pinned : Pinned := { name := "ytgnohomplehacaa", sum := "f2ac7859be74de55750207ca92831a4f443eabad36c7cd1faa6c5ac7d6a5a137", checked := Try.checked }
namespace Rows
def none {H : Type} : Left H := { results := [], args := [] }

/-- 'laws.FnTelegram': WHATEVER THE INPUT: true; the input reads as it did. -/
def fnTelegramSpec : ChangeSpec := { name := "fnTelegram", fn := fun _ => fun
  | [d] => { results := [.lit (.bool true)], args := [d] }
  | _ => none }
def fnTelegramRow : OpenClaim := { program := "ytgnohomplehacaa", sum := "f2ac7859be74de55750207ca92831a4f443eabad36c7cd1faa6c5ac7d6a5a137", func := "loop.example/g00075/laws.FnTelegram", spec := "fnTelegram", inPlace := ["sync/atomic.AddInt64", "sync/atomic.LoadInt64"], apart := false }
def FnTelegramSaid : Prop := fnTelegramRow.holds Try.pinned (OpenSpec.ofChange fnTelegramSpec)

/-- ITS FALSE NEIGHBOUR: 'it returns false'. Refute it at one input. -/
def fnTelegramWrong : ChangeSpec := { name := "fnTelegram", fn := fun _ => fun
  | [d] => { results := [.lit (.bool false)], args := [d] }
  | _ => none }
def FnTelegramWrongFalsely : Prop := fnTelegramRow.holds Try.pinned (OpenSpec.ofChange fnTelegramWrong)

/-- 'laws.FnScan': WHATEVER THE INPUT: true; the input reads as it did. -/
def fnScanSpec : ChangeSpec := { name := "fnScan", fn := fun _ => fun
  | [d] => { results := [.lit (.bool true)], args := [d] }
  | _ => none }
def fnScanRow : OpenClaim := { program := "ytgnohomplehacaa", sum := "f2ac7859be74de55750207ca92831a4f443eabad36c7cd1faa6c5ac7d6a5a137", func := "loop.example/g00075/laws.FnScan", spec := "fnScan", inPlace := ["sync/atomic.AddInt64", "sync/atomic.LoadInt64"], unfollowed := true, recurses := true, apart := false }
def FnScanSaid : Prop := fnScanRow.holds Try.pinned (OpenSpec.ofChange fnScanSpec)

/-- ITS FALSE NEIGHBOUR: 'it returns false'. Refute it at one input. -/
def fnScanWrong : ChangeSpec := { name := "fnScan", fn := fun _ => fun
  | [d] => { results := [.lit (.bool false)], args := [d] }
  | _ => none }
def FnScanWrongFalsely : Prop := fnScanRow.holds Try.pinned (OpenSpec.ofChange fnScanWrong)

/-- 'laws.FnAxles': WHATEVER THE INPUT: true; the input reads as it did. -/
def fnAxlesSpec : ChangeSpec := { name := "fnAxles", fn := fun _ => fun
  | [d] => { results := [.lit (.bool true)], args := [d] }
  | _ => none }
def fnAxlesRow : OpenClaim := { program := "ytgnohomplehacaa", sum := "f2ac7859be74de55750207ca92831a4f443eabad36c7cd1faa6c5ac7d6a5a137", func := "loop.example/g00075/laws.FnAxles", spec := "fnAxles", unfollowed := true, recurses := true, apart := false }
def FnAxlesSaid : Prop := fnAxlesRow.holds Try.pinned (OpenSpec.ofChange fnAxlesSpec)

/-- ITS FALSE NEIGHBOUR: 'it returns false'. Refute it at one input. -/
def fnAxlesWrong : ChangeSpec := { name := "fnAxles", fn := fun _ => fun
  | [d] => { results := [.lit (.bool false)], args := [d] }
  | _ => none }
def FnAxlesWrongFalsely : Prop := fnAxlesRow.holds Try.pinned (OpenSpec.ofChange fnAxlesWrong)

/-- 'laws.FnExactTelegramOk': WHATEVER THE INPUT: true; the input reads as it did. -/
def fnExactTelegramOkSpec : ChangeSpec := { name := "fnExactTelegramOk", fn := fun _ => fun
  | [d] => { results := [.lit (.bool true)], args := [d] }
  | _ => none }
def fnExactTelegramOkRow : OpenClaim := { program := "ytgnohomplehacaa", sum := "f2ac7859be74de55750207ca92831a4f443eabad36c7cd1faa6c5ac7d6a5a137", func := "loop.example/g00075/laws.FnExactTelegramOk", spec := "fnExactTelegramOk", apart := false }
def FnExactTelegramOkSaid : Prop := fnExactTelegramOkRow.holds Try.pinned (OpenSpec.ofChange fnExactTelegramOkSpec)

/-- ITS FALSE NEIGHBOUR: 'it returns false'. Refute it at one input. -/
def fnExactTelegramOkWrong : ChangeSpec := { name := "fnExactTelegramOk", fn := fun _ => fun
  | [d] => { results := [.lit (.bool false)], args := [d] }
  | _ => none }
def FnExactTelegramOkWrongFalsely : Prop := fnExactTelegramOkRow.holds Try.pinned (OpenSpec.ofChange fnExactTelegramOkWrong)

/-- 'laws.FnExactCrc8': WHATEVER THE INPUT: true; the input reads as it did. -/
def fnExactCrc8Spec : ChangeSpec := { name := "fnExactCrc8", fn := fun _ => fun
  | [d] => { results := [.lit (.bool true)], args := [d] }
  | _ => none }
def fnExactCrc8Row : OpenClaim := { program := "ytgnohomplehacaa", sum := "f2ac7859be74de55750207ca92831a4f443eabad36c7cd1faa6c5ac7d6a5a137", func := "loop.example/g00075/laws.FnExactCrc8", spec := "fnExactCrc8", apart := false }
def FnExactCrc8Said : Prop := fnExactCrc8Row.holds Try.pinned (OpenSpec.ofChange fnExactCrc8Spec)

/-- ITS FALSE NEIGHBOUR: 'it returns false'. Refute it at one input. -/
def fnExactCrc8Wrong : ChangeSpec := { name := "fnExactCrc8", fn := fun _ => fun
  | [d] => { results := [.lit (.bool false)], args := [d] }
  | _ => none }
def FnExactCrc8WrongFalsely : Prop := fnExactCrc8Row.holds Try.pinned (OpenSpec.ofChange fnExactCrc8Wrong)

/-- 'laws.FnExactEncode': WHATEVER THE INPUT: true; the input reads as it did. -/
def fnExactEncodeSpec : ChangeSpec := { name := "fnExactEncode", fn := fun _ => fun
  | [d] => { results := [.lit (.bool true)], args := [d] }
  | _ => none }
def fnExactEncodeRow : OpenClaim := { program := "ytgnohomplehacaa", sum := "f2ac7859be74de55750207ca92831a4f443eabad36c7cd1faa6c5ac7d6a5a137", func := "loop.example/g00075/laws.FnExactEncode", spec := "fnExactEncode", apart := false }
def FnExactEncodeSaid : Prop := fnExactEncodeRow.holds Try.pinned (OpenSpec.ofChange fnExactEncodeSpec)

/-- ITS FALSE NEIGHBOUR: 'it returns false'. Refute it at one input. -/
def fnExactEncodeWrong : ChangeSpec := { name := "fnExactEncode", fn := fun _ => fun
  | [d] => { results := [.lit (.bool false)], args := [d] }
  | _ => none }
def FnExactEncodeWrongFalsely : Prop := fnExactEncodeRow.holds Try.pinned (OpenSpec.ofChange fnExactEncodeWrong)

/-- 'laws.FnExactDecode': WHATEVER THE INPUT: true; the input reads as it did. -/
def fnExactDecodeSpec : ChangeSpec := { name := "fnExactDecode", fn := fun _ => fun
  | [d] => { results := [.lit (.bool true)], args := [d] }
  | _ => none }
def fnExactDecodeRow : OpenClaim := { program := "ytgnohomplehacaa", sum := "f2ac7859be74de55750207ca92831a4f443eabad36c7cd1faa6c5ac7d6a5a137", func := "loop.example/g00075/laws.FnExactDecode", spec := "fnExactDecode", apart := false }
def FnExactDecodeSaid : Prop := fnExactDecodeRow.holds Try.pinned (OpenSpec.ofChange fnExactDecodeSpec)

/-- ITS FALSE NEIGHBOUR: 'it returns false'. Refute it at one input. -/
def fnExactDecodeWrong : ChangeSpec := { name := "fnExactDecode", fn := fun _ => fun
  | [d] => { results := [.lit (.bool false)], args := [d] }
  | _ => none }
def FnExactDecodeWrongFalsely : Prop := fnExactDecodeRow.holds Try.pinned (OpenSpec.ofChange fnExactDecodeWrong)

/-- 'laws.FnExactScan': WHATEVER THE INPUT: true; the input reads as it did. -/
def fnExactScanSpec : ChangeSpec := { name := "fnExactScan", fn := fun _ => fun
  | [d] => { results := [.lit (.bool true)], args := [d] }
  | _ => none }
def fnExactScanRow : OpenClaim := { program := "ytgnohomplehacaa", sum := "f2ac7859be74de55750207ca92831a4f443eabad36c7cd1faa6c5ac7d6a5a137", func := "loop.example/g00075/laws.FnExactScan", spec := "fnExactScan", inPlace := ["sync/atomic.AddInt64", "sync/atomic.LoadInt64"], apart := false }
def FnExactScanSaid : Prop := fnExactScanRow.holds Try.pinned (OpenSpec.ofChange fnExactScanSpec)

/-- ITS FALSE NEIGHBOUR: 'it returns false'. Refute it at one input. -/
def fnExactScanWrong : ChangeSpec := { name := "fnExactScan", fn := fun _ => fun
  | [d] => { results := [.lit (.bool false)], args := [d] }
  | _ => none }
def FnExactScanWrongFalsely : Prop := fnExactScanRow.holds Try.pinned (OpenSpec.ofChange fnExactScanWrong)

/-- 'laws.FnExactAccept': WHATEVER THE INPUT: true; the input reads as it did. -/
def fnExactAcceptSpec : ChangeSpec := { name := "fnExactAccept", fn := fun _ => fun
  | [d1, d2] => { results := [.lit (.bool true)], args := [d1, d2] }
  | _ => none }
def fnExactAcceptRow : OpenClaim := { program := "ytgnohomplehacaa", sum := "f2ac7859be74de55750207ca92831a4f443eabad36c7cd1faa6c5ac7d6a5a137", func := "loop.example/g00075/laws.FnExactAccept", spec := "fnExactAccept", apart := false }
def FnExactAcceptSaid : Prop := fnExactAcceptRow.holds Try.pinned (OpenSpec.ofChange fnExactAcceptSpec)

/-- ITS FALSE NEIGHBOUR: 'it returns false'. Refute it at one input. -/
def fnExactAcceptWrong : ChangeSpec := { name := "fnExactAccept", fn := fun _ => fun
  | [d1, d2] => { results := [.lit (.bool false)], args := [d1, d2] }
  | _ => none }
def FnExactAcceptWrongFalsely : Prop := fnExactAcceptRow.holds Try.pinned (OpenSpec.ofChange fnExactAcceptWrong)

/-- 'laws.FnExactAxles': WHATEVER THE INPUT: true; the input reads as it did. -/
def fnExactAxlesSpec : ChangeSpec := { name := "fnExactAxles", fn := fun _ => fun
  | [d] => { results := [.lit (.bool true)], args := [d] }
  | _ => none }
def fnExactAxlesRow : OpenClaim := { program := "ytgnohomplehacaa", sum := "f2ac7859be74de55750207ca92831a4f443eabad36c7cd1faa6c5ac7d6a5a137", func := "loop.example/g00075/laws.FnExactAxles", spec := "fnExactAxles", unfollowed := true, recurses := true, apart := false }
def FnExactAxlesSaid : Prop := fnExactAxlesRow.holds Try.pinned (OpenSpec.ofChange fnExactAxlesSpec)

/-- ITS FALSE NEIGHBOUR: 'it returns false'. Refute it at one input. -/
def fnExactAxlesWrong : ChangeSpec := { name := "fnExactAxles", fn := fun _ => fun
  | [d] => { results := [.lit (.bool false)], args := [d] }
  | _ => none }
def FnExactAxlesWrongFalsely : Prop := fnExactAxlesRow.holds Try.pinned (OpenSpec.ofChange fnExactAxlesWrong)

/- THE SECOND FORM. 'bulk': how many values and letters a reading holds, each counted each time it is reached (what is shared counts as often as it is met; a slice's spare places count too). A statement '..UptoSaid' is the law's where the arguments, and the package variables that the reading takes, are together of bulk at most 1048576: NARROWER than '..Said'. Prove '..Said' where nothing that the law and all that it calls make is longer than what came in: it says more and counts as full. Else prove '..UptoSaid'. A law counts once. -/
mutual
def uptoBulk {H : Type} : DataW H → Nat
  | .lit (.string bytes) => bytes.length + 1
  | .lit _ => 1
  | .nil => 1
  | .ptr d => uptoBulk d + 1
  | .slice elems spare => uptoBulkAll elems + uptoBulkAll spare + 1
  | .agg parts => uptoBulkAll parts + 1
  | .iface _ d => uptoBulk d + 1
  | .map entries => uptoBulkEntries entries + 1
  | .held _ => 1
def uptoBulkAll {H : Type} : List (DataW H) → Nat
  | [] => 0
  | d :: r => uptoBulk d + uptoBulkAll r
def uptoBulkEntries {H : Type} : List (Lit × DataW H) → Nat
  | [] => 0
  | x :: r => uptoBulkEntry x + uptoBulkEntries r
def uptoBulkEntry {H : Type} : Lit × DataW H → Nat
  | (.string bytes, d) => bytes.length + uptoBulk d + 1
  | (_, d) => uptoBulk d + 1
 end
def uptoSmall : (H : Type) → List (DataW H) → Bool := fun _ ds => decide (uptoBulkAll ds ≤ 1048576)
def OpenSpec.upto (s : _root_.Go.ChangeSpec) : _root_.Go.OpenSpec := { _root_.Go.OpenSpec.ofChange s with cond := some uptoSmall }

/-- 'laws.FnTelegram', WHERE WHAT IT READS IS OF BULK AT MOST 1048576: true; the input reads as it did. -/
def fnTelegramUptoRow : OpenClaim := { program := "ytgnohomplehacaa", sum := "f2ac7859be74de55750207ca92831a4f443eabad36c7cd1faa6c5ac7d6a5a137", func := "loop.example/g00075/laws.FnTelegram", spec := "fnTelegram", inPlace := ["sync/atomic.AddInt64", "sync/atomic.LoadInt64"], apart := false, narrowed := true }
def FnTelegramUptoSaid : Prop := fnTelegramUptoRow.holds Try.pinned (OpenSpec.upto fnTelegramSpec)

/-- 'laws.FnScan', WHERE WHAT IT READS IS OF BULK AT MOST 1048576: true; the input reads as it did. -/
def fnScanUptoRow : OpenClaim := { program := "ytgnohomplehacaa", sum := "f2ac7859be74de55750207ca92831a4f443eabad36c7cd1faa6c5ac7d6a5a137", func := "loop.example/g00075/laws.FnScan", spec := "fnScan", inPlace := ["sync/atomic.AddInt64", "sync/atomic.LoadInt64"], unfollowed := true, recurses := true, apart := false, narrowed := true }
def FnScanUptoSaid : Prop := fnScanUptoRow.holds Try.pinned (OpenSpec.upto fnScanSpec)

/-- 'laws.FnAxles', WHERE WHAT IT READS IS OF BULK AT MOST 1048576: true; the input reads as it did. -/
def fnAxlesUptoRow : OpenClaim := { program := "ytgnohomplehacaa", sum := "f2ac7859be74de55750207ca92831a4f443eabad36c7cd1faa6c5ac7d6a5a137", func := "loop.example/g00075/laws.FnAxles", spec := "fnAxles", unfollowed := true, recurses := true, apart := false, narrowed := true }
def FnAxlesUptoSaid : Prop := fnAxlesUptoRow.holds Try.pinned (OpenSpec.upto fnAxlesSpec)

/-- 'laws.FnExactTelegramOk', WHERE WHAT IT READS IS OF BULK AT MOST 1048576: true; the input reads as it did. -/
def fnExactTelegramOkUptoRow : OpenClaim := { program := "ytgnohomplehacaa", sum := "f2ac7859be74de55750207ca92831a4f443eabad36c7cd1faa6c5ac7d6a5a137", func := "loop.example/g00075/laws.FnExactTelegramOk", spec := "fnExactTelegramOk", apart := false, narrowed := true }
def FnExactTelegramOkUptoSaid : Prop := fnExactTelegramOkUptoRow.holds Try.pinned (OpenSpec.upto fnExactTelegramOkSpec)

/-- 'laws.FnExactCrc8', WHERE WHAT IT READS IS OF BULK AT MOST 1048576: true; the input reads as it did. -/
def fnExactCrc8UptoRow : OpenClaim := { program := "ytgnohomplehacaa", sum := "f2ac7859be74de55750207ca92831a4f443eabad36c7cd1faa6c5ac7d6a5a137", func := "loop.example/g00075/laws.FnExactCrc8", spec := "fnExactCrc8", apart := false, narrowed := true }
def FnExactCrc8UptoSaid : Prop := fnExactCrc8UptoRow.holds Try.pinned (OpenSpec.upto fnExactCrc8Spec)

/-- 'laws.FnExactEncode', WHERE WHAT IT READS IS OF BULK AT MOST 1048576: true; the input reads as it did. -/
def fnExactEncodeUptoRow : OpenClaim := { program := "ytgnohomplehacaa", sum := "f2ac7859be74de55750207ca92831a4f443eabad36c7cd1faa6c5ac7d6a5a137", func := "loop.example/g00075/laws.FnExactEncode", spec := "fnExactEncode", apart := false, narrowed := true }
def FnExactEncodeUptoSaid : Prop := fnExactEncodeUptoRow.holds Try.pinned (OpenSpec.upto fnExactEncodeSpec)

/-- 'laws.FnExactDecode', WHERE WHAT IT READS IS OF BULK AT MOST 1048576: true; the input reads as it did. -/
def fnExactDecodeUptoRow : OpenClaim := { program := "ytgnohomplehacaa", sum := "f2ac7859be74de55750207ca92831a4f443eabad36c7cd1faa6c5ac7d6a5a137", func := "loop.example/g00075/laws.FnExactDecode", spec := "fnExactDecode", apart := false, narrowed := true }
def FnExactDecodeUptoSaid : Prop := fnExactDecodeUptoRow.holds Try.pinned (OpenSpec.upto fnExactDecodeSpec)

/-- 'laws.FnExactScan', WHERE WHAT IT READS IS OF BULK AT MOST 1048576: true; the input reads as it did. -/
def fnExactScanUptoRow : OpenClaim := { program := "ytgnohomplehacaa", sum := "f2ac7859be74de55750207ca92831a4f443eabad36c7cd1faa6c5ac7d6a5a137", func := "loop.example/g00075/laws.FnExactScan", spec := "fnExactScan", inPlace := ["sync/atomic.AddInt64", "sync/atomic.LoadInt64"], apart := false, narrowed := true }
def FnExactScanUptoSaid : Prop := fnExactScanUptoRow.holds Try.pinned (OpenSpec.upto fnExactScanSpec)

/-- 'laws.FnExactAccept', WHERE WHAT IT READS IS OF BULK AT MOST 1048576: true; the input reads as it did. -/
def fnExactAcceptUptoRow : OpenClaim := { program := "ytgnohomplehacaa", sum := "f2ac7859be74de55750207ca92831a4f443eabad36c7cd1faa6c5ac7d6a5a137", func := "loop.example/g00075/laws.FnExactAccept", spec := "fnExactAccept", apart := false, narrowed := true }
def FnExactAcceptUptoSaid : Prop := fnExactAcceptUptoRow.holds Try.pinned (OpenSpec.upto fnExactAcceptSpec)

/-- 'laws.FnExactAxles', WHERE WHAT IT READS IS OF BULK AT MOST 1048576: true; the input reads as it did. -/
def fnExactAxlesUptoRow : OpenClaim := { program := "ytgnohomplehacaa", sum := "f2ac7859be74de55750207ca92831a4f443eabad36c7cd1faa6c5ac7d6a5a137", func := "loop.example/g00075/laws.FnExactAxles", spec := "fnExactAxles", unfollowed := true, recurses := true, apart := false, narrowed := true }
def FnExactAxlesUptoSaid : Prop := fnExactAxlesUptoRow.holds Try.pinned (OpenSpec.upto fnExactAxlesSpec)

end Rows
end Go.Proofs.Ytgnohomplehacaa
