/-
  No cell of these rows narrows 'for every input' (looked for: loops, veiled, ifaces, maps, wideKeys, modest, calm, conditions, laid).
  DERIVED. THE GIVEN ROWS OF THIS SEAT. 9 by the template 'for every input the law returns true; each argument reads behind the call as it read before'; 0 by the template 'total and deterministic' (their statements: YtdcohaejdlgnpaaTotals.lean).
  GIVEN WITH THE SEED: the statements are not yours to turn. If you find one false, say at which input.
  Laid BY PROGRAM, IN A SANDBOX (cutbox-rows.mjs): the forced cells as the released guide's own fill.sh prints them over the translation 0631d893f9a4dcda… (all of the seat's roots in one cut). By AI agents, Wed Nov 11 2026. No macro, syntax, notation, axiom, sorry.
-/
import Derived.Test.YtdcohaejdlgnpaaChecked
import GoSem.Claim
import GoSem.ClaimJoined
import GoSem.ClaimMapViews
import Derived.JoinedTies
import Derived.KernelRfl
namespace Go.Proofs.Ytdcohaejdlgnpaa
/- THE CELL 'sum', in the pinned program and in every row, IS THE sha256 OF THE DUMP (.gsa) THAT YtdcohaejdlgnpaaProg.lean LOADS. Nothing in Lean hashes anything: it is a label: what it is worth is what the hold of that sum in a sandbox is worth. -/
noncomputable def Try.pinned : Pinned := { name := "ytdcohaejdlgnpaa", sum := "0631d893f9a4dcda0c9e5afabf203c16979e1a2e1170a58c82b23d70a0128dd2", checked := Try.checked }
namespace Rows
def none {H : Type} : Left H := { results := [], args := [] }

/-- 'laws.FnExactPlantOk': WHATEVER THE INPUT: true; the input reads as it did. -/
def fnExactPlantOkSpec : ChangeSpec := { name := "fnExactPlantOk", fn := fun _ => fun
  | [d] => { results := [.lit (.bool true)], args := [d] }
  | _ => none }
def fnExactPlantOkRow : OpenClaim := { program := "ytdcohaejdlgnpaa", sum := "0631d893f9a4dcda0c9e5afabf203c16979e1a2e1170a58c82b23d70a0128dd2", func := "loop.example/g00075/laws.FnExactPlantOk", spec := "fnExactPlantOk", apart := false }
def FnExactPlantOkSaid : Prop := fnExactPlantOkRow.holds Try.pinned (OpenSpec.ofChange fnExactPlantOkSpec)

/-- ITS FALSE NEIGHBOUR: 'it returns false'. Refute it at one input. -/
def fnExactPlantOkWrong : ChangeSpec := { name := "fnExactPlantOk", fn := fun _ => fun
  | [d] => { results := [.lit (.bool false)], args := [d] }
  | _ => none }
def FnExactPlantOkWrongFalsely : Prop := fnExactPlantOkRow.holds Try.pinned (OpenSpec.ofChange fnExactPlantOkWrong)

/-- 'laws.FnExactClashing': WHATEVER THE INPUT: true; the input reads as it did. -/
def fnExactClashingSpec : ChangeSpec := { name := "fnExactClashing", fn := fun _ => fun
  | [d1, d2, d3] => { results := [.lit (.bool true)], args := [d1, d2, d3] }
  | _ => none }
def fnExactClashingRow : OpenClaim := { program := "ytdcohaejdlgnpaa", sum := "0631d893f9a4dcda0c9e5afabf203c16979e1a2e1170a58c82b23d70a0128dd2", func := "loop.example/g00075/laws.FnExactClashing", spec := "fnExactClashing", apart := false }
def FnExactClashingSaid : Prop := fnExactClashingRow.holds Try.pinned (OpenSpec.ofChange fnExactClashingSpec)

/-- ITS FALSE NEIGHBOUR: 'it returns false'. Refute it at one input. -/
def fnExactClashingWrong : ChangeSpec := { name := "fnExactClashing", fn := fun _ => fun
  | [d1, d2, d3] => { results := [.lit (.bool false)], args := [d1, d2, d3] }
  | _ => none }
def FnExactClashingWrongFalsely : Prop := fnExactClashingRow.holds Try.pinned (OpenSpec.ofChange fnExactClashingWrong)

/-- 'laws.FnExactBare': WHATEVER THE INPUT: true; the input reads as it did. -/
def fnExactBareSpec : ChangeSpec := { name := "fnExactBare", fn := fun _ => fun
  | [d] => { results := [.lit (.bool true)], args := [d] }
  | _ => none }
def fnExactBareRow : OpenClaim := { program := "ytdcohaejdlgnpaa", sum := "0631d893f9a4dcda0c9e5afabf203c16979e1a2e1170a58c82b23d70a0128dd2", func := "loop.example/g00075/laws.FnExactBare", spec := "fnExactBare", apart := false }
def FnExactBareSaid : Prop := fnExactBareRow.holds Try.pinned (OpenSpec.ofChange fnExactBareSpec)

/-- ITS FALSE NEIGHBOUR: 'it returns false'. Refute it at one input. -/
def fnExactBareWrong : ChangeSpec := { name := "fnExactBare", fn := fun _ => fun
  | [d] => { results := [.lit (.bool false)], args := [d] }
  | _ => none }
def FnExactBareWrongFalsely : Prop := fnExactBareRow.holds Try.pinned (OpenSpec.ofChange fnExactBareWrong)

/-- 'laws.FnExactLockingOk': WHATEVER THE INPUT: true; the input reads as it did. -/
def fnExactLockingOkSpec : ChangeSpec := { name := "fnExactLockingOk", fn := fun _ => fun
  | [d1, d2] => { results := [.lit (.bool true)], args := [d1, d2] }
  | _ => none }
def fnExactLockingOkRow : OpenClaim := { program := "ytdcohaejdlgnpaa", sum := "0631d893f9a4dcda0c9e5afabf203c16979e1a2e1170a58c82b23d70a0128dd2", func := "loop.example/g00075/laws.FnExactLockingOk", spec := "fnExactLockingOk", unfollowed := true, recurses := true, apart := false }
def FnExactLockingOkSaid : Prop := fnExactLockingOkRow.holds Try.pinned (OpenSpec.ofChange fnExactLockingOkSpec)

/-- ITS FALSE NEIGHBOUR: 'it returns false'. Refute it at one input. -/
def fnExactLockingOkWrong : ChangeSpec := { name := "fnExactLockingOk", fn := fun _ => fun
  | [d1, d2] => { results := [.lit (.bool false)], args := [d1, d2] }
  | _ => none }
def FnExactLockingOkWrongFalsely : Prop := fnExactLockingOkRow.holds Try.pinned (OpenSpec.ofChange fnExactLockingOkWrong)

/-- 'laws.FnExactRequest': WHATEVER THE INPUT: true; the input reads as it did. -/
def fnExactRequestSpec : ChangeSpec := { name := "fnExactRequest", fn := fun _ => fun
  | [d1, d2, d3] => { results := [.lit (.bool true)], args := [d1, d2, d3] }
  | _ => none }
def fnExactRequestRow : OpenClaim := { program := "ytdcohaejdlgnpaa", sum := "0631d893f9a4dcda0c9e5afabf203c16979e1a2e1170a58c82b23d70a0128dd2", func := "loop.example/g00075/laws.FnExactRequest", spec := "fnExactRequest", unfollowed := true, recurses := true, apart := false }
def FnExactRequestSaid : Prop := fnExactRequestRow.holds Try.pinned (OpenSpec.ofChange fnExactRequestSpec)

/-- ITS FALSE NEIGHBOUR: 'it returns false'. Refute it at one input. -/
def fnExactRequestWrong : ChangeSpec := { name := "fnExactRequest", fn := fun _ => fun
  | [d1, d2, d3] => { results := [.lit (.bool false)], args := [d1, d2, d3] }
  | _ => none }
def FnExactRequestWrongFalsely : Prop := fnExactRequestRow.holds Try.pinned (OpenSpec.ofChange fnExactRequestWrong)

/-- 'laws.FnExactOccupy': WHATEVER THE INPUT: true; the input reads as it did. -/
def fnExactOccupySpec : ChangeSpec := { name := "fnExactOccupy", fn := fun _ => fun
  | [d1, d2, d3] => { results := [.lit (.bool true)], args := [d1, d2, d3] }
  | _ => none }
def fnExactOccupyRow : OpenClaim := { program := "ytdcohaejdlgnpaa", sum := "0631d893f9a4dcda0c9e5afabf203c16979e1a2e1170a58c82b23d70a0128dd2", func := "loop.example/g00075/laws.FnExactOccupy", spec := "fnExactOccupy", unfollowed := true, recurses := true, apart := false }
def FnExactOccupySaid : Prop := fnExactOccupyRow.holds Try.pinned (OpenSpec.ofChange fnExactOccupySpec)

/-- ITS FALSE NEIGHBOUR: 'it returns false'. Refute it at one input. -/
def fnExactOccupyWrong : ChangeSpec := { name := "fnExactOccupy", fn := fun _ => fun
  | [d1, d2, d3] => { results := [.lit (.bool false)], args := [d1, d2, d3] }
  | _ => none }
def FnExactOccupyWrongFalsely : Prop := fnExactOccupyRow.holds Try.pinned (OpenSpec.ofChange fnExactOccupyWrong)

/-- 'laws.FnExactVacate': WHATEVER THE INPUT: true; the input reads as it did. -/
def fnExactVacateSpec : ChangeSpec := { name := "fnExactVacate", fn := fun _ => fun
  | [d1, d2, d3] => { results := [.lit (.bool true)], args := [d1, d2, d3] }
  | _ => none }
def fnExactVacateRow : OpenClaim := { program := "ytdcohaejdlgnpaa", sum := "0631d893f9a4dcda0c9e5afabf203c16979e1a2e1170a58c82b23d70a0128dd2", func := "loop.example/g00075/laws.FnExactVacate", spec := "fnExactVacate", unfollowed := true, recurses := true, apart := false }
def FnExactVacateSaid : Prop := fnExactVacateRow.holds Try.pinned (OpenSpec.ofChange fnExactVacateSpec)

/-- ITS FALSE NEIGHBOUR: 'it returns false'. Refute it at one input. -/
def fnExactVacateWrong : ChangeSpec := { name := "fnExactVacate", fn := fun _ => fun
  | [d1, d2, d3] => { results := [.lit (.bool false)], args := [d1, d2, d3] }
  | _ => none }
def FnExactVacateWrongFalsely : Prop := fnExactVacateRow.holds Try.pinned (OpenSpec.ofChange fnExactVacateWrong)

/-- 'laws.FnExactWithdraw': WHATEVER THE INPUT: true; the input reads as it did. -/
def fnExactWithdrawSpec : ChangeSpec := { name := "fnExactWithdraw", fn := fun _ => fun
  | [d1, d2, d3] => { results := [.lit (.bool true)], args := [d1, d2, d3] }
  | _ => none }
def fnExactWithdrawRow : OpenClaim := { program := "ytdcohaejdlgnpaa", sum := "0631d893f9a4dcda0c9e5afabf203c16979e1a2e1170a58c82b23d70a0128dd2", func := "loop.example/g00075/laws.FnExactWithdraw", spec := "fnExactWithdraw", unfollowed := true, recurses := true, apart := false }
def FnExactWithdrawSaid : Prop := fnExactWithdrawRow.holds Try.pinned (OpenSpec.ofChange fnExactWithdrawSpec)

/-- ITS FALSE NEIGHBOUR: 'it returns false'. Refute it at one input. -/
def fnExactWithdrawWrong : ChangeSpec := { name := "fnExactWithdraw", fn := fun _ => fun
  | [d1, d2, d3] => { results := [.lit (.bool false)], args := [d1, d2, d3] }
  | _ => none }
def FnExactWithdrawWrongFalsely : Prop := fnExactWithdrawRow.holds Try.pinned (OpenSpec.ofChange fnExactWithdrawWrong)

/-- 'laws.FnExactPlayLock': WHATEVER THE INPUT: true; the input reads as it did. -/
def fnExactPlayLockSpec : ChangeSpec := { name := "fnExactPlayLock", fn := fun _ => fun
  | [d1, d2] => { results := [.lit (.bool true)], args := [d1, d2] }
  | _ => none }
def fnExactPlayLockRow : OpenClaim := { program := "ytdcohaejdlgnpaa", sum := "0631d893f9a4dcda0c9e5afabf203c16979e1a2e1170a58c82b23d70a0128dd2", func := "loop.example/g00075/laws.FnExactPlayLock", spec := "fnExactPlayLock", unfollowed := true, recurses := true, apart := false }
def FnExactPlayLockSaid : Prop := fnExactPlayLockRow.holds Try.pinned (OpenSpec.ofChange fnExactPlayLockSpec)

/-- ITS FALSE NEIGHBOUR: 'it returns false'. Refute it at one input. -/
def fnExactPlayLockWrong : ChangeSpec := { name := "fnExactPlayLock", fn := fun _ => fun
  | [d1, d2] => { results := [.lit (.bool false)], args := [d1, d2] }
  | _ => none }
def FnExactPlayLockWrongFalsely : Prop := fnExactPlayLockRow.holds Try.pinned (OpenSpec.ofChange fnExactPlayLockWrong)

/- THE SECOND FORM. 'bulk': how many values and letters a reading holds, each counted each time it is reached (what is shared counts as often as it is met; a slice's spare places count too). A statement '..UptoSaid' is the law's where the arguments, and the package variables that the reading takes, are together of bulk at most 1048576: NARROWER than '..Said'. Prove '..Said' where nothing that the law and all that it calls make is longer than what came in: it says more and counts as full. Else prove '..UptoSaid'. A law counts once. -/
mutual
def uptoBulk {H : Type} : DataW H → Nat
  | .lit (.string bytes) => bytes.length + 1
  | .lit _ => 1
  | .nil => 1
  | .ptr d => uptoBulk d + 1
  | .slice elems spare => uptoBulkAll elems + uptoBulkAll spare + 1
  | .agg parts => uptoBulkAll parts + 1
  | .iface _ d => uptoBulk d + 1
  | .map entries => uptoBulkEntries entries + 1
  | .held _ => 1
def uptoBulkAll {H : Type} : List (DataW H) → Nat
  | [] => 0
  | d :: r => uptoBulk d + uptoBulkAll r
def uptoBulkEntries {H : Type} : List (Lit × DataW H) → Nat
  | [] => 0
  | x :: r => uptoBulkEntry x + uptoBulkEntries r
def uptoBulkEntry {H : Type} : Lit × DataW H → Nat
  | (.string bytes, d) => bytes.length + uptoBulk d + 1
  | (_, d) => uptoBulk d + 1
 end
def uptoSmall : (H : Type) → List (DataW H) → Bool := fun _ ds => decide (uptoBulkAll ds ≤ 1048576)
def OpenSpec.upto (s : _root_.Go.ChangeSpec) : _root_.Go.OpenSpec := { _root_.Go.OpenSpec.ofChange s with cond := some uptoSmall }

/-- 'laws.FnExactPlantOk', WHERE WHAT IT READS IS OF BULK AT MOST 1048576: true; the input reads as it did. -/
def fnExactPlantOkUptoRow : OpenClaim := { program := "ytdcohaejdlgnpaa", sum := "0631d893f9a4dcda0c9e5afabf203c16979e1a2e1170a58c82b23d70a0128dd2", func := "loop.example/g00075/laws.FnExactPlantOk", spec := "fnExactPlantOk", apart := false, narrowed := true }
def FnExactPlantOkUptoSaid : Prop := fnExactPlantOkUptoRow.holds Try.pinned (OpenSpec.upto fnExactPlantOkSpec)

/-- 'laws.FnExactClashing', WHERE WHAT IT READS IS OF BULK AT MOST 1048576: true; the input reads as it did. -/
def fnExactClashingUptoRow : OpenClaim := { program := "ytdcohaejdlgnpaa", sum := "0631d893f9a4dcda0c9e5afabf203c16979e1a2e1170a58c82b23d70a0128dd2", func := "loop.example/g00075/laws.FnExactClashing", spec := "fnExactClashing", apart := false, narrowed := true }
def FnExactClashingUptoSaid : Prop := fnExactClashingUptoRow.holds Try.pinned (OpenSpec.upto fnExactClashingSpec)

/-- 'laws.FnExactBare', WHERE WHAT IT READS IS OF BULK AT MOST 1048576: true; the input reads as it did. -/
def fnExactBareUptoRow : OpenClaim := { program := "ytdcohaejdlgnpaa", sum := "0631d893f9a4dcda0c9e5afabf203c16979e1a2e1170a58c82b23d70a0128dd2", func := "loop.example/g00075/laws.FnExactBare", spec := "fnExactBare", apart := false, narrowed := true }
def FnExactBareUptoSaid : Prop := fnExactBareUptoRow.holds Try.pinned (OpenSpec.upto fnExactBareSpec)

/-- 'laws.FnExactLockingOk', WHERE WHAT IT READS IS OF BULK AT MOST 1048576: true; the input reads as it did. -/
def fnExactLockingOkUptoRow : OpenClaim := { program := "ytdcohaejdlgnpaa", sum := "0631d893f9a4dcda0c9e5afabf203c16979e1a2e1170a58c82b23d70a0128dd2", func := "loop.example/g00075/laws.FnExactLockingOk", spec := "fnExactLockingOk", unfollowed := true, recurses := true, apart := false, narrowed := true }
def FnExactLockingOkUptoSaid : Prop := fnExactLockingOkUptoRow.holds Try.pinned (OpenSpec.upto fnExactLockingOkSpec)

/-- 'laws.FnExactRequest', WHERE WHAT IT READS IS OF BULK AT MOST 1048576: true; the input reads as it did. -/
def fnExactRequestUptoRow : OpenClaim := { program := "ytdcohaejdlgnpaa", sum := "0631d893f9a4dcda0c9e5afabf203c16979e1a2e1170a58c82b23d70a0128dd2", func := "loop.example/g00075/laws.FnExactRequest", spec := "fnExactRequest", unfollowed := true, recurses := true, apart := false, narrowed := true }
def FnExactRequestUptoSaid : Prop := fnExactRequestUptoRow.holds Try.pinned (OpenSpec.upto fnExactRequestSpec)

/-- 'laws.FnExactOccupy', WHERE WHAT IT READS IS OF BULK AT MOST 1048576: true; the input reads as it did. -/
def fnExactOccupyUptoRow : OpenClaim := { program := "ytdcohaejdlgnpaa", sum := "0631d893f9a4dcda0c9e5afabf203c16979e1a2e1170a58c82b23d70a0128dd2", func := "loop.example/g00075/laws.FnExactOccupy", spec := "fnExactOccupy", unfollowed := true, recurses := true, apart := false, narrowed := true }
def FnExactOccupyUptoSaid : Prop := fnExactOccupyUptoRow.holds Try.pinned (OpenSpec.upto fnExactOccupySpec)

/-- 'laws.FnExactVacate', WHERE WHAT IT READS IS OF BULK AT MOST 1048576: true; the input reads as it did. -/
def fnExactVacateUptoRow : OpenClaim := { program := "ytdcohaejdlgnpaa", sum := "0631d893f9a4dcda0c9e5afabf203c16979e1a2e1170a58c82b23d70a0128dd2", func := "loop.example/g00075/laws.FnExactVacate", spec := "fnExactVacate", unfollowed := true, recurses := true, apart := false, narrowed := true }
def FnExactVacateUptoSaid : Prop := fnExactVacateUptoRow.holds Try.pinned (OpenSpec.upto fnExactVacateSpec)

/-- 'laws.FnExactWithdraw', WHERE WHAT IT READS IS OF BULK AT MOST 1048576: true; the input reads as it did. -/
def fnExactWithdrawUptoRow : OpenClaim := { program := "ytdcohaejdlgnpaa", sum := "0631d893f9a4dcda0c9e5afabf203c16979e1a2e1170a58c82b23d70a0128dd2", func := "loop.example/g00075/laws.FnExactWithdraw", spec := "fnExactWithdraw", unfollowed := true, recurses := true, apart := false, narrowed := true }
def FnExactWithdrawUptoSaid : Prop := fnExactWithdrawUptoRow.holds Try.pinned (OpenSpec.upto fnExactWithdrawSpec)

/-- 'laws.FnExactPlayLock', WHERE WHAT IT READS IS OF BULK AT MOST 1048576: true; the input reads as it did. -/
def fnExactPlayLockUptoRow : OpenClaim := { program := "ytdcohaejdlgnpaa", sum := "0631d893f9a4dcda0c9e5afabf203c16979e1a2e1170a58c82b23d70a0128dd2", func := "loop.example/g00075/laws.FnExactPlayLock", spec := "fnExactPlayLock", unfollowed := true, recurses := true, apart := false, narrowed := true }
def FnExactPlayLockUptoSaid : Prop := fnExactPlayLockUptoRow.holds Try.pinned (OpenSpec.upto fnExactPlayLockSpec)

end Rows
end Go.Proofs.Ytdcohaejdlgnpaa
