/- One trip marked, and held against its marks. -/
import Derived.Test.YthlmaljgnhakfaaGreatDoorI
namespace Go.Proofs.YthlmaljgnhakfaaGreatDoor
open Go.RowKit
theorem gofr {w w' : World} (r : Option Nat) (hb : Below w.heap.size w w') : w.grownBy w' r := ⟨hb.os, hb.tape, hb.output, hb.size, fun k hk _ => hb.block k hk⟩
theorem far_blk {w w' : World} {r : Option Nat} (hgr : w.grownBy w' r) {b : Nat} {o : Obj} (h : w.heap[b]? = some o) (hne : ∀ j, r = some j → j ≠ b) : w'.heap[b]? = some o :=
  (hgr.block b (lt_of_block h) (fun e => hne b e.symm rfl)).trans h
end Go.Proofs.YthlmaljgnhakfaaGreatDoor
