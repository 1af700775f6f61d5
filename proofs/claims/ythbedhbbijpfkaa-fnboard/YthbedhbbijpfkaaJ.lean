/- A trip moved: of the program. -/
import Derived.Test.YthbedhbbijpfkaaI
import Derived.Test.YthbedhbbijpfkaaBI
namespace Go.Proofs.Ythbedhbbijpfkaa
open Go.RowKit
def movedL (x : Int) (cs : List HaltV) : List HaltV := cs.map fun c => ⟨c.n, c.a + x, c.d + x⟩
def movedT (t : TripV) (x : Int) : TripV := if tripB t = true ∧ inB x (-100000) 100000 = true then ifOk ⟨t.name, movedL x t.calls⟩ else TripV.zero
theorem movedL_len (x : Int) (cs : List HaltV) : (movedL x cs).length = cs.length := by simp [movedL]
theorem movedL_step (x : Int) {cs : List HaltV} {k : Nat} (hk : k < cs.length) : movedL x (cs.take (k + 1)) = movedL x (cs.take k) ++ [⟨(cs.getD k HaltV.zero).n, (cs.getD k HaltV.zero).a + x, (cs.getD k HaltV.zero).d + x⟩] := by
  have e : cs.getD k HaltV.zero = cs[k] := by simp [List.getD, hk]
  rw [List.take_succ_eq_append_getElem hk, e]; unfold movedL; rw [List.map_append]; rfl
theorem heap_alloc_new (w : World) (o : Obj) : (w.alloc o).heap[w.heap.size]? = some o := one_block w o

end Go.Proofs.Ythbedhbbijpfkaa
