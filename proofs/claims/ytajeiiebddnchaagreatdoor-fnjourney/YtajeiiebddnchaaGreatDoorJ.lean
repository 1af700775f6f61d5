/- A trip moved: of the program. -/
import Derived.Test.YtajeiiebddnchaaGreatDoorI
namespace Go.Proofs.YtajeiiebddnchaaGreatDoor
open Go.RowKit
def movedL (x : Int) (cs : List HaltV) : List HaltV := cs.map fun c => ⟨c.n, c.a + x, c.d + x⟩
def movedT (t : TripV) (x : Int) : TripV := if tripB t = true ∧ inB x (-100000) 100000 = true then ifOk ⟨t.name, movedL x t.calls⟩ else TripV.zero
theorem movedL_len (x : Int) (cs : List HaltV) : (movedL x cs).length = cs.length := by simp [movedL]
theorem movedL_step (x : Int) {cs : List HaltV} {k : Nat} (hk : k < cs.length) : movedL x (cs.take (k + 1)) = movedL x (cs.take k) ++ [⟨(cs.getD k HaltV.zero).n, (cs.getD k HaltV.zero).a + x, (cs.getD k HaltV.zero).d + x⟩] := by
  have e : cs.getD k HaltV.zero = cs[k] := by simp [List.getD, hk]
  rw [List.take_succ_eq_append_getElem hk, e]; unfold movedL; rw [List.map_append]; rfl
theorem own_cap {w : World} {base e sz n c : Nat} {a : Option Addr} {xs : List Value} (h : w.ownsRow base e sz (.slice a n c) n xs) : n ≤ c := by
  rcases h.2 with ⟨h2, h0⟩ | ⟨g, cap, cur, hv, hg, hh, hc, r⟩
  · omega
  · simp only [Value.slice.injEq] at hv; omega
theorem blk3 {w : World} {g : Nat} {c0 c1 c2 : Value} {t : TypeId} (h : w.heap[g]? = some (.cells #[c0, c1, c2] t (0, 0))) :
    (w.cell? ⟨g, 0, none⟩ = some c0 ∧ w.cell? ⟨g, 1, none⟩ = some c1 ∧ w.cell? ⟨g, 2, none⟩ = some c2) :=
  ⟨Go.Joins.cell_of_block h 0, Go.Joins.cell_of_block h 1, Go.Joins.cell_of_block h 2⟩
theorem heap_alloc_new (w : World) (o : Obj) : (w.alloc o).heap[w.heap.size]? = some o := one_block w o

end Go.Proofs.YtajeiiebddnchaaGreatDoor
