/- The mathematics of uses: which edge lies between two nodes, what a timetable rides on. -/
import Derived.Test.YthfknkmabjgklaaNC
import Derived.Test.YthfknkmabjgklaaMB
import Derived.Test.YthfknkmabjgklaaR
namespace Go.Proofs.Ythfknkmabjgklaa
open Go.RowKit
/-- The edge lies between x and y. -/
def hitB (x y : Int) (e : EdgeV) : Bool := (decide (e.a = x) && decide (e.b = y)) || (decide (e.b = x) && decide (e.a = y))
/-- The least place of an edge between x and y; the length of the list where there is none. -/
def placeE (es : List EdgeV) (x y : Int) : Nat := es.findIdx (hitB x y)
def dirE (es : List EdgeV) (x y : Int) : Int := if (es.getD (placeE es x y) EdgeV.zero).a = x then 0 else 1
def useOf (es : List EdgeV) (i : Nat) (p q : HaltV) : RideV := ⟨placeE es p.n q.n, dirE es p.n q.n, p.d, q.a, i⟩
def legsTo (es : List EdgeV) (i : Nat) (cs : List HaltV) (k : Nat) : List RideV := (List.range k).map fun j => useOf es i (cs.getD j HaltV.zero) (cs.getD (j + 1) HaltV.zero)
def clA (ts : List TripV) (i : Nat) : List HaltV := (ts.getD i TripV.zero).calls
def usesTo (es : List EdgeV) (ts : List TripV) (k : Nat) : List RideV := (List.range k).flatMap fun i => legsTo es i (clA ts i) ((clA ts i).length - 1)
def usesL (es : List EdgeV) (ts : List TripV) : List RideV := usesTo es ts ts.length
/-- Each leg of the calls has an edge. -/
def Rode (es : List EdgeV) (cs : List HaltV) (k : Nat) : Prop := ∀ j, j < k → placeE es (cs.getD j HaltV.zero).n (cs.getD (j + 1) HaltV.zero).n < es.length
/-- A right net, a right timetable, an edge for each leg. -/
def Ridden (n : Int) (es : List EdgeV) (ts : List TripV) : Prop := netB n es = true ∧ Table ts ∧ ∀ i, i < ts.length → Rode es (clA ts i) ((clA ts i).length - 1)
theorem legsTo_succ (es : List EdgeV) (i : Nat) (cs : List HaltV) (k : Nat) : legsTo es i cs (k + 1) = legsTo es i cs k ++ [useOf es i (cs.getD k HaltV.zero) (cs.getD (k + 1) HaltV.zero)] := by
  simp [legsTo, List.range_succ]
theorem legsTo_len (es : List EdgeV) (i : Nat) (cs : List HaltV) (k : Nat) : (legsTo es i cs k).length = k := by simp [legsTo]
theorem usesTo_succ (es : List EdgeV) (ts : List TripV) (k : Nat) : usesTo es ts (k + 1) = usesTo es ts k ++ legsTo es k (clA ts k) ((clA ts k).length - 1) := by
  simp [usesTo, List.range_succ]
theorem Rode.succ {es : List EdgeV} {cs : List HaltV} {k : Nat} (h : Rode es cs k) (g : placeE es (cs.getD k HaltV.zero).n (cs.getD (k + 1) HaltV.zero).n < es.length) : Rode es cs (k + 1) := by
  intro j hj
  by_cases e : j = k
  · subst e; exact g
  · exact h j (by omega)
theorem hit_iff {x y : Int} {e : EdgeV} : hitB x y e = true ↔ (e.a = x ∧ e.b = y) ∨ (e.b = x ∧ e.a = y) := by simp [hitB]
theorem place_found {es : List EdgeV} {x y : Int} {k : Nat} (hk : k < es.length) (h0 : ∀ j, j < k → hitB x y (es.getD j EdgeV.zero) = false) (h : hitB x y (es.getD k EdgeV.zero) = true) : placeE es x y = k := by
  have e0 : ∀ j, (hj : j < es.length) → es.getD j EdgeV.zero = es[j] := fun j hj => by simp [List.getD, hj]
  refine (List.findIdx_eq hk).2 ⟨by rw [← e0 k hk]; exact h, fun j hj => by rw [← e0 j (by omega)]; exact h0 j hj⟩
theorem place_none {es : List EdgeV} {x y : Int} (h0 : ∀ j, j < es.length → hitB x y (es.getD j EdgeV.zero) = false) : placeE es x y = es.length := by
  refine List.findIdx_eq_length_of_false fun e he => ?_
  obtain ⟨j, hj, rfl⟩ := List.getElem_of_mem he
  have := h0 j hj
  simp [List.getD, hj] at this
  simpa using this
theorem place_hit {es : List EdgeV} {x y : Int} (h : placeE es x y < es.length) : hitB x y (es.getD (placeE es x y) EdgeV.zero) = true := by
  have e : es.getD (placeE es x y) EdgeV.zero = es[placeE es x y] := by simp [List.getD, h]
  rw [e]
  exact List.findIdx_getElem (w := h)
end Go.Proofs.Ythfknkmabjgklaa
