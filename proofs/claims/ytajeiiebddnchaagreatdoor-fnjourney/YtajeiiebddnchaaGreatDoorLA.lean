/- Slices of legs: copied, compared, marked. -/
import Derived.Test.YtajeiiebddnchaaGreatDoorA
import Derived.Deep.RegionWith
namespace Go.Proofs.YtajeiiebddnchaaGreatDoor
open Go.RowKit
structure LegV where
  t : Int
  o : Int
  f : Int
  deriving DecidableEq
def LegV.zero : LegV := ⟨0, 0, 0⟩
def LegV.val (e : LegV) : Value := .agg #[.int .i64 e.t, .int .i64 e.o, .int .i64 e.f]
def LegV.vs (e : LegV) : List Value := [.int .i64 e.t, .int .i64 e.o, .int .i64 e.f]
def flatLegs (es : List LegV) : List Value := es.flatMap LegV.vs
theorem flatLegs_cons (e : LegV) (es : List LegV) : flatLegs (e :: es) = .int .i64 e.t :: .int .i64 e.o :: .int .i64 e.f :: flatLegs es := rfl
theorem flatLegs_len (es : List LegV) : (flatLegs es).length = es.length * 3 := by
  induction es with
  | nil => rfl
  | cons e es ih => rw [flatLegs_cons]; simp only [List.length_cons, ih]; omega
theorem flatLegs_app (xs ys : List LegV) : flatLegs (xs ++ ys) = flatLegs xs ++ flatLegs ys := by simp [flatLegs]
theorem flatLegs_get (es : List LegV) : ∀ i, i < es.length → (flatLegs es)[i * 3]? = some (.int .i64 (es.getD i LegV.zero).t) ∧ (flatLegs es)[i * 3 + 1]? = some (.int .i64 (es.getD i LegV.zero).o) ∧ (flatLegs es)[i * 3 + 2]? = some (.int .i64 (es.getD i LegV.zero).f) := by
  induction es with
  | nil => intro i hi; simp at hi
  | cons e es ih =>
    intro i hi
    rw [flatLegs_cons]
    cases i with
    | zero => simp
    | succ i =>
      have h := ih i (by simpa using hi)
      have e1 : (i + 1) * 3 = i * 3 + 1 + 1 + 1 := by omega
      rw [e1]
      simpa using h
/-- The cells behind a slice's address hold the structs es. -/
def Legs (w : World) (a : Option Addr) (es : List LegV) : Prop :=
  es = [] ∨ ∃ b off, a = some ⟨b, off, none⟩ ∧ ∀ i, i < es.length → w.cell? ⟨b, off + i * 3, none⟩ = some (.int .i64 (es.getD i LegV.zero).t) ∧ w.cell? ⟨b, off + i * 3 + 1, none⟩ = some (.int .i64 (es.getD i LegV.zero).o) ∧ w.cell? ⟨b, off + i * 3 + 2, none⟩ = some (.int .i64 (es.getD i LegV.zero).f)
theorem Legs.below {w w' : World} {a : Option Addr} {es : List LegV} (h : Legs w a es) (hb : Below w.heap.size w w') : Legs w' a es := by
  rcases h with h | ⟨b, off, ha, hc⟩
  · exact .inl h
  · exact .inr ⟨b, off, ha, fun i hi => ⟨ble hb (hc i hi).1, ble hb (hc i hi).2.1, ble hb (hc i hi).2.2⟩⟩
theorem Legs.of_owns {w : World} {base g n cap : Nat} {es : List LegV} (h : w.ownsRow base 38 3 (.slice (some ⟨g, 0, none⟩) n cap) n (flatLegs es)) : Legs w (some ⟨g, 0, none⟩) es := by
  refine .inr ⟨g, 0, rfl, fun i hi => ?_⟩
  have hl := h.1
  rw [flatLegs_len] at hl
  obtain ⟨f0, f1, f2⟩ := flatLegs_get es i hi
  refine ⟨?_, ?_, ?_⟩
  · rw [Nat.zero_add, h.cellAt _ (by omega)]; exact f0
  · rw [Nat.zero_add, h.cellAt _ (by omega)]; exact f1
  · rw [Nat.zero_add, h.cellAt _ (by omega)]; exact f2
theorem Legs.own {w : World} {base n c : Nat} {a : Option Addr} {es : List LegV} (h : w.ownsRow base 38 3 (.slice a n c) n (flatLegs es)) : Legs w a es := by
  rcases h.2 with ⟨_, h0⟩ | ⟨g, cap', cur, he, _⟩
  · left
    have hl := h.1
    rw [flatLegs_len, h0] at hl
    exact List.length_eq_zero_iff.1 (by omega)
  · simp only [Value.slice.injEq] at he
    obtain ⟨rfl, _, rfl⟩ := he
    exact Legs.of_owns h
theorem Legs.rw {w : World} {base n c : Nat} {a : Option Addr} {es : List LegV} (h : Rw w base 38 3 (.slice a n c) n (flatLegs es)) : Legs w a es := by
  rcases h with h | ⟨h0, h1, _⟩
  · exact Legs.own h
  · left
    have := flatLegs_len es
    rw [h1] at this
    simp at this
    exact List.length_eq_zero_iff.1 (by omega)
theorem lenLegs {w : World} {base n : Nat} {v : Value} {es : List LegV} (h : Rw w base 38 3 v n (flatLegs es)) : es.length = n := by
  have := h.len
  rw [flatLegs_len] at this
  omega
theorem infoLegs : (Tryz.prog.info? 38).map (fun i => (i.zero, i.size, i.bytes)) = some (some (.agg #[.int .i64 0, .int .i64 0, .int .i64 0]), 3, 24) := by kernel_rfl
theorem madeLegs (n : Nat) : (madeCells (Value.agg #[.int .i64 0, .int .i64 0, .int .i64 0]).cells (n * 3)).toList = List.replicate (n * 3) (Value.int .i64 0) := by
  apply List.ext_getElem?
  intro j
  by_cases hj : j < n * 3
  · have h4 : j % 3 < 3 := Nat.mod_lt _ (by omega)
    simp only [madeCells, Value.cells]
    generalize hq : j % 3 = q at h4
    match q, h4 with
    | 0, _ => simp [hj, hq]
    | 1, _ => simp [hj, hq]
    | 2, _ => simp [hj, hq]
  · simp [madeCells, hj]
theorem stepLegs (es : List LegV) (k : Nat) (hk : k < es.length) :
    (((flatLegs (es.take k) ++ List.replicate ((es.length - k) * 3) (Value.int .i64 0)).set (k * 3) (.int .i64 es[k].t)).set (k * 3 + 1) (.int .i64 es[k].o)).set (k * 3 + 2) (.int .i64 es[k].f) =
      flatLegs (es.take (k + 1)) ++ List.replicate ((es.length - (k + 1)) * 3) (Value.int .i64 0) := by
  have e1 : (es.length - k) * 3 = (es.length - (k + 1)) * 3 + 1 + 1 + 1 := by omega
  have e2 : (flatLegs (es.take k)).length = k * 3 := by rw [flatLegs_len]; simp; omega
  rw [List.set_append_right _ _ (by omega), List.set_append_right _ _ (by omega), List.set_append_right _ _ (by omega), e2, e1,
    List.replicate_succ, List.replicate_succ, List.replicate_succ, List.take_succ_eq_append_getElem hk, flatLegs_app]
  have a0 : k * 3 - k * 3 = 0 := by omega
  have a1 : k * 3 + 1 - k * 3 = 1 := by omega
  have a2 : k * 3 + 2 - k * 3 = 2 := by omega
  rw [a0, a1, a2]
  simp [flatLegs, LegV.vs]
theorem set_flatLegs (xs ys : List LegV) (e : LegV) (x0 x1 x2 : Int) (q : Nat) (hq : q = xs.length) :
    (((flatLegs (xs ++ e :: ys)).set (q * 3) (.int .i64 x0)).set (q * 3 + 1) (.int .i64 x1)).set (q * 3 + 2) (.int .i64 x2) = flatLegs (xs ++ ⟨x0, x1, x2⟩ :: ys) := by
  have e2 : (flatLegs xs).length = q * 3 := by rw [flatLegs_len, hq]
  rw [flatLegs_app, flatLegs_app, flatLegs_cons, flatLegs_cons, List.set_append_right _ _ (by omega), List.set_append_right _ _ (by omega), List.set_append_right _ _ (by omega), e2]
  have a0 : q * 3 - q * 3 = 0 := by omega
  have a1 : q * 3 + 1 - q * 3 = 1 := by omega
  have a2 : q * 3 + 2 - q * 3 = 2 := by omega
  rw [a0, a1, a2]
  simp

def markLegV (k : Int) (i : Nat) : LegV := ⟨k + 3 * i, k + 3 * i + 1, k + 3 * i + 2⟩
def marksLegs (k : Int) (n : Nat) : List LegV := (List.range n).map (markLegV k)
theorem marksLegs_len (k : Int) (n : Nat) : (marksLegs k n).length = n := by simp [marksLegs]
theorem marksLegs_succ (k : Int) (n : Nat) : marksLegs k (n + 1) = marksLegs k n ++ [markLegV k n] := by simp [marksLegs, List.range_succ]
theorem marksLegs_get (k : Int) (n i : Nat) (h : i < n) : (marksLegs k n).getD i LegV.zero = markLegV k i := by simp [marksLegs, List.getD, h]
theorem markLegs_step (es : List LegV) (k : Int) (i : Nat) (hi : i < es.length) :
    (((flatLegs (marksLegs k i ++ es.drop i)).set (i * 3) (.int .i64 (k + 3 * i))).set (i * 3 + 1) (.int .i64 (k + 3 * i + 1))).set (i * 3 + 2) (.int .i64 (k + 3 * i + 2)) = flatLegs (marksLegs k (i + 1) ++ es.drop (i + 1)) := by
  rw [List.drop_eq_getElem_cons hi, set_flatLegs _ _ _ _ _ _ i (marksLegs_len k i).symm, marksLegs_succ, List.append_assoc]
  rfl

end Go.Proofs.YtajeiiebddnchaaGreatDoor
