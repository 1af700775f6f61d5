/- Slices of uses: copied, compared, marked. -/
import Derived.Test.YthfknkmabjgklaaA
import Derived.Deep.RegionWith
namespace Go.Proofs.Ythfknkmabjgklaa
open Go.RowKit
structure RideV where
  e : Int
  d : Int
  f : Int
  t : Int
  p : Int
  deriving DecidableEq
def RideV.zero : RideV := ⟨0, 0, 0, 0, 0⟩
def RideV.val (e : RideV) : Value := .agg #[.int .i64 e.e, .int .i64 e.d, .int .i64 e.f, .int .i64 e.t, .int .i64 e.p]
def RideV.vs (e : RideV) : List Value := [.int .i64 e.e, .int .i64 e.d, .int .i64 e.f, .int .i64 e.t, .int .i64 e.p]
def flatRides (es : List RideV) : List Value := es.flatMap RideV.vs
theorem flatRides_cons (e : RideV) (es : List RideV) : flatRides (e :: es) = .int .i64 e.e :: .int .i64 e.d :: .int .i64 e.f :: .int .i64 e.t :: .int .i64 e.p :: flatRides es := rfl
theorem flatRides_len (es : List RideV) : (flatRides es).length = es.length * 5 := by
  induction es with
  | nil => rfl
  | cons e es ih => rw [flatRides_cons]; simp only [List.length_cons, ih]; omega
theorem flatRides_app (xs ys : List RideV) : flatRides (xs ++ ys) = flatRides xs ++ flatRides ys := by simp [flatRides]
theorem flatRides_get (es : List RideV) : ∀ i, i < es.length → (flatRides es)[i * 5]? = some (.int .i64 (es.getD i RideV.zero).e) ∧ (flatRides es)[i * 5 + 1]? = some (.int .i64 (es.getD i RideV.zero).d) ∧ (flatRides es)[i * 5 + 2]? = some (.int .i64 (es.getD i RideV.zero).f) ∧ (flatRides es)[i * 5 + 3]? = some (.int .i64 (es.getD i RideV.zero).t) ∧ (flatRides es)[i * 5 + 4]? = some (.int .i64 (es.getD i RideV.zero).p) := by
  induction es with
  | nil => intro i hi; simp at hi
  | cons e es ih =>
    intro i hi
    rw [flatRides_cons]
    cases i with
    | zero => simp
    | succ i =>
      have h := ih i (by simpa using hi)
      have e1 : (i + 1) * 5 = i * 5 + 1 + 1 + 1 + 1 + 1 := by omega
      rw [e1]
      simpa using h
/-- The cells behind a slice's address hold the structs es. -/
def Rides (w : World) (a : Option Addr) (es : List RideV) : Prop :=
  es = [] ∨ ∃ b off, a = some ⟨b, off, none⟩ ∧ ∀ i, i < es.length → w.cell? ⟨b, off + i * 5, none⟩ = some (.int .i64 (es.getD i RideV.zero).e) ∧ w.cell? ⟨b, off + i * 5 + 1, none⟩ = some (.int .i64 (es.getD i RideV.zero).d) ∧ w.cell? ⟨b, off + i * 5 + 2, none⟩ = some (.int .i64 (es.getD i RideV.zero).f) ∧ w.cell? ⟨b, off + i * 5 + 3, none⟩ = some (.int .i64 (es.getD i RideV.zero).t) ∧ w.cell? ⟨b, off + i * 5 + 4, none⟩ = some (.int .i64 (es.getD i RideV.zero).p)
theorem Rides.below {w w' : World} {a : Option Addr} {es : List RideV} (h : Rides w a es) (hb : Below w.heap.size w w') : Rides w' a es := by
  rcases h with h | ⟨b, off, ha, hc⟩
  · exact .inl h
  · exact .inr ⟨b, off, ha, fun i hi => ⟨ble hb (hc i hi).1, ble hb (hc i hi).2.1, ble hb (hc i hi).2.2.1, ble hb (hc i hi).2.2.2.1, ble hb (hc i hi).2.2.2.2⟩⟩
theorem Rides.of_owns {w : World} {base g n cap : Nat} {es : List RideV} (h : w.ownsRow base 78 5 (.slice (some ⟨g, 0, none⟩) n cap) n (flatRides es)) : Rides w (some ⟨g, 0, none⟩) es := by
  refine .inr ⟨g, 0, rfl, fun i hi => ?_⟩
  have hl := h.1
  rw [flatRides_len] at hl
  obtain ⟨f0, f1, f2, f3, f4⟩ := flatRides_get es i hi
  refine ⟨?_, ?_, ?_, ?_, ?_⟩
  · rw [Nat.zero_add, h.cellAt _ (by omega)]; exact f0
  · rw [Nat.zero_add, h.cellAt _ (by omega)]; exact f1
  · rw [Nat.zero_add, h.cellAt _ (by omega)]; exact f2
  · rw [Nat.zero_add, h.cellAt _ (by omega)]; exact f3
  · rw [Nat.zero_add, h.cellAt _ (by omega)]; exact f4
theorem Rides.own {w : World} {base n c : Nat} {a : Option Addr} {es : List RideV} (h : w.ownsRow base 78 5 (.slice a n c) n (flatRides es)) : Rides w a es := by
  rcases h.2 with ⟨_, h0⟩ | ⟨g, cap', cur, he, _⟩
  · left
    have hl := h.1
    rw [flatRides_len, h0] at hl
    exact List.length_eq_zero_iff.1 (by omega)
  · simp only [Value.slice.injEq] at he
    obtain ⟨rfl, _, rfl⟩ := he
    exact Rides.of_owns h
theorem Rides.rw {w : World} {base n c : Nat} {a : Option Addr} {es : List RideV} (h : Rw w base 78 5 (.slice a n c) n (flatRides es)) : Rides w a es := by
  rcases h with h | ⟨h0, h1, _⟩
  · exact Rides.own h
  · left
    have := flatRides_len es
    rw [h1] at this
    simp at this
    exact List.length_eq_zero_iff.1 (by omega)
theorem lenRides {w : World} {base n : Nat} {v : Value} {es : List RideV} (h : Rw w base 78 5 v n (flatRides es)) : es.length = n := by
  have := h.len
  rw [flatRides_len] at this
  omega
theorem infoRides : (Try.prog.info? 78).map (fun i => (i.zero, i.size, i.bytes)) = some (some (.agg #[.int .i64 0, .int .i64 0, .int .i64 0, .int .i64 0, .int .i64 0]), 5, 40) := by kernel_rfl
theorem madeRides (n : Nat) : (madeCells (Value.agg #[.int .i64 0, .int .i64 0, .int .i64 0, .int .i64 0, .int .i64 0]).cells (n * 5)).toList = List.replicate (n * 5) (Value.int .i64 0) := by
  apply List.ext_getElem?
  intro j
  by_cases hj : j < n * 5
  · have h4 : j % 5 < 5 := Nat.mod_lt _ (by omega)
    simp only [madeCells, Value.cells]
    generalize hq : j % 5 = q at h4
    match q, h4 with
    | 0, _ => simp [hj, hq]
    | 1, _ => simp [hj, hq]
    | 2, _ => simp [hj, hq]
    | 3, _ => simp [hj, hq]
    | 4, _ => simp [hj, hq]
  · simp [madeCells, hj]
theorem stepRides (es : List RideV) (k : Nat) (hk : k < es.length) :
    (((((flatRides (es.take k) ++ List.replicate ((es.length - k) * 5) (Value.int .i64 0)).set (k * 5) (.int .i64 es[k].e)).set (k * 5 + 1) (.int .i64 es[k].d)).set (k * 5 + 2) (.int .i64 es[k].f)).set (k * 5 + 3) (.int .i64 es[k].t)).set (k * 5 + 4) (.int .i64 es[k].p) =
      flatRides (es.take (k + 1)) ++ List.replicate ((es.length - (k + 1)) * 5) (Value.int .i64 0) := by
  have e1 : (es.length - k) * 5 = (es.length - (k + 1)) * 5 + 1 + 1 + 1 + 1 + 1 := by omega
  have e2 : (flatRides (es.take k)).length = k * 5 := by rw [flatRides_len]; simp; omega
  rw [List.set_append_right _ _ (by omega), List.set_append_right _ _ (by omega), List.set_append_right _ _ (by omega), List.set_append_right _ _ (by omega), List.set_append_right _ _ (by omega), e2, e1,
    List.replicate_succ, List.replicate_succ, List.replicate_succ, List.replicate_succ, List.replicate_succ, List.take_succ_eq_append_getElem hk, flatRides_app]
  have a0 : k * 5 - k * 5 = 0 := by omega
  have a1 : k * 5 + 1 - k * 5 = 1 := by omega
  have a2 : k * 5 + 2 - k * 5 = 2 := by omega
  have a3 : k * 5 + 3 - k * 5 = 3 := by omega
  have a4 : k * 5 + 4 - k * 5 = 4 := by omega
  rw [a0, a1, a2, a3, a4]
  simp [flatRides, RideV.vs]
theorem set_flatRides (xs ys : List RideV) (e : RideV) (x0 x1 x2 x3 x4 : Int) (q : Nat) (hq : q = xs.length) :
    (((((flatRides (xs ++ e :: ys)).set (q * 5) (.int .i64 x0)).set (q * 5 + 1) (.int .i64 x1)).set (q * 5 + 2) (.int .i64 x2)).set (q * 5 + 3) (.int .i64 x3)).set (q * 5 + 4) (.int .i64 x4) = flatRides (xs ++ ⟨x0, x1, x2, x3, x4⟩ :: ys) := by
  have e2 : (flatRides xs).length = q * 5 := by rw [flatRides_len, hq]
  rw [flatRides_app, flatRides_app, flatRides_cons, flatRides_cons, List.set_append_right _ _ (by omega), List.set_append_right _ _ (by omega), List.set_append_right _ _ (by omega), List.set_append_right _ _ (by omega), List.set_append_right _ _ (by omega), e2]
  have a0 : q * 5 - q * 5 = 0 := by omega
  have a1 : q * 5 + 1 - q * 5 = 1 := by omega
  have a2 : q * 5 + 2 - q * 5 = 2 := by omega
  have a3 : q * 5 + 3 - q * 5 = 3 := by omega
  have a4 : q * 5 + 4 - q * 5 = 4 := by omega
  rw [a0, a1, a2, a3, a4]
  simp

def markRideV (k : Int) (i : Nat) : RideV := ⟨k + 5 * i, k + 5 * i + 1, k + 5 * i + 2, k + 5 * i + 3, k + 5 * i + 4⟩
def marksRides (k : Int) (n : Nat) : List RideV := (List.range n).map (markRideV k)
theorem marksRides_len (k : Int) (n : Nat) : (marksRides k n).length = n := by simp [marksRides]
theorem marksRides_succ (k : Int) (n : Nat) : marksRides k (n + 1) = marksRides k n ++ [markRideV k n] := by simp [marksRides, List.range_succ]
theorem marksRides_get (k : Int) (n i : Nat) (h : i < n) : (marksRides k n).getD i RideV.zero = markRideV k i := by simp [marksRides, List.getD, h]
theorem markRides_step (es : List RideV) (k : Int) (i : Nat) (hi : i < es.length) :
    (((((flatRides (marksRides k i ++ es.drop i)).set (i * 5) (.int .i64 (k + 5 * i))).set (i * 5 + 1) (.int .i64 (k + 5 * i + 1))).set (i * 5 + 2) (.int .i64 (k + 5 * i + 2))).set (i * 5 + 3) (.int .i64 (k + 5 * i + 3))).set (i * 5 + 4) (.int .i64 (k + 5 * i + 4)) = flatRides (marksRides k (i + 1) ++ es.drop (i + 1)) := by
  rw [List.drop_eq_getElem_cons hi, set_flatRides _ _ _ _ _ _ _ _ i (marksRides_len k i).symm, marksRides_succ, List.append_assoc]
  rfl

end Go.Proofs.Ythfknkmabjgklaa
