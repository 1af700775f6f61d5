/- Slices of calls: copied, compared, marked. -/
import Derived.Test.YthlmaljgnhakfaaGreatDoorA
import Derived.Deep.RegionWith
namespace Go.Proofs.YthlmaljgnhakfaaGreatDoor
open Go.RowKit
structure HaltV where
  n : Int
  a : Int
  d : Int
  deriving DecidableEq
def HaltV.zero : HaltV := ⟨0, 0, 0⟩
def HaltV.val (e : HaltV) : Value := .agg #[.int .i64 e.n, .int .i64 e.a, .int .i64 e.d]
def HaltV.vs (e : HaltV) : List Value := [.int .i64 e.n, .int .i64 e.a, .int .i64 e.d]
def flatHalts (es : List HaltV) : List Value := es.flatMap HaltV.vs
theorem flatHalts_cons (e : HaltV) (es : List HaltV) : flatHalts (e :: es) = .int .i64 e.n :: .int .i64 e.a :: .int .i64 e.d :: flatHalts es := rfl
theorem flatHalts_len (es : List HaltV) : (flatHalts es).length = es.length * 3 := by
  induction es with
  | nil => rfl
  | cons e es ih => rw [flatHalts_cons]; simp only [List.length_cons, ih]; omega
theorem flatHalts_app (xs ys : List HaltV) : flatHalts (xs ++ ys) = flatHalts xs ++ flatHalts ys := by simp [flatHalts]
theorem flatHalts_get (es : List HaltV) : ∀ i, i < es.length → (flatHalts es)[i * 3]? = some (.int .i64 (es.getD i HaltV.zero).n) ∧ (flatHalts es)[i * 3 + 1]? = some (.int .i64 (es.getD i HaltV.zero).a) ∧ (flatHalts es)[i * 3 + 2]? = some (.int .i64 (es.getD i HaltV.zero).d) := by
  induction es with
  | nil => intro i hi; simp at hi
  | cons e es ih =>
    intro i hi
    rw [flatHalts_cons]
    cases i with
    | zero => simp
    | succ i =>
      have h := ih i (by simpa using hi)
      have e1 : (i + 1) * 3 = i * 3 + 1 + 1 + 1 := by omega
      rw [e1]
      simpa using h
/-- The cells behind a slice's address hold the structs es. -/
def Halts (w : World) (a : Option Addr) (es : List HaltV) : Prop :=
  es = [] ∨ ∃ b off, a = some ⟨b, off, none⟩ ∧ ∀ i, i < es.length → w.cell? ⟨b, off + i * 3, none⟩ = some (.int .i64 (es.getD i HaltV.zero).n) ∧ w.cell? ⟨b, off + i * 3 + 1, none⟩ = some (.int .i64 (es.getD i HaltV.zero).a) ∧ w.cell? ⟨b, off + i * 3 + 2, none⟩ = some (.int .i64 (es.getD i HaltV.zero).d)
theorem Halts.below {w w' : World} {a : Option Addr} {es : List HaltV} (h : Halts w a es) (hb : Below w.heap.size w w') : Halts w' a es := by
  rcases h with h | ⟨b, off, ha, hc⟩
  · exact .inl h
  · exact .inr ⟨b, off, ha, fun i hi => ⟨ble hb (hc i hi).1, ble hb (hc i hi).2.1, ble hb (hc i hi).2.2⟩⟩
theorem Halts.of_owns {w : World} {base g n cap : Nat} {es : List HaltV} (h : w.ownsRow base 33 3 (.slice (some ⟨g, 0, none⟩) n cap) n (flatHalts es)) : Halts w (some ⟨g, 0, none⟩) es := by
  refine .inr ⟨g, 0, rfl, fun i hi => ?_⟩
  have hl := h.1
  rw [flatHalts_len] at hl
  obtain ⟨f0, f1, f2⟩ := flatHalts_get es i hi
  refine ⟨?_, ?_, ?_⟩
  · rw [Nat.zero_add, h.cellAt _ (by omega)]; exact f0
  · rw [Nat.zero_add, h.cellAt _ (by omega)]; exact f1
  · rw [Nat.zero_add, h.cellAt _ (by omega)]; exact f2
theorem Halts.own {w : World} {base n c : Nat} {a : Option Addr} {es : List HaltV} (h : w.ownsRow base 33 3 (.slice a n c) n (flatHalts es)) : Halts w a es := by
  rcases h.2 with ⟨_, h0⟩ | ⟨g, cap', cur, he, _⟩
  · left
    have hl := h.1
    rw [flatHalts_len, h0] at hl
    exact List.length_eq_zero_iff.1 (by omega)
  · simp only [Value.slice.injEq] at he
    obtain ⟨rfl, _, rfl⟩ := he
    exact Halts.of_owns h
theorem Halts.rw {w : World} {base n c : Nat} {a : Option Addr} {es : List HaltV} (h : Rw w base 33 3 (.slice a n c) n (flatHalts es)) : Halts w a es := by
  rcases h with h | ⟨h0, h1, _⟩
  · exact Halts.own h
  · left
    have := flatHalts_len es
    rw [h1] at this
    simp at this
    exact List.length_eq_zero_iff.1 (by omega)
theorem lenHalts {w : World} {base n : Nat} {v : Value} {es : List HaltV} (h : Rw w base 33 3 v n (flatHalts es)) : es.length = n := by
  have := h.len
  rw [flatHalts_len] at this
  omega
theorem infoHalts : (Tryz.prog.info? 33).map (fun i => (i.zero, i.size, i.bytes)) = some (some (.agg #[.int .i64 0, .int .i64 0, .int .i64 0]), 3, 24) := by kernel_rfl
theorem madeHalts (n : Nat) : (madeCells (Value.agg #[.int .i64 0, .int .i64 0, .int .i64 0]).cells (n * 3)).toList = List.replicate (n * 3) (Value.int .i64 0) := by
  apply List.ext_getElem?
  intro j
  by_cases hj : j < n * 3
  · have h4 : j % 3 < 3 := Nat.mod_lt _ (by omega)
    simp only [madeCells, Value.cells]
    generalize hq : j % 3 = q at h4
    match q, h4 with
    | 0, _ => simp [hj, hq]
    | 1, _ => simp [hj, hq]
    | 2, _ => simp [hj, hq]
  · simp [madeCells, hj]
theorem stepHalts (es : List HaltV) (k : Nat) (hk : k < es.length) :
    (((flatHalts (es.take k) ++ List.replicate ((es.length - k) * 3) (Value.int .i64 0)).set (k * 3) (.int .i64 es[k].n)).set (k * 3 + 1) (.int .i64 es[k].a)).set (k * 3 + 2) (.int .i64 es[k].d) =
      flatHalts (es.take (k + 1)) ++ List.replicate ((es.length - (k + 1)) * 3) (Value.int .i64 0) := by
  have e1 : (es.length - k) * 3 = (es.length - (k + 1)) * 3 + 1 + 1 + 1 := by omega
  have e2 : (flatHalts (es.take k)).length = k * 3 := by rw [flatHalts_len]; simp; omega
  rw [List.set_append_right _ _ (by omega), List.set_append_right _ _ (by omega), List.set_append_right _ _ (by omega), e2, e1,
    List.replicate_succ, List.replicate_succ, List.replicate_succ, List.take_succ_eq_append_getElem hk, flatHalts_app]
  have a0 : k * 3 - k * 3 = 0 := by omega
  have a1 : k * 3 + 1 - k * 3 = 1 := by omega
  have a2 : k * 3 + 2 - k * 3 = 2 := by omega
  rw [a0, a1, a2]
  simp [flatHalts, HaltV.vs]
theorem set_flatHalts (xs ys : List HaltV) (e : HaltV) (x0 x1 x2 : Int) (q : Nat) (hq : q = xs.length) :
    (((flatHalts (xs ++ e :: ys)).set (q * 3) (.int .i64 x0)).set (q * 3 + 1) (.int .i64 x1)).set (q * 3 + 2) (.int .i64 x2) = flatHalts (xs ++ ⟨x0, x1, x2⟩ :: ys) := by
  have e2 : (flatHalts xs).length = q * 3 := by rw [flatHalts_len, hq]
  rw [flatHalts_app, flatHalts_app, flatHalts_cons, flatHalts_cons, List.set_append_right _ _ (by omega), List.set_append_right _ _ (by omega), List.set_append_right _ _ (by omega), e2]
  have a0 : q * 3 - q * 3 = 0 := by omega
  have a1 : q * 3 + 1 - q * 3 = 1 := by omega
  have a2 : q * 3 + 2 - q * 3 = 2 := by omega
  rw [a0, a1, a2]
  simp

def markHaltV (k : Int) (i : Nat) : HaltV := ⟨k + 3 * i, k + 3 * i + 1, k + 3 * i + 2⟩
def marksHalts (k : Int) (n : Nat) : List HaltV := (List.range n).map (markHaltV k)
theorem marksHalts_len (k : Int) (n : Nat) : (marksHalts k n).length = n := by simp [marksHalts]
theorem marksHalts_succ (k : Int) (n : Nat) : marksHalts k (n + 1) = marksHalts k n ++ [markHaltV k n] := by simp [marksHalts, List.range_succ]
theorem marksHalts_get (k : Int) (n i : Nat) (h : i < n) : (marksHalts k n).getD i HaltV.zero = markHaltV k i := by simp [marksHalts, List.getD, h]
theorem markHalts_step (es : List HaltV) (k : Int) (i : Nat) (hi : i < es.length) :
    (((flatHalts (marksHalts k i ++ es.drop i)).set (i * 3) (.int .i64 (k + 3 * i))).set (i * 3 + 1) (.int .i64 (k + 3 * i + 1))).set (i * 3 + 2) (.int .i64 (k + 3 * i + 2)) = flatHalts (marksHalts k (i + 1) ++ es.drop (i + 1)) := by
  rw [List.drop_eq_getElem_cons hi, set_flatHalts _ _ _ _ _ _ i (marksHalts_len k i).symm, marksHalts_succ, List.append_assoc]
  rfl

end Go.Proofs.YthlmaljgnhakfaaGreatDoor
