/- Slices of shunts: copied, compared, marked. -/
import Derived.Test.YtjbecnflpfjicaaA
import Derived.Deep.RegionWith
namespace Go.Proofs.Ytjbecnflpfjicaa
open Go.RowKit
structure ShV where
  f : Int
  t : Int
  m : Int
  deriving DecidableEq
def ShV.zero : ShV := ⟨0, 0, 0⟩
def ShV.val (e : ShV) : Value := .agg #[.int .i64 e.f, .int .i64 e.t, .int .i64 e.m]
def ShV.vs (e : ShV) : List Value := [.int .i64 e.f, .int .i64 e.t, .int .i64 e.m]
def flatShs (es : List ShV) : List Value := es.flatMap ShV.vs
theorem flatShs_cons (e : ShV) (es : List ShV) : flatShs (e :: es) = .int .i64 e.f :: .int .i64 e.t :: .int .i64 e.m :: flatShs es := rfl
theorem flatShs_len (es : List ShV) : (flatShs es).length = es.length * 3 := by
  induction es with
  | nil => rfl
  | cons e es ih => rw [flatShs_cons]; simp only [List.length_cons, ih]; omega
theorem flatShs_app (xs ys : List ShV) : flatShs (xs ++ ys) = flatShs xs ++ flatShs ys := by simp [flatShs]
theorem flatShs_get (es : List ShV) : ∀ i, i < es.length → (flatShs es)[i * 3]? = some (.int .i64 (es.getD i ShV.zero).f) ∧ (flatShs es)[i * 3 + 1]? = some (.int .i64 (es.getD i ShV.zero).t) ∧ (flatShs es)[i * 3 + 2]? = some (.int .i64 (es.getD i ShV.zero).m) := by
  induction es with
  | nil => intro i hi; simp at hi
  | cons e es ih =>
    intro i hi
    rw [flatShs_cons]
    cases i with
    | zero => simp
    | succ i =>
      have h := ih i (by simpa using hi)
      have e1 : (i + 1) * 3 = i * 3 + 1 + 1 + 1 := by omega
      rw [e1]
      simpa using h
/-- The cells behind a slice's address hold the structs es. -/
def Shs (w : World) (a : Option Addr) (es : List ShV) : Prop :=
  es = [] ∨ ∃ b off, a = some ⟨b, off, none⟩ ∧ ∀ i, i < es.length → w.cell? ⟨b, off + i * 3, none⟩ = some (.int .i64 (es.getD i ShV.zero).f) ∧ w.cell? ⟨b, off + i * 3 + 1, none⟩ = some (.int .i64 (es.getD i ShV.zero).t) ∧ w.cell? ⟨b, off + i * 3 + 2, none⟩ = some (.int .i64 (es.getD i ShV.zero).m)
theorem Shs.below {w w' : World} {a : Option Addr} {es : List ShV} (h : Shs w a es) (hb : Below w.heap.size w w') : Shs w' a es := by
  rcases h with h | ⟨b, off, ha, hc⟩
  · exact .inl h
  · exact .inr ⟨b, off, ha, fun i hi => ⟨ble hb (hc i hi).1, ble hb (hc i hi).2.1, ble hb (hc i hi).2.2⟩⟩
theorem madeShs (n : Nat) : (madeCells (Value.agg #[.int .i64 0, .int .i64 0, .int .i64 0]).cells (n * 3)).toList = List.replicate (n * 3) (Value.int .i64 0) := by
  apply List.ext_getElem?
  intro j
  by_cases hj : j < n * 3
  · have h4 : j % 3 < 3 := Nat.mod_lt _ (by omega)
    simp only [madeCells, Value.cells]
    generalize hq : j % 3 = q at h4
    match q, h4 with
    | 0, _ => simp [hj, hq]
    | 1, _ => simp [hj, hq]
    | 2, _ => simp [hj, hq]
  · simp [madeCells, hj]
theorem stepShs (es : List ShV) (k : Nat) (hk : k < es.length) :
    (((flatShs (es.take k) ++ List.replicate ((es.length - k) * 3) (Value.int .i64 0)).set (k * 3) (.int .i64 es[k].f)).set (k * 3 + 1) (.int .i64 es[k].t)).set (k * 3 + 2) (.int .i64 es[k].m) =
      flatShs (es.take (k + 1)) ++ List.replicate ((es.length - (k + 1)) * 3) (Value.int .i64 0) := by
  have e1 : (es.length - k) * 3 = (es.length - (k + 1)) * 3 + 1 + 1 + 1 := by omega
  have e2 : (flatShs (es.take k)).length = k * 3 := by rw [flatShs_len]; simp; omega
  rw [List.set_append_right _ _ (by omega), List.set_append_right _ _ (by omega), List.set_append_right _ _ (by omega), e2, e1,
    List.replicate_succ, List.replicate_succ, List.replicate_succ, List.take_succ_eq_append_getElem hk, flatShs_app]
  have a0 : k * 3 - k * 3 = 0 := by omega
  have a1 : k * 3 + 1 - k * 3 = 1 := by omega
  have a2 : k * 3 + 2 - k * 3 = 2 := by omega
  rw [a0, a1, a2]
  simp [flatShs, ShV.vs]
theorem set_flatShs (xs ys : List ShV) (e : ShV) (x0 x1 x2 : Int) (q : Nat) (hq : q = xs.length) :
    (((flatShs (xs ++ e :: ys)).set (q * 3) (.int .i64 x0)).set (q * 3 + 1) (.int .i64 x1)).set (q * 3 + 2) (.int .i64 x2) = flatShs (xs ++ ⟨x0, x1, x2⟩ :: ys) := by
  have e2 : (flatShs xs).length = q * 3 := by rw [flatShs_len, hq]
  rw [flatShs_app, flatShs_app, flatShs_cons, flatShs_cons, List.set_append_right _ _ (by omega), List.set_append_right _ _ (by omega), List.set_append_right _ _ (by omega), e2]
  have a0 : q * 3 - q * 3 = 0 := by omega
  have a1 : q * 3 + 1 - q * 3 = 1 := by omega
  have a2 : q * 3 + 2 - q * 3 = 2 := by omega
  rw [a0, a1, a2]
  simp

def markShV (k : Int) (i : Nat) : ShV := ⟨k + 3 * i, k + 3 * i + 1, k + 3 * i + 2⟩
def marksShs (k : Int) (n : Nat) : List ShV := (List.range n).map (markShV k)
theorem marksShs_len (k : Int) (n : Nat) : (marksShs k n).length = n := by simp [marksShs]
theorem marksShs_succ (k : Int) (n : Nat) : marksShs k (n + 1) = marksShs k n ++ [markShV k n] := by simp [marksShs, List.range_succ]
theorem marksShs_get (k : Int) (n i : Nat) (h : i < n) : (marksShs k n).getD i ShV.zero = markShV k i := by simp [marksShs, List.getD, h]
theorem markShs_step (es : List ShV) (k : Int) (i : Nat) (hi : i < es.length) :
    (((flatShs (marksShs k i ++ es.drop i)).set (i * 3) (.int .i64 (k + 3 * i))).set (i * 3 + 1) (.int .i64 (k + 3 * i + 1))).set (i * 3 + 2) (.int .i64 (k + 3 * i + 2)) = flatShs (marksShs k (i + 1) ++ es.drop (i + 1)) := by
  rw [List.drop_eq_getElem_cons hi, set_flatShs _ _ _ _ _ _ i (marksShs_len k i).symm, marksShs_succ, List.append_assoc]
  rfl

end Go.Proofs.Ytjbecnflpfjicaa
