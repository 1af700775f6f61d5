/- Slices of trains: copied, compared, marked. -/
import Derived.Test.YtcfapadcgboalaaDoorA
import Derived.Deep.RegionWith
namespace Go.Proofs.YtcfapadcgboalaaDoor
open Go.RowKit
structure SpanV where
  r : Int
  f : Int
  deriving DecidableEq
def SpanV.zero : SpanV := ⟨0, 0⟩
def SpanV.val (e : SpanV) : Value := .agg #[.int .i64 e.r, .int .i64 e.f]
def SpanV.vs (e : SpanV) : List Value := [.int .i64 e.r, .int .i64 e.f]
def flatSpans (es : List SpanV) : List Value := es.flatMap SpanV.vs
theorem flatSpans_cons (e : SpanV) (es : List SpanV) : flatSpans (e :: es) = .int .i64 e.r :: .int .i64 e.f :: flatSpans es := rfl
theorem flatSpans_len (es : List SpanV) : (flatSpans es).length = es.length * 2 := by
  induction es with
  | nil => rfl
  | cons e es ih => rw [flatSpans_cons]; simp only [List.length_cons, ih]; omega
theorem flatSpans_app (xs ys : List SpanV) : flatSpans (xs ++ ys) = flatSpans xs ++ flatSpans ys := by simp [flatSpans]
theorem flatSpans_get (es : List SpanV) : ∀ i, i < es.length → (flatSpans es)[i * 2]? = some (.int .i64 (es.getD i SpanV.zero).r) ∧ (flatSpans es)[i * 2 + 1]? = some (.int .i64 (es.getD i SpanV.zero).f) := by
  induction es with
  | nil => intro i hi; simp at hi
  | cons e es ih =>
    intro i hi
    rw [flatSpans_cons]
    cases i with
    | zero => simp
    | succ i =>
      have h := ih i (by simpa using hi)
      have e1 : (i + 1) * 2 = i * 2 + 1 + 1 := by omega
      rw [e1]
      simpa using h
/-- The cells behind a slice's address hold the structs es. -/
def Spans (w : World) (a : Option Addr) (es : List SpanV) : Prop :=
  es = [] ∨ ∃ b off, a = some ⟨b, off, none⟩ ∧ ∀ i, i < es.length → w.cell? ⟨b, off + i * 2, none⟩ = some (.int .i64 (es.getD i SpanV.zero).r) ∧ w.cell? ⟨b, off + i * 2 + 1, none⟩ = some (.int .i64 (es.getD i SpanV.zero).f)
theorem Spans.below {w w' : World} {a : Option Addr} {es : List SpanV} (h : Spans w a es) (hb : Below w.heap.size w w') : Spans w' a es := by
  rcases h with h | ⟨b, off, ha, hc⟩
  · exact .inl h
  · exact .inr ⟨b, off, ha, fun i hi => ⟨ble hb (hc i hi).1, ble hb (hc i hi).2⟩⟩
theorem Spans.of_owns {w : World} {base g n cap : Nat} {es : List SpanV} (h : w.ownsRow base 34 2 (.slice (some ⟨g, 0, none⟩) n cap) n (flatSpans es)) : Spans w (some ⟨g, 0, none⟩) es := by
  refine .inr ⟨g, 0, rfl, fun i hi => ?_⟩
  have hl := h.1
  rw [flatSpans_len] at hl
  obtain ⟨f0, f1⟩ := flatSpans_get es i hi
  refine ⟨?_, ?_⟩
  · rw [Nat.zero_add, h.cellAt _ (by omega)]; exact f0
  · rw [Nat.zero_add, h.cellAt _ (by omega)]; exact f1
theorem Spans.own {w : World} {base n c : Nat} {a : Option Addr} {es : List SpanV} (h : w.ownsRow base 34 2 (.slice a n c) n (flatSpans es)) : Spans w a es := by
  rcases h.2 with ⟨_, h0⟩ | ⟨g, cap', cur, he, _⟩
  · left
    have hl := h.1
    rw [flatSpans_len, h0] at hl
    exact List.length_eq_zero_iff.1 (by omega)
  · simp only [Value.slice.injEq] at he
    obtain ⟨rfl, _, rfl⟩ := he
    exact Spans.of_owns h
theorem Spans.rw {w : World} {base n c : Nat} {a : Option Addr} {es : List SpanV} (h : Rw w base 34 2 (.slice a n c) n (flatSpans es)) : Spans w a es := by
  rcases h with h | ⟨h0, h1, _⟩
  · exact Spans.own h
  · left
    have := flatSpans_len es
    rw [h1] at this
    simp at this
    exact List.length_eq_zero_iff.1 (by omega)
theorem lenSpans {w : World} {base n : Nat} {v : Value} {es : List SpanV} (h : Rw w base 34 2 v n (flatSpans es)) : es.length = n := by
  have := h.len
  rw [flatSpans_len] at this
  omega
theorem infoSpans : (Tryd.prog.info? 34).map (fun i => (i.zero, i.size, i.bytes)) = some (some (.agg #[.int .i64 0, .int .i64 0]), 2, 16) := by kernel_rfl
theorem madeSpans (n : Nat) : (madeCells (Value.agg #[.int .i64 0, .int .i64 0]).cells (n * 2)).toList = List.replicate (n * 2) (Value.int .i64 0) := by
  apply List.ext_getElem?
  intro j
  by_cases hj : j < n * 2
  · have h4 : j % 2 < 2 := Nat.mod_lt _ (by omega)
    simp only [madeCells, Value.cells]
    generalize hq : j % 2 = q at h4
    match q, h4 with
    | 0, _ => simp [hj, hq]
    | 1, _ => simp [hj, hq]
  · simp [madeCells, hj]
theorem stepSpans (es : List SpanV) (k : Nat) (hk : k < es.length) :
    ((flatSpans (es.take k) ++ List.replicate ((es.length - k) * 2) (Value.int .i64 0)).set (k * 2) (.int .i64 es[k].r)).set (k * 2 + 1) (.int .i64 es[k].f) =
      flatSpans (es.take (k + 1)) ++ List.replicate ((es.length - (k + 1)) * 2) (Value.int .i64 0) := by
  have e1 : (es.length - k) * 2 = (es.length - (k + 1)) * 2 + 1 + 1 := by omega
  have e2 : (flatSpans (es.take k)).length = k * 2 := by rw [flatSpans_len]; simp; omega
  rw [List.set_append_right _ _ (by omega), List.set_append_right _ _ (by omega), e2, e1,
    List.replicate_succ, List.replicate_succ, List.take_succ_eq_append_getElem hk, flatSpans_app]
  have a0 : k * 2 - k * 2 = 0 := by omega
  have a1 : k * 2 + 1 - k * 2 = 1 := by omega
  rw [a0, a1]
  simp [flatSpans, SpanV.vs]
theorem set_flatSpans (xs ys : List SpanV) (e : SpanV) (x0 x1 : Int) (q : Nat) (hq : q = xs.length) :
    ((flatSpans (xs ++ e :: ys)).set (q * 2) (.int .i64 x0)).set (q * 2 + 1) (.int .i64 x1) = flatSpans (xs ++ ⟨x0, x1⟩ :: ys) := by
  have e2 : (flatSpans xs).length = q * 2 := by rw [flatSpans_len, hq]
  rw [flatSpans_app, flatSpans_app, flatSpans_cons, flatSpans_cons, List.set_append_right _ _ (by omega), List.set_append_right _ _ (by omega), e2]
  have a0 : q * 2 - q * 2 = 0 := by omega
  have a1 : q * 2 + 1 - q * 2 = 1 := by omega
  rw [a0, a1]
  simp

def markSpanV (k : Int) (i : Nat) : SpanV := ⟨k + 2 * i, k + 2 * i + 1⟩
def marksSpans (k : Int) (n : Nat) : List SpanV := (List.range n).map (markSpanV k)
theorem marksSpans_len (k : Int) (n : Nat) : (marksSpans k n).length = n := by simp [marksSpans]
theorem marksSpans_succ (k : Int) (n : Nat) : marksSpans k (n + 1) = marksSpans k n ++ [markSpanV k n] := by simp [marksSpans, List.range_succ]
theorem marksSpans_get (k : Int) (n i : Nat) (h : i < n) : (marksSpans k n).getD i SpanV.zero = markSpanV k i := by simp [marksSpans, List.getD, h]
theorem markSpans_step (es : List SpanV) (k : Int) (i : Nat) (hi : i < es.length) :
    ((flatSpans (marksSpans k i ++ es.drop i)).set (i * 2) (.int .i64 (k + 2 * i))).set (i * 2 + 1) (.int .i64 (k + 2 * i + 1)) = flatSpans (marksSpans k (i + 1) ++ es.drop (i + 1)) := by
  rw [List.drop_eq_getElem_cons hi, set_flatSpans _ _ _ _ _ i (marksSpans_len k i).symm, marksSpans_succ, List.append_assoc]
  rfl

end Go.Proofs.YtcfapadcgboalaaDoor
