/- Rows of cuts. -/
import Derived.Test.YtdmdoknkkfhheaaA
import Derived.Deep.RegionWith
namespace Go.Proofs.Ytdmdoknkkfhheaa
open Go.RowKit
structure CutV where
  u : Int
  x : Int
  deriving DecidableEq
def CutV.zero : CutV := ⟨0, 0⟩
def CutV.val (e : CutV) : Value := .agg #[.int .i64 e.u, .int .i64 e.x]
def CutV.vs (e : CutV) : List Value := [.int .i64 e.u, .int .i64 e.x]
def flatCuts (es : List CutV) : List Value := es.flatMap CutV.vs
theorem flatCuts_cons (e : CutV) (es : List CutV) : flatCuts (e :: es) = .int .i64 e.u :: .int .i64 e.x :: flatCuts es := rfl
theorem flatCuts_len (es : List CutV) : (flatCuts es).length = es.length * 2 := by
  induction es with
  | nil => rfl
  | cons e es ih => rw [flatCuts_cons]; simp only [List.length_cons, ih]; omega
theorem flatCuts_app (xs ys : List CutV) : flatCuts (xs ++ ys) = flatCuts xs ++ flatCuts ys := by simp [flatCuts]
theorem flatCuts_get (es : List CutV) : ∀ i, i < es.length → (flatCuts es)[i * 2]? = some (.int .i64 (es.getD i CutV.zero).u) ∧ (flatCuts es)[i * 2 + 1]? = some (.int .i64 (es.getD i CutV.zero).x) := by
  induction es with
  | nil => intro i hi; simp at hi
  | cons e es ih =>
    intro i hi
    rw [flatCuts_cons]
    cases i with
    | zero => simp
    | succ i =>
      have h := ih i (by simpa using hi)
      have e1 : (i + 1) * 2 = i * 2 + 1 + 1 := by omega
      rw [e1]
      simpa using h
/-- The cells behind a slice's address hold the structs es. -/
def Cuts (w : World) (a : Option Addr) (es : List CutV) : Prop :=
  es = [] ∨ ∃ b off, a = some ⟨b, off, none⟩ ∧ ∀ i, i < es.length → w.cell? ⟨b, off + i * 2, none⟩ = some (.int .i64 (es.getD i CutV.zero).u) ∧ w.cell? ⟨b, off + i * 2 + 1, none⟩ = some (.int .i64 (es.getD i CutV.zero).x)
theorem Cuts.below {w w' : World} {a : Option Addr} {es : List CutV} (h : Cuts w a es) (hb : Below w.heap.size w w') : Cuts w' a es := by
  rcases h with h | ⟨b, off, ha, hc⟩
  · exact .inl h
  · exact .inr ⟨b, off, ha, fun i hi => ⟨ble hb (hc i hi).1, ble hb (hc i hi).2⟩⟩
theorem Cuts.of_owns {w : World} {base g n cap : Nat} {es : List CutV} (h : w.ownsRow base 69 2 (.slice (some ⟨g, 0, none⟩) n cap) n (flatCuts es)) : Cuts w (some ⟨g, 0, none⟩) es := by
  refine .inr ⟨g, 0, rfl, fun i hi => ?_⟩
  have hl := h.1
  rw [flatCuts_len] at hl
  obtain ⟨f0, f1⟩ := flatCuts_get es i hi
  refine ⟨?_, ?_⟩
  · rw [Nat.zero_add, h.cellAt _ (by omega)]; exact f0
  · rw [Nat.zero_add, h.cellAt _ (by omega)]; exact f1
theorem Cuts.own {w : World} {base n c : Nat} {a : Option Addr} {es : List CutV} (h : w.ownsRow base 69 2 (.slice a n c) n (flatCuts es)) : Cuts w a es := by
  rcases h.2 with ⟨_, h0⟩ | ⟨g, cap', cur, he, _⟩
  · left
    have hl := h.1
    rw [flatCuts_len, h0] at hl
    exact List.length_eq_zero_iff.1 (by omega)
  · simp only [Value.slice.injEq] at he
    obtain ⟨rfl, _, rfl⟩ := he
    exact Cuts.of_owns h
theorem Cuts.rw {w : World} {base n c : Nat} {a : Option Addr} {es : List CutV} (h : Rw w base 69 2 (.slice a n c) n (flatCuts es)) : Cuts w a es := by
  rcases h with h | ⟨h0, h1, _⟩
  · exact Cuts.own h
  · left
    have := flatCuts_len es
    rw [h1] at this
    simp at this
    exact List.length_eq_zero_iff.1 (by omega)
theorem lenCuts {w : World} {base n : Nat} {v : Value} {es : List CutV} (h : Rw w base 69 2 v n (flatCuts es)) : es.length = n := by
  have := h.len
  rw [flatCuts_len] at this
  omega
theorem infoCuts : (Try.prog.info? 69).map (fun i => (i.zero, i.size, i.bytes)) = some (some (.agg #[.int .i64 0, .int .i64 0]), 2, 16) := by kernel_rfl
theorem madeCuts (n : Nat) : (madeCells (Value.agg #[.int .i64 0, .int .i64 0]).cells (n * 2)).toList = List.replicate (n * 2) (Value.int .i64 0) := by
  apply List.ext_getElem?
  intro j
  by_cases hj : j < n * 2
  · have h4 : j % 2 < 2 := Nat.mod_lt _ (by omega)
    simp only [madeCells, Value.cells]
    generalize hq : j % 2 = q at h4
    match q, h4 with
    | 0, _ => simp [hj, hq]
    | 1, _ => simp [hj, hq]
  · simp [madeCells, hj]
theorem stepCuts (es : List CutV) (k : Nat) (hk : k < es.length) :
    ((flatCuts (es.take k) ++ List.replicate ((es.length - k) * 2) (Value.int .i64 0)).set (k * 2) (.int .i64 es[k].u)).set (k * 2 + 1) (.int .i64 es[k].x) =
      flatCuts (es.take (k + 1)) ++ List.replicate ((es.length - (k + 1)) * 2) (Value.int .i64 0) := by
  have e1 : (es.length - k) * 2 = (es.length - (k + 1)) * 2 + 1 + 1 := by omega
  have e2 : (flatCuts (es.take k)).length = k * 2 := by rw [flatCuts_len]; simp; omega
  rw [List.set_append_right _ _ (by omega), List.set_append_right _ _ (by omega), e2, e1,
    List.replicate_succ, List.replicate_succ, List.take_succ_eq_append_getElem hk, flatCuts_app]
  have a0 : k * 2 - k * 2 = 0 := by omega
  have a1 : k * 2 + 1 - k * 2 = 1 := by omega
  rw [a0, a1]
  simp [flatCuts, CutV.vs]
theorem set_flatCuts (xs ys : List CutV) (e : CutV) (x0 x1 : Int) (q : Nat) (hq : q = xs.length) :
    ((flatCuts (xs ++ e :: ys)).set (q * 2) (.int .i64 x0)).set (q * 2 + 1) (.int .i64 x1) = flatCuts (xs ++ ⟨x0, x1⟩ :: ys) := by
  have e2 : (flatCuts xs).length = q * 2 := by rw [flatCuts_len, hq]
  rw [flatCuts_app, flatCuts_app, flatCuts_cons, flatCuts_cons, List.set_append_right _ _ (by omega), List.set_append_right _ _ (by omega), e2]
  have a0 : q * 2 - q * 2 = 0 := by omega
  have a1 : q * 2 + 1 - q * 2 = 1 := by omega
  rw [a0, a1]
  simp

def markCutV (k : Int) (i : Nat) : CutV := ⟨k + 2 * i, k + 2 * i + 1⟩
def marksCuts (k : Int) (n : Nat) : List CutV := (List.range n).map (markCutV k)
theorem marksCuts_len (k : Int) (n : Nat) : (marksCuts k n).length = n := by simp [marksCuts]
theorem marksCuts_succ (k : Int) (n : Nat) : marksCuts k (n + 1) = marksCuts k n ++ [markCutV k n] := by simp [marksCuts, List.range_succ]
theorem marksCuts_get (k : Int) (n i : Nat) (h : i < n) : (marksCuts k n).getD i CutV.zero = markCutV k i := by simp [marksCuts, List.getD, h]
theorem markCuts_step (es : List CutV) (k : Int) (i : Nat) (hi : i < es.length) :
    ((flatCuts (marksCuts k i ++ es.drop i)).set (i * 2) (.int .i64 (k + 2 * i))).set (i * 2 + 1) (.int .i64 (k + 2 * i + 1)) = flatCuts (marksCuts k (i + 1) ++ es.drop (i + 1)) := by
  rw [List.drop_eq_getElem_cons hi, set_flatCuts _ _ _ _ _ i (marksCuts_len k i).symm, marksCuts_succ, List.append_assoc]
  rfl

end Go.Proofs.Ytdmdoknkkfhheaa
