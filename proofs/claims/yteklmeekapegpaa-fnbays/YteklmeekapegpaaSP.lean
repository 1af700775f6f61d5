/- Slices of passages. -/
import Derived.Test.YteklmeekapegpaaA
import Derived.Deep.RegionWith
namespace Go.Proofs.Yteklmeekapegpaa
open Go.RowKit
structure PassV where
  m : Int
  k : Int
  p : Int
  deriving DecidableEq
def PassV.zero : PassV := ⟨0, 0, 0⟩
def PassV.val (e : PassV) : Value := .agg #[.int .i64 e.m, .int .i64 e.k, .int .i64 e.p]
def PassV.vs (e : PassV) : List Value := [.int .i64 e.m, .int .i64 e.k, .int .i64 e.p]
def flatPasses (es : List PassV) : List Value := es.flatMap PassV.vs
theorem flatPasses_cons (e : PassV) (es : List PassV) : flatPasses (e :: es) = .int .i64 e.m :: .int .i64 e.k :: .int .i64 e.p :: flatPasses es := rfl
theorem flatPasses_len (es : List PassV) : (flatPasses es).length = es.length * 3 := by
  induction es with
  | nil => rfl
  | cons e es ih => rw [flatPasses_cons]; simp only [List.length_cons, ih]; omega
theorem flatPasses_app (xs ys : List PassV) : flatPasses (xs ++ ys) = flatPasses xs ++ flatPasses ys := by simp [flatPasses]
theorem flatPasses_get (es : List PassV) : ∀ i, i < es.length → (flatPasses es)[i * 3]? = some (.int .i64 (es.getD i PassV.zero).m) ∧ (flatPasses es)[i * 3 + 1]? = some (.int .i64 (es.getD i PassV.zero).k) ∧ (flatPasses es)[i * 3 + 2]? = some (.int .i64 (es.getD i PassV.zero).p) := by
  induction es with
  | nil => intro i hi; simp at hi
  | cons e es ih =>
    intro i hi
    rw [flatPasses_cons]
    cases i with
    | zero => simp
    | succ i =>
      have h := ih i (by simpa using hi)
      have e1 : (i + 1) * 3 = i * 3 + 1 + 1 + 1 := by omega
      rw [e1]
      simpa using h
/-- The cells behind a slice's address hold the structs es. -/
def Passes (w : World) (a : Option Addr) (es : List PassV) : Prop :=
  es = [] ∨ ∃ b off, a = some ⟨b, off, none⟩ ∧ ∀ i, i < es.length → w.cell? ⟨b, off + i * 3, none⟩ = some (.int .i64 (es.getD i PassV.zero).m) ∧ w.cell? ⟨b, off + i * 3 + 1, none⟩ = some (.int .i64 (es.getD i PassV.zero).k) ∧ w.cell? ⟨b, off + i * 3 + 2, none⟩ = some (.int .i64 (es.getD i PassV.zero).p)
theorem Passes.below {w w' : World} {a : Option Addr} {es : List PassV} (h : Passes w a es) (hb : Below w.heap.size w w') : Passes w' a es := by
  rcases h with h | ⟨b, off, ha, hc⟩
  · exact .inl h
  · exact .inr ⟨b, off, ha, fun i hi => ⟨ble hb (hc i hi).1, ble hb (hc i hi).2.1, ble hb (hc i hi).2.2⟩⟩
theorem Passes.of_owns {w : World} {base g n cap : Nat} {es : List PassV} (h : w.ownsRow base 60 3 (.slice (some ⟨g, 0, none⟩) n cap) n (flatPasses es)) : Passes w (some ⟨g, 0, none⟩) es := by
  refine .inr ⟨g, 0, rfl, fun i hi => ?_⟩
  have hl := h.1
  rw [flatPasses_len] at hl
  obtain ⟨f0, f1, f2⟩ := flatPasses_get es i hi
  refine ⟨?_, ?_, ?_⟩
  · rw [Nat.zero_add, h.cellAt _ (by omega)]; exact f0
  · rw [Nat.zero_add, h.cellAt _ (by omega)]; exact f1
  · rw [Nat.zero_add, h.cellAt _ (by omega)]; exact f2
theorem Passes.own {w : World} {base n c : Nat} {a : Option Addr} {es : List PassV} (h : w.ownsRow base 60 3 (.slice a n c) n (flatPasses es)) : Passes w a es := by
  rcases h.2 with ⟨_, h0⟩ | ⟨g, cap', cur, he, _⟩
  · left
    have hl := h.1
    rw [flatPasses_len, h0] at hl
    exact List.length_eq_zero_iff.1 (by omega)
  · simp only [Value.slice.injEq] at he
    obtain ⟨rfl, _, rfl⟩ := he
    exact Passes.of_owns h
theorem Passes.rw {w : World} {base n c : Nat} {a : Option Addr} {es : List PassV} (h : Rw w base 60 3 (.slice a n c) n (flatPasses es)) : Passes w a es := by
  rcases h with h | ⟨h0, h1, _⟩
  · exact Passes.own h
  · left
    have := flatPasses_len es
    rw [h1] at this
    simp at this
    exact List.length_eq_zero_iff.1 (by omega)
theorem lenPasses {w : World} {base n : Nat} {v : Value} {es : List PassV} (h : Rw w base 60 3 v n (flatPasses es)) : es.length = n := by
  have := h.len
  rw [flatPasses_len] at this
  omega
theorem infoPasses : (Try.prog.info? 60).map (fun i => (i.zero, i.size, i.bytes)) = some (some (.agg #[.int .i64 0, .int .i64 0, .int .i64 0]), 3, 24) := by kernel_rfl
theorem madePasses (n : Nat) : (madeCells (Value.agg #[.int .i64 0, .int .i64 0, .int .i64 0]).cells (n * 3)).toList = List.replicate (n * 3) (Value.int .i64 0) := by
  apply List.ext_getElem?
  intro j
  by_cases hj : j < n * 3
  · have h4 : j % 3 < 3 := Nat.mod_lt _ (by omega)
    simp only [madeCells, Value.cells]
    generalize hq : j % 3 = q at h4
    match q, h4 with
    | 0, _ => simp [hj, hq]
    | 1, _ => simp [hj, hq]
    | 2, _ => simp [hj, hq]
  · simp [madeCells, hj]
theorem stepPasses (es : List PassV) (k : Nat) (hk : k < es.length) :
    (((flatPasses (es.take k) ++ List.replicate ((es.length - k) * 3) (Value.int .i64 0)).set (k * 3) (.int .i64 es[k].m)).set (k * 3 + 1) (.int .i64 es[k].k)).set (k * 3 + 2) (.int .i64 es[k].p) =
      flatPasses (es.take (k + 1)) ++ List.replicate ((es.length - (k + 1)) * 3) (Value.int .i64 0) := by
  have e1 : (es.length - k) * 3 = (es.length - (k + 1)) * 3 + 1 + 1 + 1 := by omega
  have e2 : (flatPasses (es.take k)).length = k * 3 := by rw [flatPasses_len]; simp; omega
  rw [List.set_append_right _ _ (by omega), List.set_append_right _ _ (by omega), List.set_append_right _ _ (by omega), e2, e1,
    List.replicate_succ, List.replicate_succ, List.replicate_succ, List.take_succ_eq_append_getElem hk, flatPasses_app]
  have a0 : k * 3 - k * 3 = 0 := by omega
  have a1 : k * 3 + 1 - k * 3 = 1 := by omega
  have a2 : k * 3 + 2 - k * 3 = 2 := by omega
  rw [a0, a1, a2]
  simp [flatPasses, PassV.vs]
theorem set_flatPasses (xs ys : List PassV) (e : PassV) (x0 x1 x2 : Int) (q : Nat) (hq : q = xs.length) :
    (((flatPasses (xs ++ e :: ys)).set (q * 3) (.int .i64 x0)).set (q * 3 + 1) (.int .i64 x1)).set (q * 3 + 2) (.int .i64 x2) = flatPasses (xs ++ ⟨x0, x1, x2⟩ :: ys) := by
  have e2 : (flatPasses xs).length = q * 3 := by rw [flatPasses_len, hq]
  rw [flatPasses_app, flatPasses_app, flatPasses_cons, flatPasses_cons, List.set_append_right _ _ (by omega), List.set_append_right _ _ (by omega), List.set_append_right _ _ (by omega), e2]
  have a0 : q * 3 - q * 3 = 0 := by omega
  have a1 : q * 3 + 1 - q * 3 = 1 := by omega
  have a2 : q * 3 + 2 - q * 3 = 2 := by omega
  rw [a0, a1, a2]
  simp
end Go.Proofs.Yteklmeekapegpaa
