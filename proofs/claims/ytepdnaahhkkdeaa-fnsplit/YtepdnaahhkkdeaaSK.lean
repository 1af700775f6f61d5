/- Rows of tickets. -/
import Derived.Test.YtepdnaahhkkdeaaA
import Derived.Deep.RegionWith
namespace Go.Proofs.Ytepdnaahhkkdeaa
open Go.RowKit
structure TkV where
  c : Int
  k : Int
  n : Int
  deriving DecidableEq
def TkV.zero : TkV := ⟨0, 0, 0⟩
def TkV.val (e : TkV) : Value := .agg #[.int .i64 e.c, .int .i64 e.k, .int .i64 e.n]
def TkV.vs (e : TkV) : List Value := [.int .i64 e.c, .int .i64 e.k, .int .i64 e.n]
def flatTks (es : List TkV) : List Value := es.flatMap TkV.vs
theorem flatTks_cons (e : TkV) (es : List TkV) : flatTks (e :: es) = .int .i64 e.c :: .int .i64 e.k :: .int .i64 e.n :: flatTks es := rfl
theorem flatTks_len (es : List TkV) : (flatTks es).length = es.length * 3 := by
  induction es with
  | nil => rfl
  | cons e es ih => rw [flatTks_cons]; simp only [List.length_cons, ih]; omega
theorem flatTks_app (xs ys : List TkV) : flatTks (xs ++ ys) = flatTks xs ++ flatTks ys := by simp [flatTks]
theorem flatTks_get (es : List TkV) : ∀ i, i < es.length → (flatTks es)[i * 3]? = some (.int .i64 (es.getD i TkV.zero).c) ∧ (flatTks es)[i * 3 + 1]? = some (.int .i64 (es.getD i TkV.zero).k) ∧ (flatTks es)[i * 3 + 2]? = some (.int .i64 (es.getD i TkV.zero).n) := by
  induction es with
  | nil => intro i hi; simp at hi
  | cons e es ih =>
    intro i hi
    rw [flatTks_cons]
    cases i with
    | zero => simp
    | succ i =>
      have h := ih i (by simpa using hi)
      have e1 : (i + 1) * 3 = i * 3 + 1 + 1 + 1 := by omega
      rw [e1]
      simpa using h
/-- The cells behind a slice's address hold the structs es. -/
def Tks (w : World) (a : Option Addr) (es : List TkV) : Prop :=
  es = [] ∨ ∃ b off, a = some ⟨b, off, none⟩ ∧ ∀ i, i < es.length → w.cell? ⟨b, off + i * 3, none⟩ = some (.int .i64 (es.getD i TkV.zero).c) ∧ w.cell? ⟨b, off + i * 3 + 1, none⟩ = some (.int .i64 (es.getD i TkV.zero).k) ∧ w.cell? ⟨b, off + i * 3 + 2, none⟩ = some (.int .i64 (es.getD i TkV.zero).n)
theorem Tks.below {w w' : World} {a : Option Addr} {es : List TkV} (h : Tks w a es) (hb : Below w.heap.size w w') : Tks w' a es := by
  rcases h with h | ⟨b, off, ha, hc⟩
  · exact .inl h
  · exact .inr ⟨b, off, ha, fun i hi => ⟨ble hb (hc i hi).1, ble hb (hc i hi).2.1, ble hb (hc i hi).2.2⟩⟩
theorem Tks.of_owns {w : World} {base g n cap : Nat} {es : List TkV} (h : w.ownsRow base 72 3 (.slice (some ⟨g, 0, none⟩) n cap) n (flatTks es)) : Tks w (some ⟨g, 0, none⟩) es := by
  refine .inr ⟨g, 0, rfl, fun i hi => ?_⟩
  have hl := h.1
  rw [flatTks_len] at hl
  obtain ⟨f0, f1, f2⟩ := flatTks_get es i hi
  refine ⟨?_, ?_, ?_⟩
  · rw [Nat.zero_add, h.cellAt _ (by omega)]; exact f0
  · rw [Nat.zero_add, h.cellAt _ (by omega)]; exact f1
  · rw [Nat.zero_add, h.cellAt _ (by omega)]; exact f2
theorem Tks.own {w : World} {base n c : Nat} {a : Option Addr} {es : List TkV} (h : w.ownsRow base 72 3 (.slice a n c) n (flatTks es)) : Tks w a es := by
  rcases h.2 with ⟨_, h0⟩ | ⟨g, cap', cur, he, _⟩
  · left
    have hl := h.1
    rw [flatTks_len, h0] at hl
    exact List.length_eq_zero_iff.1 (by omega)
  · simp only [Value.slice.injEq] at he
    obtain ⟨rfl, _, rfl⟩ := he
    exact Tks.of_owns h
theorem Tks.rw {w : World} {base n c : Nat} {a : Option Addr} {es : List TkV} (h : Rw w base 72 3 (.slice a n c) n (flatTks es)) : Tks w a es := by
  rcases h with h | ⟨h0, h1, _⟩
  · exact Tks.own h
  · left
    have := flatTks_len es
    rw [h1] at this
    simp at this
    exact List.length_eq_zero_iff.1 (by omega)
theorem lenTks {w : World} {base n : Nat} {v : Value} {es : List TkV} (h : Rw w base 72 3 v n (flatTks es)) : es.length = n := by
  have := h.len
  rw [flatTks_len] at this
  omega
theorem infoTks : (Try.prog.info? 72).map (fun i => (i.zero, i.size, i.bytes)) = some (some (.agg #[.int .i64 0, .int .i64 0, .int .i64 0]), 3, 24) := by kernel_rfl
theorem madeTks (n : Nat) : (madeCells (Value.agg #[.int .i64 0, .int .i64 0, .int .i64 0]).cells (n * 3)).toList = List.replicate (n * 3) (Value.int .i64 0) := by
  apply List.ext_getElem?
  intro j
  by_cases hj : j < n * 3
  · have h4 : j % 3 < 3 := Nat.mod_lt _ (by omega)
    simp only [madeCells, Value.cells]
    generalize hq : j % 3 = q at h4
    match q, h4 with
    | 0, _ => simp [hj, hq]
    | 1, _ => simp [hj, hq]
    | 2, _ => simp [hj, hq]
  · simp [madeCells, hj]
theorem stepTks (es : List TkV) (k : Nat) (hk : k < es.length) :
    (((flatTks (es.take k) ++ List.replicate ((es.length - k) * 3) (Value.int .i64 0)).set (k * 3) (.int .i64 es[k].c)).set (k * 3 + 1) (.int .i64 es[k].k)).set (k * 3 + 2) (.int .i64 es[k].n) =
      flatTks (es.take (k + 1)) ++ List.replicate ((es.length - (k + 1)) * 3) (Value.int .i64 0) := by
  have e1 : (es.length - k) * 3 = (es.length - (k + 1)) * 3 + 1 + 1 + 1 := by omega
  have e2 : (flatTks (es.take k)).length = k * 3 := by rw [flatTks_len]; simp; omega
  rw [List.set_append_right _ _ (by omega), List.set_append_right _ _ (by omega), List.set_append_right _ _ (by omega), e2, e1,
    List.replicate_succ, List.replicate_succ, List.replicate_succ, List.take_succ_eq_append_getElem hk, flatTks_app]
  have a0 : k * 3 - k * 3 = 0 := by omega
  have a1 : k * 3 + 1 - k * 3 = 1 := by omega
  have a2 : k * 3 + 2 - k * 3 = 2 := by omega
  rw [a0, a1, a2]
  simp [flatTks, TkV.vs]
theorem set_flatTks (xs ys : List TkV) (e : TkV) (x0 x1 x2 : Int) (q : Nat) (hq : q = xs.length) :
    (((flatTks (xs ++ e :: ys)).set (q * 3) (.int .i64 x0)).set (q * 3 + 1) (.int .i64 x1)).set (q * 3 + 2) (.int .i64 x2) = flatTks (xs ++ ⟨x0, x1, x2⟩ :: ys) := by
  have e2 : (flatTks xs).length = q * 3 := by rw [flatTks_len, hq]
  rw [flatTks_app, flatTks_app, flatTks_cons, flatTks_cons, List.set_append_right _ _ (by omega), List.set_append_right _ _ (by omega), List.set_append_right _ _ (by omega), e2]
  have a0 : q * 3 - q * 3 = 0 := by omega
  have a1 : q * 3 + 1 - q * 3 = 1 := by omega
  have a2 : q * 3 + 2 - q * 3 = 2 := by omega
  rw [a0, a1, a2]
  simp
end Go.Proofs.Ytepdnaahhkkdeaa
