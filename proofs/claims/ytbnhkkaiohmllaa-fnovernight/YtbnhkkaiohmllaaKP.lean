/- Slices of tasks that know their place. -/
import Derived.Test.YtbnhkkaiohmllaaS
import Derived.Test.YtbnhkkaiohmllaaMP
import Derived.Deep.RegionWith
namespace Go.Proofs.Ytbnhkkaiohmllaa
open Go.RowKit
def PlV.cs (x : PlV) : List Value := [.int .i64 x.u.e, .int .i64 x.u.d, .int .i64 x.u.f, .int .i64 x.u.t, .int .i64 x.u.p, .int .i64 x.k]
def flatPls (es : List PlV) : List Value := es.flatMap PlV.cs
theorem flatPls_cons (x : PlV) (es : List PlV) : flatPls (x :: es) = .int .i64 x.u.e :: .int .i64 x.u.d :: .int .i64 x.u.f :: .int .i64 x.u.t :: .int .i64 x.u.p :: .int .i64 x.k :: flatPls es := rfl
theorem flatPls_len (es : List PlV) : (flatPls es).length = es.length * 6 := by
  induction es with
  | nil => rfl
  | cons e es ih => rw [flatPls_cons]; simp only [List.length_cons, ih]; omega
theorem flatPls_app (xs ys : List PlV) : flatPls (xs ++ ys) = flatPls xs ++ flatPls ys := by simp [flatPls]
def PlAt (w : World) (b o : Nat) (x : PlV) : Prop := w.cell? ⟨b, o, none⟩ = some (.int .i64 x.u.e) ∧ w.cell? ⟨b, o + 1, none⟩ = some (.int .i64 x.u.d) ∧ w.cell? ⟨b, o + 2, none⟩ = some (.int .i64 x.u.f) ∧ w.cell? ⟨b, o + 3, none⟩ = some (.int .i64 x.u.t) ∧ w.cell? ⟨b, o + 4, none⟩ = some (.int .i64 x.u.p) ∧ w.cell? ⟨b, o + 5, none⟩ = some (.int .i64 x.k)
theorem PlAt.below {w w' : World} {b o : Nat} {x : PlV} (h : PlAt w b o x) (hb : Below w.heap.size w w') : PlAt w' b o x := ⟨ble hb h.1, ble hb h.2.1, ble hb h.2.2.1, ble hb h.2.2.2.1, ble hb h.2.2.2.2.1, ble hb h.2.2.2.2.2⟩
theorem flatPls_get (es : List PlV) : ∀ i, i < es.length → (flatPls es)[i * 6]? = some (.int .i64 (es.getD i PlV.zero).u.e) ∧ (flatPls es)[i * 6 + 1]? = some (.int .i64 (es.getD i PlV.zero).u.d) ∧ (flatPls es)[i * 6 + 2]? = some (.int .i64 (es.getD i PlV.zero).u.f) ∧ (flatPls es)[i * 6 + 3]? = some (.int .i64 (es.getD i PlV.zero).u.t) ∧ (flatPls es)[i * 6 + 4]? = some (.int .i64 (es.getD i PlV.zero).u.p) ∧ (flatPls es)[i * 6 + 5]? = some (.int .i64 (es.getD i PlV.zero).k) := by
  induction es with
  | nil => intro i hi; simp at hi
  | cons e es ih =>
    intro i hi
    rw [flatPls_cons]
    cases i with
    | zero => simp
    | succ i =>
      have h := ih i (by simpa using hi)
      have e1 : (i + 1) * 6 = i * 6 + 1 + 1 + 1 + 1 + 1 + 1 := by omega
      rw [e1]
      simpa using h
/-- The cells behind a slice's address hold the placed tasks es. -/
def Pls (w : World) (a : Option Addr) (es : List PlV) : Prop :=
  es = [] ∨ ∃ b off, a = some ⟨b, off, none⟩ ∧ ∀ i, i < es.length → PlAt w b (off + i * 6) (es.getD i PlV.zero)
theorem Pls.below {w w' : World} {a : Option Addr} {es : List PlV} (h : Pls w a es) (hb : Below w.heap.size w w') : Pls w' a es := by
  rcases h with h | ⟨b, off, ha, hc⟩
  · exact .inl h
  · exact .inr ⟨b, off, ha, fun i hi => (hc i hi).below hb⟩
theorem Pls.of_owns {w : World} {base g n cap : Nat} {es : List PlV} (h : w.ownsRow base 68 6 (.slice (some ⟨g, 0, none⟩) n cap) n (flatPls es)) : Pls w (some ⟨g, 0, none⟩) es := by
  refine .inr ⟨g, 0, rfl, fun i hi => ?_⟩
  have hl := h.1
  rw [flatPls_len] at hl
  obtain ⟨f0, f1, f2, f3, f4, f5⟩ := flatPls_get es i hi
  rw [Nat.zero_add]
  refine ⟨?_, ?_, ?_, ?_, ?_, ?_⟩
  · rw [h.cellAt _ (by omega)]; exact f0
  · rw [h.cellAt _ (by omega)]; exact f1
  · rw [h.cellAt _ (by omega)]; exact f2
  · rw [h.cellAt _ (by omega)]; exact f3
  · rw [h.cellAt _ (by omega)]; exact f4
  · rw [h.cellAt _ (by omega)]; exact f5
theorem Pls.own {w : World} {base n c : Nat} {a : Option Addr} {es : List PlV} (h : w.ownsRow base 68 6 (.slice a n c) n (flatPls es)) : Pls w a es := by
  rcases h.2 with ⟨_, h0⟩ | ⟨g, cap', cur, he, _⟩
  · left
    have hl := h.1
    rw [flatPls_len, h0] at hl
    exact List.length_eq_zero_iff.1 (by omega)
  · simp only [Value.slice.injEq] at he
    obtain ⟨rfl, _, rfl⟩ := he
    exact Pls.of_owns h
theorem infoPls : (Try.prog.info? 68).map (fun i => (i.zero, i.size, i.bytes)) = some (some (.agg #[.int .i64 0, .int .i64 0, .int .i64 0, .int .i64 0, .int .i64 0, .int .i64 0]), 6, 48) := by kernel_rfl
end Go.Proofs.Ytbnhkkaiohmllaa
