/- Slices of ops: copied, compared, marked. -/
import Derived.Test.YtpgjllefhlanpaaA
import Derived.Deep.RegionWith
namespace Go.Proofs.Ytpgjllefhlanpaa
open Go.RowKit
structure OpV where
  kind : Int
  what : Int
  deriving DecidableEq
def OpV.zero : OpV := ⟨0, 0⟩
def OpV.val (e : OpV) : Value := .agg #[.int .i64 e.kind, .int .i64 e.what]
def OpV.vs (e : OpV) : List Value := [.int .i64 e.kind, .int .i64 e.what]
def flatOps (es : List OpV) : List Value := es.flatMap OpV.vs
theorem flatOps_cons (e : OpV) (es : List OpV) : flatOps (e :: es) = .int .i64 e.kind :: .int .i64 e.what :: flatOps es := rfl
theorem flatOps_len (es : List OpV) : (flatOps es).length = es.length * 2 := by
  induction es with
  | nil => rfl
  | cons e es ih => rw [flatOps_cons]; simp only [List.length_cons, ih]; omega
theorem flatOps_app (xs ys : List OpV) : flatOps (xs ++ ys) = flatOps xs ++ flatOps ys := by simp [flatOps]
theorem flatOps_get (es : List OpV) : ∀ i, i < es.length → (flatOps es)[i * 2]? = some (.int .i64 (es.getD i OpV.zero).kind) ∧ (flatOps es)[i * 2 + 1]? = some (.int .i64 (es.getD i OpV.zero).what) := by
  induction es with
  | nil => intro i hi; simp at hi
  | cons e es ih =>
    intro i hi
    rw [flatOps_cons]
    cases i with
    | zero => simp
    | succ i =>
      have h := ih i (by simpa using hi)
      have e1 : (i + 1) * 2 = i * 2 + 1 + 1 := by omega
      rw [e1]
      simpa using h
/-- The cells behind a slice's address hold the structs es. -/
def Ops (w : World) (a : Option Addr) (es : List OpV) : Prop :=
  es = [] ∨ ∃ b off, a = some ⟨b, off, none⟩ ∧ ∀ i, i < es.length → w.cell? ⟨b, off + i * 2, none⟩ = some (.int .i64 (es.getD i OpV.zero).kind) ∧ w.cell? ⟨b, off + i * 2 + 1, none⟩ = some (.int .i64 (es.getD i OpV.zero).what)
theorem Ops.below {w w' : World} {a : Option Addr} {es : List OpV} (h : Ops w a es) (hb : Below w.heap.size w w') : Ops w' a es := by
  rcases h with h | ⟨b, off, ha, hc⟩
  · exact .inl h
  · exact .inr ⟨b, off, ha, fun i hi => ⟨ble hb (hc i hi).1, ble hb (hc i hi).2⟩⟩
theorem Ops.of_owns {w : World} {base g n cap : Nat} {es : List OpV} (h : w.ownsRow base 39 2 (.slice (some ⟨g, 0, none⟩) n cap) n (flatOps es)) : Ops w (some ⟨g, 0, none⟩) es := by
  refine .inr ⟨g, 0, rfl, fun i hi => ?_⟩
  have hl := h.1
  rw [flatOps_len] at hl
  obtain ⟨f0, f1⟩ := flatOps_get es i hi
  refine ⟨?_, ?_⟩
  · rw [Nat.zero_add, h.cellAt _ (by omega)]; exact f0
  · rw [Nat.zero_add, h.cellAt _ (by omega)]; exact f1
theorem Ops.own {w : World} {base n c : Nat} {a : Option Addr} {es : List OpV} (h : w.ownsRow base 39 2 (.slice a n c) n (flatOps es)) : Ops w a es := by
  rcases h.2 with ⟨_, h0⟩ | ⟨g, cap', cur, he, _⟩
  · left
    have hl := h.1
    rw [flatOps_len, h0] at hl
    exact List.length_eq_zero_iff.1 (by omega)
  · simp only [Value.slice.injEq] at he
    obtain ⟨rfl, _, rfl⟩ := he
    exact Ops.of_owns h
theorem Ops.rw {w : World} {base n c : Nat} {a : Option Addr} {es : List OpV} (h : Rw w base 39 2 (.slice a n c) n (flatOps es)) : Ops w a es := by
  rcases h with h | ⟨h0, h1, _⟩
  · exact Ops.own h
  · left
    have := flatOps_len es
    rw [h1] at this
    simp at this
    exact List.length_eq_zero_iff.1 (by omega)
theorem lenOps {w : World} {base n : Nat} {v : Value} {es : List OpV} (h : Rw w base 39 2 v n (flatOps es)) : es.length = n := by
  have := h.len
  rw [flatOps_len] at this
  omega
theorem infoOps : (Try.prog.info? 39).map (fun i => (i.zero, i.size, i.bytes)) = some (some (.agg #[.int .i64 0, .int .i64 0]), 2, 16) := by kernel_rfl
theorem madeOps (n : Nat) : (madeCells (Value.agg #[.int .i64 0, .int .i64 0]).cells (n * 2)).toList = List.replicate (n * 2) (Value.int .i64 0) := by
  apply List.ext_getElem?
  intro j
  by_cases hj : j < n * 2
  · have h4 : j % 2 < 2 := Nat.mod_lt _ (by omega)
    simp only [madeCells, Value.cells]
    generalize hq : j % 2 = q at h4
    match q, h4 with
    | 0, _ => simp [hj, hq]
    | 1, _ => simp [hj, hq]
  · simp [madeCells, hj]
theorem stepOps (es : List OpV) (k : Nat) (hk : k < es.length) :
    ((flatOps (es.take k) ++ List.replicate ((es.length - k) * 2) (Value.int .i64 0)).set (k * 2) (.int .i64 es[k].kind)).set (k * 2 + 1) (.int .i64 es[k].what) =
      flatOps (es.take (k + 1)) ++ List.replicate ((es.length - (k + 1)) * 2) (Value.int .i64 0) := by
  have e1 : (es.length - k) * 2 = (es.length - (k + 1)) * 2 + 1 + 1 := by omega
  have e2 : (flatOps (es.take k)).length = k * 2 := by rw [flatOps_len]; simp; omega
  rw [List.set_append_right _ _ (by omega), List.set_append_right _ _ (by omega), e2, e1,
    List.replicate_succ, List.replicate_succ, List.take_succ_eq_append_getElem hk, flatOps_app]
  have a0 : k * 2 - k * 2 = 0 := by omega
  have a1 : k * 2 + 1 - k * 2 = 1 := by omega
  rw [a0, a1]
  simp [flatOps, OpV.vs]
theorem set_flatOps (xs ys : List OpV) (e : OpV) (x0 x1 : Int) (q : Nat) (hq : q = xs.length) :
    ((flatOps (xs ++ e :: ys)).set (q * 2) (.int .i64 x0)).set (q * 2 + 1) (.int .i64 x1) = flatOps (xs ++ ⟨x0, x1⟩ :: ys) := by
  have e2 : (flatOps xs).length = q * 2 := by rw [flatOps_len, hq]
  rw [flatOps_app, flatOps_app, flatOps_cons, flatOps_cons, List.set_append_right _ _ (by omega), List.set_append_right _ _ (by omega), e2]
  have a0 : q * 2 - q * 2 = 0 := by omega
  have a1 : q * 2 + 1 - q * 2 = 1 := by omega
  rw [a0, a1]
  simp

def markOpV (k : Int) (i : Nat) : OpV := ⟨k + 2 * i, k + 2 * i + 1⟩
def marksOps (k : Int) (n : Nat) : List OpV := (List.range n).map (markOpV k)
theorem marksOps_len (k : Int) (n : Nat) : (marksOps k n).length = n := by simp [marksOps]
theorem marksOps_succ (k : Int) (n : Nat) : marksOps k (n + 1) = marksOps k n ++ [markOpV k n] := by simp [marksOps, List.range_succ]
theorem marksOps_get (k : Int) (n i : Nat) (h : i < n) : (marksOps k n).getD i OpV.zero = markOpV k i := by simp [marksOps, List.getD, h]
theorem markOps_step (es : List OpV) (k : Int) (i : Nat) (hi : i < es.length) :
    ((flatOps (marksOps k i ++ es.drop i)).set (i * 2) (.int .i64 (k + 2 * i))).set (i * 2 + 1) (.int .i64 (k + 2 * i + 1)) = flatOps (marksOps k (i + 1) ++ es.drop (i + 1)) := by
  rw [List.drop_eq_getElem_cons hi, set_flatOps _ _ _ _ _ i (marksOps_len k i).symm, marksOps_succ, List.append_assoc]
  rfl

end Go.Proofs.Ytpgjllefhlanpaa
