/- Slices of needs: copied, compared. -/
import Derived.Test.YtpgjllefhlanpaaA
import Derived.Deep.RegionWith
namespace Go.Proofs.Ytpgjllefhlanpaa
open Go.RowKit
structure NeedV where
  point : Int
  pos : Int
  deriving DecidableEq
def NeedV.zero : NeedV := ⟨0, 0⟩
def NeedV.val (e : NeedV) : Value := .agg #[.int .i64 e.point, .int .i64 e.pos]
def NeedV.vs (e : NeedV) : List Value := [.int .i64 e.point, .int .i64 e.pos]
def flatNeeds (es : List NeedV) : List Value := es.flatMap NeedV.vs
theorem flatNeeds_cons (e : NeedV) (es : List NeedV) : flatNeeds (e :: es) = .int .i64 e.point :: .int .i64 e.pos :: flatNeeds es := rfl
theorem flatNeeds_len (es : List NeedV) : (flatNeeds es).length = es.length * 2 := by
  induction es with
  | nil => rfl
  | cons e es ih => rw [flatNeeds_cons]; simp only [List.length_cons, ih]; omega
theorem flatNeeds_app (xs ys : List NeedV) : flatNeeds (xs ++ ys) = flatNeeds xs ++ flatNeeds ys := by simp [flatNeeds]
theorem flatNeeds_get (es : List NeedV) : ∀ i, i < es.length → (flatNeeds es)[i * 2]? = some (.int .i64 (es.getD i NeedV.zero).point) ∧ (flatNeeds es)[i * 2 + 1]? = some (.int .i64 (es.getD i NeedV.zero).pos) := by
  induction es with
  | nil => intro i hi; simp at hi
  | cons e es ih =>
    intro i hi
    rw [flatNeeds_cons]
    cases i with
    | zero => simp
    | succ i =>
      have h := ih i (by simpa using hi)
      have e1 : (i + 1) * 2 = i * 2 + 1 + 1 := by omega
      rw [e1]
      simpa using h
/-- The cells behind a slice's address hold the structs es. -/
def Needs (w : World) (a : Option Addr) (es : List NeedV) : Prop :=
  es = [] ∨ ∃ b off, a = some ⟨b, off, none⟩ ∧ ∀ i, i < es.length → w.cell? ⟨b, off + i * 2, none⟩ = some (.int .i64 (es.getD i NeedV.zero).point) ∧ w.cell? ⟨b, off + i * 2 + 1, none⟩ = some (.int .i64 (es.getD i NeedV.zero).pos)
theorem Needs.below {w w' : World} {a : Option Addr} {es : List NeedV} (h : Needs w a es) (hb : Below w.heap.size w w') : Needs w' a es := by
  rcases h with h | ⟨b, off, ha, hc⟩
  · exact .inl h
  · exact .inr ⟨b, off, ha, fun i hi => ⟨ble hb (hc i hi).1, ble hb (hc i hi).2⟩⟩
theorem Needs.of_owns {w : World} {base g n cap : Nat} {es : List NeedV} (h : w.ownsRow base 74 2 (.slice (some ⟨g, 0, none⟩) n cap) n (flatNeeds es)) : Needs w (some ⟨g, 0, none⟩) es := by
  refine .inr ⟨g, 0, rfl, fun i hi => ?_⟩
  have hl := h.1
  rw [flatNeeds_len] at hl
  obtain ⟨f0, f1⟩ := flatNeeds_get es i hi
  refine ⟨?_, ?_⟩
  · rw [Nat.zero_add, h.cellAt _ (by omega)]; exact f0
  · rw [Nat.zero_add, h.cellAt _ (by omega)]; exact f1
theorem Needs.own {w : World} {base n c : Nat} {a : Option Addr} {es : List NeedV} (h : w.ownsRow base 74 2 (.slice a n c) n (flatNeeds es)) : Needs w a es := by
  rcases h.2 with ⟨_, h0⟩ | ⟨g, cap', cur, he, _⟩
  · left
    have hl := h.1
    rw [flatNeeds_len, h0] at hl
    exact List.length_eq_zero_iff.1 (by omega)
  · simp only [Value.slice.injEq] at he
    obtain ⟨rfl, _, rfl⟩ := he
    exact Needs.of_owns h
theorem Needs.rw {w : World} {base n c : Nat} {a : Option Addr} {es : List NeedV} (h : Rw w base 74 2 (.slice a n c) n (flatNeeds es)) : Needs w a es := by
  rcases h with h | ⟨h0, h1, _⟩
  · exact Needs.own h
  · left
    have := flatNeeds_len es
    rw [h1] at this
    simp at this
    exact List.length_eq_zero_iff.1 (by omega)
theorem lenNeeds {w : World} {base n : Nat} {v : Value} {es : List NeedV} (h : Rw w base 74 2 v n (flatNeeds es)) : es.length = n := by
  have := h.len
  rw [flatNeeds_len] at this
  omega
theorem infoNeeds : (Try.prog.info? 74).map (fun i => (i.zero, i.size, i.bytes)) = some (some (.agg #[.int .i64 0, .int .i64 0]), 2, 16) := by kernel_rfl
theorem madeNeeds (n : Nat) : (madeCells (Value.agg #[.int .i64 0, .int .i64 0]).cells (n * 2)).toList = List.replicate (n * 2) (Value.int .i64 0) := by
  apply List.ext_getElem?
  intro j
  by_cases hj : j < n * 2
  · have h4 : j % 2 < 2 := Nat.mod_lt _ (by omega)
    simp only [madeCells, Value.cells]
    generalize hq : j % 2 = q at h4
    match q, h4 with
    | 0, _ => simp [hj, hq]
    | 1, _ => simp [hj, hq]
  · simp [madeCells, hj]
theorem stepNeeds (es : List NeedV) (k : Nat) (hk : k < es.length) :
    ((flatNeeds (es.take k) ++ List.replicate ((es.length - k) * 2) (Value.int .i64 0)).set (k * 2) (.int .i64 es[k].point)).set (k * 2 + 1) (.int .i64 es[k].pos) =
      flatNeeds (es.take (k + 1)) ++ List.replicate ((es.length - (k + 1)) * 2) (Value.int .i64 0) := by
  have e1 : (es.length - k) * 2 = (es.length - (k + 1)) * 2 + 1 + 1 := by omega
  have e2 : (flatNeeds (es.take k)).length = k * 2 := by rw [flatNeeds_len]; simp; omega
  rw [List.set_append_right _ _ (by omega), List.set_append_right _ _ (by omega), e2, e1,
    List.replicate_succ, List.replicate_succ, List.take_succ_eq_append_getElem hk, flatNeeds_app]
  have a0 : k * 2 - k * 2 = 0 := by omega
  have a1 : k * 2 + 1 - k * 2 = 1 := by omega
  rw [a0, a1]
  simp [flatNeeds, NeedV.vs]
theorem set_flatNeeds (xs ys : List NeedV) (e : NeedV) (x0 x1 : Int) (q : Nat) (hq : q = xs.length) :
    ((flatNeeds (xs ++ e :: ys)).set (q * 2) (.int .i64 x0)).set (q * 2 + 1) (.int .i64 x1) = flatNeeds (xs ++ ⟨x0, x1⟩ :: ys) := by
  have e2 : (flatNeeds xs).length = q * 2 := by rw [flatNeeds_len, hq]
  rw [flatNeeds_app, flatNeeds_app, flatNeeds_cons, flatNeeds_cons, List.set_append_right _ _ (by omega), List.set_append_right _ _ (by omega), e2]
  have a0 : q * 2 - q * 2 = 0 := by omega
  have a1 : q * 2 + 1 - q * 2 = 1 := by omega
  rw [a0, a1]
  simp

end Go.Proofs.Ytpgjllefhlanpaa
