/- Cars in memory: copied, compared. -/
import Derived.Test.YtcadgafenbmihabC
import Derived.Deep.RegionWith
namespace Go.Proofs.Ytcadgafenbmihab
open Go.RowKit Fl

attribute [local go_sem] run_store_float

def CarV.zero : CarV := ⟨0, 0, 0, 0⟩
/-- The cells behind a slice's address hold the edges es, four cells each. -/
def Cars (w : World) (a : Option Addr) (es : List CarV) : Prop :=
  es = [] ∨ ∃ b off, a = some ⟨b, off, none⟩ ∧ ∀ i, i < es.length → w.cell? ⟨b, off + i * 4, none⟩ = some (.float .f64 (es.getD i CarV.zero).m) ∧
    w.cell? ⟨b, off + i * 4 + 1, none⟩ = some (.float .f64 (es.getD i CarV.zero).a) ∧ w.cell? ⟨b, off + i * 4 + 2, none⟩ = some (.float .f64 (es.getD i CarV.zero).b) ∧ w.cell? ⟨b, off + i * 4 + 3, none⟩ = some (.float .f64 (es.getD i CarV.zero).c)

theorem Cars.below {w w' : World} {a : Option Addr} {es : List CarV} (h : Cars w a es) (hb : Below w.heap.size w w') : Cars w' a es := by
  rcases h with h | ⟨b, off, ha, hc⟩
  · exact .inl h
  · exact .inr ⟨b, off, ha, fun i hi => ⟨ble hb (hc i hi).1, ble hb (hc i hi).2.1, ble hb (hc i hi).2.2.1, ble hb (hc i hi).2.2.2⟩⟩

def CarV.vs (e : CarV) : List Value := [.float .f64 e.m, .float .f64 e.a, .float .f64 e.b, .float .f64 e.c]
def flat (es : List CarV) : List Value := es.flatMap CarV.vs

theorem flat_cons (e : CarV) (es : List CarV) : flat (e :: es) = .float .f64 e.m :: .float .f64 e.a :: .float .f64 e.b :: .float .f64 e.c :: flat es := rfl
theorem flat_len (es : List CarV) : (flat es).length = es.length * 4 := by
  induction es with
  | nil => rfl
  | cons e es ih => rw [flat_cons]; simp only [List.length_cons, ih]; omega
theorem flat_app (xs ys : List CarV) : flat (xs ++ ys) = flat xs ++ flat ys := by simp [flat]
theorem flat_get (es : List CarV) : ∀ i, i < es.length → (flat es)[i * 4]? = some (.float .f64 (es.getD i CarV.zero).m) ∧ (flat es)[i * 4 + 1]? = some (.float .f64 (es.getD i CarV.zero).a) ∧
    (flat es)[i * 4 + 2]? = some (.float .f64 (es.getD i CarV.zero).b) ∧ (flat es)[i * 4 + 3]? = some (.float .f64 (es.getD i CarV.zero).c) := by
  induction es with
  | nil => intro i hi; simp at hi
  | cons e es ih =>
    intro i hi
    rw [flat_cons]
    cases i with
    | zero => simp
    | succ i =>
      have h := ih i (by simpa using hi)
      have e1 : (i + 1) * 4 = i * 4 + 1 + 1 + 1 + 1 := by omega
      rw [e1]
      simpa using h

theorem Cars.of_owns {w : World} {base g n cap : Nat} {es : List CarV} (h : w.ownsRow base 38 4 (.slice (some ⟨g, 0, none⟩) n cap) n (flat es)) : Cars w (some ⟨g, 0, none⟩) es := by
  refine .inr ⟨g, 0, rfl, fun i hi => ?_⟩
  have hl := h.1
  rw [flat_len] at hl
  obtain ⟨f0, f1, f2, f3⟩ := flat_get es i hi
  refine ⟨?_, ?_, ?_, ?_⟩
  · rw [Nat.zero_add, h.cellAt _ (by omega)]; exact f0
  · rw [Nat.zero_add, h.cellAt _ (by omega)]; exact f1
  · rw [Nat.zero_add, h.cellAt _ (by omega)]; exact f2
  · rw [Nat.zero_add, h.cellAt _ (by omega)]; exact f3

theorem owns_below {w w' : World} {base e sz g n cap : Nat} {xs : List Value} (h : w.ownsRow base e sz (.slice (some ⟨g, 0, none⟩) n cap) n xs) (hb : Below w.heap.size w w') : w'.ownsRow base e sz (.slice (some ⟨g, 0, none⟩) n cap) n xs := by
  obtain ⟨h1, h2⟩ := h
  refine ⟨h1, ?_⟩
  rcases h2 with h2 | ⟨g', cap', cur, hv, hg, hh, r⟩
  · exact .inl h2
  · have hlt : g' < w.heap.size := by
      by_cases hx : g' < w.heap.size
      · exact hx
      · rw [Array.getElem?_eq_none (Nat.le_of_not_lt hx)] at hh; cases hh
    exact .inr ⟨g', cap', cur, hv, hg, (hb.block g' hlt).trans hh, r⟩

theorem info27 : (Try.prog.info? 38).map (fun i => (i.zero, i.size, i.bytes)) = some (some (.agg #[.float .f64 0, .float .f64 0, .float .f64 0, .float .f64 0]), 4, 32) := by kernel_rfl

theorem made4 (n : Nat) : (madeCells (Value.agg #[.float .f64 0, .float .f64 0, .float .f64 0, .float .f64 0]).cells (n * 4)).toList = List.replicate (n * 4) (Value.float .f64 0) := by
  apply List.ext_getElem?
  intro j
  by_cases hj : j < n * 4
  · have h4 : j % 4 < 4 := Nat.mod_lt _ (by omega)
    simp only [madeCells, Value.cells]
    generalize hq : j % 4 = q at h4
    match q, h4 with
    | 0, _ => simp [hj, hq]
    | 1, _ => simp [hj, hq]
    | 2, _ => simp [hj, hq]
    | 3, _ => simp [hj, hq]
  · simp [madeCells, hj]

theorem flat_set_step (es : List CarV) (k : Nat) (hk : k < es.length) :
    ((((flat (es.take k) ++ List.replicate ((es.length - k) * 4) (Value.float .f64 0)).set (k * 4) (.float .f64 es[k].m)).set (k * 4 + 1) (.float .f64 es[k].a)).set (k * 4 + 2) (.float .f64 es[k].b)).set (k * 4 + 3) (.float .f64 es[k].c) =
      flat (es.take (k + 1)) ++ List.replicate ((es.length - (k + 1)) * 4) (Value.float .f64 0) := by
  have e1 : (es.length - k) * 4 = (es.length - (k + 1)) * 4 + 1 + 1 + 1 + 1 := by omega
  have e2 : (flat (es.take k)).length = k * 4 := by rw [flat_len]; simp; omega
  rw [List.set_append_right _ _ (by omega), List.set_append_right _ _ (by omega), List.set_append_right _ _ (by omega), List.set_append_right _ _ (by omega), e2, e1,
    List.replicate_succ, List.replicate_succ, List.replicate_succ, List.replicate_succ, List.take_succ_eq_append_getElem hk, flat_app]
  have a0 : k * 4 - k * 4 = 0 := by omega
  have a1 : k * 4 + 1 - k * 4 = 1 := by omega
  have a2 : k * 4 + 2 - k * 4 = 2 := by omega
  have a3 : k * 4 + 3 - k * 4 = 3 := by omega
  rw [a0, a1, a2, a3]
  simp [flat, CarV.vs]

end Go.Proofs.Ytcadgafenbmihab
