/- The cells of slices of units one by one; parts of them; the library's Clone, Grow and Concat at units. -/
import Derived.Test.YtnddhpdhbmbikaaDoorMA
import Derived.Lib.AppendZeros
import Derived.Laws.AppendOwn
import Derived.Maps.AppendAt
namespace Go.Proofs.YtnddhpdhbmbikaaDoor
open Go.RowKit
theorem own_ge {w : World} {base e sz n : Nat} {v : Value} {xs : List Value} (h : w.ownsRow base e sz v n xs) : ∀ k, v.ownBlock = some k → base ≤ k := fun k hk => (h.lt k hk).1
theorem flatUs_take (es : List UV) : ∀ q, flatUs (es.take q) = (flatUs es).take (q * 4) := by
  induction es with
  | nil => intro q; simp [flatUs]
  | cons e es ih =>
    intro q
    cases q with
    | zero => simp [flatUs]
    | succ q =>
      have e1 : (q + 1) * 4 = q * 4 + 1 + 1 + 1 + 1 := by omega
      rw [List.take_succ_cons, flatUs_cons, flatUs_cons, ih, e1]
      simp
theorem flatUs_drop (es : List UV) : ∀ q, flatUs (es.drop q) = (flatUs es).drop (q * 4) := by
  induction es with
  | nil => intro q; simp [flatUs]
  | cons e es ih =>
    intro q
    cases q with
    | zero => simp
    | succ q =>
      have e1 : (q + 1) * 4 = q * 4 + 1 + 1 + 1 + 1 := by omega
      rw [List.drop_succ_cons, flatUs_cons, ih, e1]
      simp
/-- The cells of a slice of units, one by one. -/
def FlatAt (w : World) (b off : Nat) (es : List UV) : Prop := ∀ j u, (flatUs es)[j]? = some u → w.cell? ⟨b, off + j, none⟩ = some u
theorem flatUs_one {es : List UV} : ∀ u ∈ flatUs es, u.oneCell' = true := by
  intro u h
  simp only [flatUs, List.mem_flatMap, UV.vs, List.mem_cons, List.not_mem_nil, or_false] at h
  obtain ⟨e, _, rfl | rfl | rfl | rfl⟩ := h <;> rfl
theorem FlatAt.of_us {w : World} {b off : Nat} {es : List UV} (h : ∀ i, i < es.length → w.cell? ⟨b, off + i * 4, none⟩ = some (.int .i64 (es.getD i UV.zero).i) ∧
    w.cell? ⟨b, off + i * 4 + 1, none⟩ = some (.int .i64 (es.getD i UV.zero).c) ∧ w.cell? ⟨b, off + i * 4 + 2, none⟩ = some (.int .i64 (es.getD i UV.zero).m) ∧ w.cell? ⟨b, off + i * 4 + 3, none⟩ = some (.bool (es.getD i UV.zero).b)) : FlatAt w b off es := by
  intro j u hu
  have hj : j < (flatUs es).length := (List.getElem?_eq_some_iff.1 hu).1
  rw [flatUs_len] at hj
  have hi : j / 4 < es.length := by omega
  have f := flatUs_get es (j / 4) hi
  have g := h (j / 4) hi
  have h4 : j % 4 < 4 := Nat.mod_lt _ (by omega)
  have e : j = j / 4 * 4 + j % 4 := by omega
  generalize j % 4 = r at *
  generalize j / 4 = i at *
  subst e
  match r, h4 with
  | 0, _ => rw [Nat.add_zero] at hu ⊢; rw [f.1] at hu; rw [← hu]; exact g.1
  | 1, _ => rw [f.2.1] at hu; rw [← hu, ← Nat.add_assoc]; exact g.2.1
  | 2, _ => rw [f.2.2.1] at hu; rw [← hu, ← Nat.add_assoc]; exact g.2.2.1
  | 3, _ => rw [f.2.2.2] at hu; rw [← hu, ← Nat.add_assoc]; exact g.2.2.2
theorem FlatAt.us {w : World} {b off : Nat} {es : List UV} (h : FlatAt w b off es) : Us w (some ⟨b, off, none⟩) es := by
  refine .inr ⟨b, off, rfl, fun i hi => ?_⟩
  obtain ⟨f0, f1, f2, f3⟩ := flatUs_get es i hi
  exact ⟨h _ _ f0, h _ _ f1, h _ _ f2, h _ _ f3⟩
theorem FlatAt.below {w w1 : World} {b off : Nat} {es : List UV} (h : FlatAt w b off es) (hb : Below w.heap.size w w1) : FlatAt w1 b off es := fun j u hu => ble hb (h j u hu)
theorem FlatAt.take {w : World} {b off : Nat} {es : List UV} (h : FlatAt w b off es) (q : Nat) : FlatAt w b off (es.take q) := by
  intro j u hu
  rw [flatUs_take, List.getElem?_take] at hu
  split at hu
  · exact h j u hu
  · cases hu
theorem FlatAt.drop {w : World} {b off : Nat} {es : List UV} (h : FlatAt w b off es) (q : Nat) : FlatAt w b (off + q * 4) (es.drop q) := by
  intro j u hu
  rw [flatUs_drop, List.getElem?_drop] at hu
  rw [Nat.add_assoc]
  exact h _ u hu
theorem FlatAt.nil (w : World) (b off : Nat) : FlatAt w b off [] := fun j u hu => by simp [flatUs] at hu
theorem Us.flat {w : World} {a : Option Addr} {es : List UV} (h : Us w a es) (b off : Nat) (ha : a = some ⟨b, off, none⟩) : FlatAt w b off es := by
  rcases h with h | ⟨b', off', h1, h2⟩
  · subst h; exact FlatAt.nil _ _ _
  · rw [ha] at h1
    simp only [Option.some.injEq, Addr.mk.injEq] at h1
    obtain ⟨rfl, rfl, _⟩ := h1
    exact FlatAt.of_us h2
theorem add_off (b off j : Nat) : (⟨b, off, none⟩ : Addr).add j = ⟨b, off + j, none⟩ := by
  by_cases h : j = 0
  · subst h; simp [Addr.add]
  · simp [Addr.add, h]
theorem us_cells {w : World} {b off : Nat} {es : List UV} (h : FlatAt w b off es) : ∀ j u, (flatUs es)[j]? = some u → w.cell? ((⟨b, off, none⟩ : Addr).add j) = some u := by
  intro j u hu
  rw [add_off]
  exact h j u hu
/-- The fields of a place by name. -/
theorem us_at {w : World} {b off : Nat} {es : List UV} (h : FlatAt w b off es) {i : Nat} (hi : i < es.length) : w.cell? ⟨b, off + i * 4, none⟩ = some (.int .i64 (es.getD i UV.zero).i) ∧
    w.cell? ⟨b, off + i * 4 + 1, none⟩ = some (.int .i64 (es.getD i UV.zero).c) ∧ w.cell? ⟨b, off + i * 4 + 2, none⟩ = some (.int .i64 (es.getD i UV.zero).m) ∧ w.cell? ⟨b, off + i * 4 + 3, none⟩ = some (.bool (es.getD i UV.zero).b) := by
  obtain ⟨f0, f1, f2, f3⟩ := flatUs_get es i hi
  exact ⟨h _ _ f0, h _ _ f1, h _ _ f2, h _ _ f3⟩
end Go.Proofs.YtnddhpdhbmbikaaDoor
