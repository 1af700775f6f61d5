/- How a list of cars that comes in is opened. -/
import Derived.Test.YtcadgafenbmihaaO
import Derived.Test.YtcadgafenbmihaaE
namespace Go.Proofs.Ytcadgafenbmihaa
open Go.ChangeShapes Go.WideShapes Go.ChangeAt Go.RowKit Go.Deep Fl

theorem list4 {α : Type} {cs : List α} (h : cs.length = 4) : ∃ c0 c1 c2 c3, cs = [c0, c1, c2, c3] := by
  match cs, h with
  | [c0, c1, c2, c3], _ => exact ⟨c0, c1, c2, c3, rfl⟩
theorem add_none (b off i : Nat) : (⟨b, off, none⟩ : Addr).add i = ⟨b, off + i, none⟩ := by
  by_cases h : i = 0
  · subst h; simp [Addr.add]
  · simp [Addr.add, h]
section
variable {H : Type} {enc : TypeId × Value → H} {w : World} {base : Nat} {spare : Nat → Bool} {held : Bool}

set_option maxRecDepth 100000 in
theorem cars_of_trod {fuel : Nat} {v : Value} {y : DataW H × List MemPlace} (h : DataW.trod enc Try.prog w base spare held fuel 41 [v] = some y) :
    ∃ a es cap, v = .slice a (List.length es) cap ∧ Cars w a es ∧ es.length ≤ maxLen ∧ ∀ c ∈ es, c.m < 2 ^ 64 := by
  rcases open_slice Try.underlying41 h with ⟨hcs, _⟩ | ⟨a, len, cap, m, n, D, Pl, hcs, hb, hl, hm, hmm, _, hx⟩
  · simp only [List.cons.injEq, and_true] at hcs
    exact ⟨none, [], 0, hcs, .inl rfl, Nat.zero_le _, by simp⟩
  simp only [List.cons.injEq, and_true] at hcs
  have hlm : len ≤ m := by rw [hmm]; split <;> omega
  have each : ∀ i, i < m → ∃ q : CarV, w.cell? (a.add (i * 4)) = some (.float .f64 q.m) ∧ w.cell? (a.add (i * 4 + 1)) = some (.float .f64 q.a) ∧ w.cell? (a.add (i * 4 + 2)) = some (.float .f64 q.b) ∧ w.cell? (a.add (i * 4 + 3)) = some (.float .f64 q.c) ∧ q.m < 2 ^ 64 := by
    intro i hi
    obtain ⟨cs', h1, h2⟩ := hx i hi
    rw [cells25] at h1
    obtain ⟨_, hlen, hcell⟩ := World.cells?_some h1
    obtain ⟨c0, c1, c2, c3, rfl⟩ := list4 hlen
    obtain ⟨xs, n, _, _, _, hxl, hfs⟩ := DataW.trod_struct Try.underlying25 h2
    simp only [List.size_toArray, List.length_cons, List.length_nil] at hxl
    have g0 : DataW.trod enc Try.prog w base spare held n 22 [c0] = some xs[0] := by
      have := hfs 0 _ rfl; rw [List.getElem?_eq_getElem (by omega)] at this; simpa [Value.cells, cells22] using this
    have g1 : DataW.trod enc Try.prog w base spare held n 22 [c1] = some xs[1] := by
      have := hfs 1 _ rfl; rw [List.getElem?_eq_getElem (by omega)] at this; simpa [Value.cells, cells22] using this
    have g2 : DataW.trod enc Try.prog w base spare held n 22 [c2] = some xs[2] := by
      have := hfs 2 _ rfl; rw [List.getElem?_eq_getElem (by omega)] at this; simpa [Value.cells, cells22] using this
    have g3 : DataW.trod enc Try.prog w base spare held n 22 [c3] = some xs[3] := by
      have := hfs 3 _ rfl; rw [List.getElem?_eq_getElem (by omega)] at this; simpa [Value.cells, cells22] using this
    obtain ⟨x0, rfl, b0⟩ := trod_fl g0
    obtain ⟨x1, rfl, _⟩ := trod_fl g1
    obtain ⟨x2, rfl, _⟩ := trod_fl g2
    obtain ⟨x3, rfl, _⟩ := trod_fl g3
    have f0 := hcell 0 (by omega)
    have f1 := hcell 1 (by omega)
    have f2 := hcell 2 (by omega)
    have f3 := hcell 3 (by omega)
    rw [add_add] at f0 f1 f2 f3
    exact ⟨⟨x0, x1, x2, x3⟩, by simpa using f0, by simpa using f1, by simpa using f2, by simpa using f3, b0⟩
  have : Inhabited CarV := ⟨CarV.zero⟩
  obtain ⟨q, hq⟩ := choose_lt each
  have hlen : ((List.range len).map q).length = len := by simp
  refine ⟨some a, (List.range len).map q, cap, by rw [hlen]; exact hcs, ?_, by rw [hlen]; omega, ?_⟩
  · by_cases h0 : len = 0
    · left; simp [h0]
    · right
      obtain ⟨b, off, spot⟩ := a
      have hc0 := (hq 0 (by omega)).1
      have hs : spot = none := by simpa [Addr.add] using World.cell?_spot hc0
      subst hs
      refine ⟨b, off, rfl, fun i hi => ?_⟩
      rw [hlen] at hi
      have h := hq i (by omega)
      simp only [add_none] at h
      have e : ((List.range len).map q).getD i CarV.zero = q i := by simp [List.getD, hi]
      rw [e]
      exact ⟨h.1, by rw [Nat.add_assoc]; exact h.2.1, by rw [Nat.add_assoc]; exact h.2.2.1, by rw [Nat.add_assoc]; exact h.2.2.2.1⟩
  · intro c hc
    simp only [List.mem_map, List.mem_range] at hc
    obtain ⟨i, hi, rfl⟩ := hc
    exact (hq i (by omega)).2.2.2.2

set_option maxRecDepth 100000 in
theorem open_cars {r : Reach} {b0 : Nat} {v : Value} {d : DataW H} {p : List MemPlace} (hv : Value.okWide Try.prog w r b0 41 v) (h : DataW.Trod enc Try.prog w base spare held 41 v d p) :
    ∃ a es c, v = .slice a (List.length es) c ∧ Cars w a es ∧ es.length ≤ maxLen ∧ ∀ c ∈ es, c.m < 2 ^ 64 := by
  obtain ⟨a, len, cap, rfl⟩ := okWide_slice Try.underlying41 hv
  obtain ⟨fuel, hf⟩ := h
  exact cars_of_trod (by simpa [Value.cells] using hf)
end
end Go.Proofs.Ytcadgafenbmihaa
