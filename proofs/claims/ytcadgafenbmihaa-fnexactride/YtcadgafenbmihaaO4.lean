/- How a list of floats that comes in is opened. -/
import Derived.Test.YtcadgafenbmihaaO3
import Derived.Test.YtcadgafenbmihaaM
namespace Go.Proofs.Ytcadgafenbmihaa
open Go.ChangeShapes Go.WideShapes Go.ChangeAt Go.RowKit Go.Deep Fl

theorem list1 {α : Type} {cs : List α} (h : cs.length = 1) : ∃ c0, cs = [c0] := by
  match cs, h with
  | [c0], _ => exact ⟨c0, rfl⟩
section
variable {H : Type} {enc : TypeId × Value → H} {w : World} {base : Nat} {spare : Nat → Bool} {held : Bool}

set_option maxRecDepth 100000 in
theorem flts_of_trod {fuel : Nat} {v : Value} {y : DataW H × List MemPlace} (h : DataW.trod enc Try.prog w base spare held fuel 52 [v] = some y) :
    ∃ a zs cap, v = .slice a (List.length zs) cap ∧ Flts w a zs ∧ zs.length ≤ maxLen := by
  rcases open_slice Try.underlying52 h with ⟨hcs, _⟩ | ⟨a, len, cap, m, n, D, Pl, hcs, hb, hl, hm, hmm, _, hx⟩
  · simp only [List.cons.injEq, and_true] at hcs
    exact ⟨none, [], 0, hcs, .inl rfl, Nat.zero_le _⟩
  simp only [List.cons.injEq, and_true] at hcs
  have hlm : len ≤ m := by rw [hmm]; split <;> omega
  have each : ∀ i, i < m → ∃ q : Nat, w.cell? (a.add i) = some (.float .f64 q) := by
    intro i hi
    obtain ⟨cs', h1, h2⟩ := hx i hi
    rw [cells22] at h1
    obtain ⟨_, hlen, hcell⟩ := World.cells?_some h1
    obtain ⟨c0, rfl⟩ := list1 hlen
    obtain ⟨x0, rfl, b0⟩ := trod_fl h2
    have f0 := hcell 0 (by omega)
    rw [add_add] at f0
    exact ⟨x0, by simpa using f0⟩
  obtain ⟨q, hq⟩ := choose_lt each
  have hlen : ((List.range len).map q).length = len := by simp
  refine ⟨some a, (List.range len).map q, cap, by rw [hlen]; exact hcs, ?_, by rw [hlen]; omega⟩
  by_cases h0 : len = 0
  · left; simp [h0]
  · right
    obtain ⟨b, off, spot⟩ := a
    have hc0 := hq 0 (by omega)
    have hs : spot = none := by simpa [Addr.add] using World.cell?_spot hc0
    subst hs
    refine ⟨b, off, rfl, fun i hi => ?_⟩
    rw [hlen] at hi
    have h := hq i (by omega)
    simp only [add_none] at h
    have e : ((List.range len).map q).getD i 0 = q i := by simp [List.getD, hi]
    rw [e]
    exact h

set_option maxRecDepth 100000 in
theorem open_flts {r : Reach} {b0 : Nat} {v : Value} {d : DataW H} {p : List MemPlace} (hv : Value.okWide Try.prog w r b0 52 v) (h : DataW.Trod enc Try.prog w base spare held 52 v d p) :
    ∃ a zs c, v = .slice a (List.length zs) c ∧ Flts w a zs ∧ zs.length ≤ maxLen := by
  obtain ⟨a, len, cap, rfl⟩ := okWide_slice Try.underlying52 hv
  obtain ⟨fuel, hf⟩ := h
  exact flts_of_trod (by simpa [Value.cells] using hf)
end
end Go.Proofs.Ytcadgafenbmihaa
