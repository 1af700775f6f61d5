/- How lists that come in are opened. -/
import Derived.Test.YthbedhbbijpfkaaRows
import Derived.Test.YthbedhbbijpfkaaV
import Derived.WalkKit
import Derived.ProofKit
import Derived.OpenShut
import Derived.ShutString
import Derived.ChangeOld
import Derived.Below
import Derived.Deep.Slices
namespace Go.Proofs.Ythbedhbbijpfkaa
open Go.ChangeShapes Go.WideShapes Go.ChangeAt Go.RowKit Go.Deep

theorem own : ownKnob Try.prog.godebug = none := by kernel_rfl
theorem laidOut : laidOutB Try.prog = true := by kernel_rfl
theorem cellsInt : Try.prog.cellsOf 3 = 1 := by kernel_rfl
theorem cellsBool : Try.prog.cellsOf 4 = 1 := by kernel_rfl
theorem add_none (b off i : Nat) : (⟨b, off, none⟩ : Addr).add i = ⟨b, off + i, none⟩ := by
  by_cases h : i = 0
  · subst h; simp [Addr.add]
  · simp [Addr.add, h]
theorem list1 {α : Type} {cs : List α} (h : cs.length = 1) : ∃ c0, cs = [c0] := by
  match cs, h with
  | [c0], _ => exact ⟨c0, rfl⟩
theorem list2 {α : Type} {cs : List α} (h : cs.length = 2) : ∃ c0 c1, cs = [c0, c1] := by
  match cs, h with
  | [c0, c1], _ => exact ⟨c0, c1, rfl⟩
theorem list3 {α : Type} {cs : List α} (h : cs.length = 3) : ∃ c0 c1 c2, cs = [c0, c1, c2] := by
  match cs, h with
  | [c0, c1, c2], _ => exact ⟨c0, c1, c2, rfl⟩

section
variable {H : Type} {enc : TypeId × Value → H} {P : Program} {w : World} {base : Nat} {spare : Nat → Bool} {held : Bool}

theorem cellsHaltV : Try.prog.cellsOf 114 = 3 := by kernel_rfl
theorem halts_of_trod {fuel : Nat} {v : Value} {y : DataW H × List MemPlace} (h : DataW.trod enc Try.prog w base spare held fuel 61 [v] = some y) :
    ∃ a es cap, v = .slice a (List.length es) cap ∧ Halts w a es ∧ es.length ≤ maxLen ∧ es.length ≤ cap := by
  rcases open_slice Try.underlying61 h with ⟨hcs, _⟩ | ⟨a, len, cap, m, n, D, Pl, hcs, hb, hl, hm, hmm, _, hx⟩
  · simp only [List.cons.injEq, and_true] at hcs
    exact ⟨none, [], 0, hcs, .inl rfl, Nat.zero_le _, Nat.zero_le _⟩
  simp only [List.cons.injEq, and_true] at hcs
  have hlm : len ≤ m := by rw [hmm]; split <;> omega
  have each : ∀ i, i < m → ∃ q : HaltV, w.cell? (a.add (i * 3)) = some (.int .i64 q.n) ∧ w.cell? (a.add (i * 3 + 1)) = some (.int .i64 q.a) ∧ w.cell? (a.add (i * 3 + 2)) = some (.int .i64 q.d) := by
    intro i hi
    obtain ⟨cs', h1, h2⟩ := hx i hi
    rw [cellsHaltV] at h1
    obtain ⟨_, hlen, hcell⟩ := World.cells?_some h1
    obtain ⟨c0, c1, c2, rfl⟩ := list3 hlen
    obtain ⟨xs, n, _, _, _, hxl, hfs⟩ := DataW.trod_struct Try.underlying114 h2
    simp only [List.size_toArray, List.length_cons, List.length_nil] at hxl
    have g0 : DataW.trod enc Try.prog w base spare held n 3 [c0] = some xs[0] := by
      have := hfs 0 _ rfl; rw [List.getElem?_eq_getElem (by omega)] at this; simpa [Value.cells, cellsInt] using this
    obtain ⟨x0, e0, _, _⟩ := DataW.trod_int Try.underlying3 g0
    have g1 : DataW.trod enc Try.prog w base spare held n 3 [c1] = some xs[1] := by
      have := hfs 1 _ rfl; rw [List.getElem?_eq_getElem (by omega)] at this; simpa [Value.cells, cellsInt] using this
    obtain ⟨x1, e1, _, _⟩ := DataW.trod_int Try.underlying3 g1
    have g2 : DataW.trod enc Try.prog w base spare held n 3 [c2] = some xs[2] := by
      have := hfs 2 _ rfl; rw [List.getElem?_eq_getElem (by omega)] at this; simpa [Value.cells, cellsInt] using this
    obtain ⟨x2, e2, _, _⟩ := DataW.trod_int Try.underlying3 g2
    simp only [List.cons.injEq, and_true] at e0 e1 e2
    subst e0 e1 e2
    have f0 := hcell 0 (by omega)
    have f1 := hcell 1 (by omega)
    have f2 := hcell 2 (by omega)
    rw [add_add] at f0 f1 f2
    exact ⟨⟨x0, x1, x2⟩, by simpa using f0, by simpa using f1, by simpa using f2⟩
  have : Inhabited HaltV := ⟨HaltV.zero⟩
  obtain ⟨q, hq⟩ := choose_lt each
  have hlen : ((List.range len).map q).length = len := by simp
  refine ⟨some a, (List.range len).map q, cap, by rw [hlen]; exact hcs, ?_, by rw [hlen]; omega, by rw [hlen]; omega⟩
  by_cases h0 : len = 0
  · left; simp [h0]
  · right
    obtain ⟨b, off, spot⟩ := a
    have hc0 := (hq 0 (by omega)).1
    have hs : spot = none := by simpa [Addr.add] using World.cell?_spot hc0
    subst hs
    refine ⟨b, off, rfl, fun i hi => ?_⟩
    rw [hlen] at hi
    have h := hq i (by omega)
    simp only [add_none] at h
    have e : ((List.range len).map q).getD i HaltV.zero = q i := by simp [List.getD, hi]
    rw [e]
    exact ⟨h.1, by rw [Nat.add_assoc]; exact h.2.1, by rw [Nat.add_assoc]; exact h.2.2⟩

theorem cellsStr : Try.prog.cellsOf 9 = 1 := by kernel_rfl
theorem cellsHaltS : Try.prog.cellsOf 61 = 1 := by kernel_rfl
theorem cellsTrip : Try.prog.cellsOf 63 = 2 := by kernel_rfl
theorem array2 {α : Type} {cs : Array α} (h : cs.size = 2) : ∃ c0 c1, cs = #[c0, c1] := by
  obtain ⟨l⟩ := cs
  obtain ⟨c0, c1, rfl⟩ := list2 (by simpa using h)
  exact ⟨c0, c1, rfl⟩
theorem add_add (a : Addr) (i j : Nat) : (a.add i).add j = a.add (i + j) := by
  obtain ⟨b, o, s⟩ := a
  by_cases h1 : i = 0
  · subst h1; simp [Addr.add]
  · by_cases h2 : j = 0
    · subst h2; simp [Addr.add]
    · simp [Addr.add, h1, h2, Nat.add_assoc]
set_option maxRecDepth 100000 in
theorem open_trip {r : Reach} {b0 : Nat} {v : Value} {d : DataW H} {p : List MemPlace} (hv : Value.okWide Try.prog w r b0 63 v) (h : DataW.Trod enc Try.prog w base spare held 63 v d p) :
    ∃ s a es c, v = .agg #[.string s, .slice a (List.length es) c] ∧ Halts w a es ∧ es.length ≤ maxLen ∧ s.size ≤ maxLen := by
  obtain ⟨cs, rfl, hsz⟩ := okWide_struct Try.underlying63 hv
  obtain ⟨c0, c1, rfl⟩ := array2 (hsz.trans cellsTrip)
  obtain ⟨fuel, hf⟩ := h
  obtain ⟨xs, n, _, _, _, hlen, hfs⟩ := DataW.trod_struct Try.underlying63 hf
  simp only [List.size_toArray, List.length_cons, List.length_nil] at hlen
  have g0 : DataW.trod enc Try.prog w base spare held n 9 [c0] = some xs[0] := by
    have := hfs 0 _ rfl; rw [List.getElem?_eq_getElem (by omega)] at this; simpa [Value.cells, cellsStr] using this
  have g1 : DataW.trod enc Try.prog w base spare held n 61 [c1] = some xs[1] := by
    have := hfs 1 _ rfl; rw [List.getElem?_eq_getElem (by omega)] at this; simpa [Value.cells, cellsHaltS] using this
  obtain ⟨s, e0, _, hs⟩ := DataW.trod_string Try.underlying9 g0
  obtain ⟨a, es, c, rfl, i1, l1, _⟩ := halts_of_trod g1
  simp only [List.cons.injEq, and_true] at e0
  subst e0
  exact ⟨s, a, es, c, rfl, i1, l1, hs⟩
set_option maxRecDepth 100000 in
theorem trips_of_trod {fuel : Nat} {v : Value} {y : DataW H × List MemPlace} (h : DataW.trod enc Try.prog w base spare held fuel 36 [v] = some y) :
    ∃ a ts cap, v = .slice a (List.length ts) cap ∧ Trips w a ts ∧ Big ts := by
  rcases open_slice Try.underlying36 h with ⟨hcs, _⟩ | ⟨a, len, cap, m, n, D, Pl, hcs, hb, hl, hm, hmm, _, hx⟩
  · simp only [List.cons.injEq, and_true] at hcs
    exact ⟨none, [], 0, hcs, .inl rfl, Nat.zero_le _, by simp⟩
  simp only [List.cons.injEq, and_true] at hcs
  have hlm : len ≤ m := by rw [hmm]; split <;> omega
  have each : ∀ i, i < m → ∃ q : TripV, (∃ va vb, w.cell? (a.add (i * 2)) = some va ∧ w.cell? (a.add (i * 2 + 1)) = some vb ∧ TripIn w va vb q) ∧ q.name.size ≤ maxLen ∧ q.calls.length ≤ maxLen := by
    intro i hi
    obtain ⟨cs', h1, h2⟩ := hx i hi
    rw [cellsTrip] at h1
    obtain ⟨_, hlen, hcell⟩ := World.cells?_some h1
    obtain ⟨c0, c1, rfl⟩ := list2 hlen
    obtain ⟨xs, n, _, _, _, hxl, hfs⟩ := DataW.trod_struct Try.underlying63 h2
    simp only [List.size_toArray, List.length_cons, List.length_nil] at hxl
    have g0 : DataW.trod enc Try.prog w base spare held n 9 [c0] = some xs[0] := by
      have := hfs 0 _ rfl; rw [List.getElem?_eq_getElem (by omega)] at this; simpa [Value.cells, cellsStr] using this
    have g1 : DataW.trod enc Try.prog w base spare held n 61 [c1] = some xs[1] := by
      have := hfs 1 _ rfl; rw [List.getElem?_eq_getElem (by omega)] at this; simpa [Value.cells, cellsHaltS] using this
    obtain ⟨s, e0, _, hs⟩ := DataW.trod_string Try.underlying9 g0
    obtain ⟨na, es, nc, rfl, n1, n2, n3⟩ := halts_of_trod g1
    simp only [List.cons.injEq, and_true] at e0
    subst e0
    have f0 := hcell 0 (by omega)
    have f1 := hcell 1 (by omega)
    rw [add_add] at f0 f1
    exact ⟨⟨s, es⟩, ⟨_, _, by simpa using f0, by simpa using f1, rfl, na, nc, rfl, n3, n1⟩, hs, n2⟩
  have : Inhabited TripV := ⟨TripV.zero⟩
  obtain ⟨q, hq⟩ := choose_lt each
  have hlen : ((List.range len).map q).length = len := by simp
  refine ⟨some a, (List.range len).map q, cap, by rw [hlen]; exact hcs, ?_, by rw [hlen]; omega, ?_⟩
  · by_cases h0 : len = 0
    · left; simp [h0]
    · right
      obtain ⟨b, off, spot⟩ := a
      obtain ⟨⟨va, vb, hc0, _⟩, _⟩ := hq 0 (by omega)
      have hs : spot = none := by simpa [Addr.add] using World.cell?_spot hc0
      subst hs
      refine ⟨b, off, rfl, fun i hi => ?_⟩
      rw [hlen] at hi
      have h := (hq i (by omega)).1
      simp only [add_none] at h
      have e : ((List.range len).map q).getD i TripV.zero = q i := by simp [List.getD, hi]
      rw [e]
      obtain ⟨va, vb, h1, h2, h3⟩ := h
      exact ⟨va, vb, h1, by rw [Nat.add_assoc]; exact h2, h3⟩
  · intro r hr
    obtain ⟨i, hi, rfl⟩ := List.mem_map.1 hr
    exact (hq i (by have := List.mem_range.1 hi; omega)).2
set_option maxRecDepth 100000 in
theorem open_trips {r : Reach} {b0 : Nat} {v : Value} {d : DataW H} {p : List MemPlace} (hv : Value.okWide Try.prog w r b0 36 v) (h : DataW.Trod enc Try.prog w base spare held 36 v d p) :
    ∃ a ts c, v = .slice a (List.length ts) c ∧ Trips w a ts ∧ Big ts := by
  obtain ⟨a, len, cap, rfl⟩ := okWide_slice Try.underlying36 hv
  obtain ⟨fuel, hf⟩ := h
  exact trips_of_trod (by simpa [Value.cells] using hf)
end
end Go.Proofs.Ythbedhbbijpfkaa
