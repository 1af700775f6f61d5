/- How lists that come in are opened. -/
import Derived.Test.YtgnohomplehacaaRows
import Derived.Test.YtgnohomplehacaaV
import Derived.WalkKit
import Derived.ProofKit
import Derived.OpenShut
import Derived.ShutString
import Derived.ChangeOld
import Derived.Below
import Derived.Deep.Slices
namespace Go.Proofs.Ytgnohomplehacaa
open Go.ChangeShapes Go.WideShapes Go.ChangeAt Go.RowKit Go.Deep

theorem own : ownKnob Try.prog.godebug = none := by kernel_rfl
theorem laidOut : laidOutB Try.prog = true := by kernel_rfl
theorem cellsInt : Try.prog.cellsOf 3 = 1 := by kernel_rfl
theorem add_none (b off i : Nat) : (⟨b, off, none⟩ : Addr).add i = ⟨b, off + i, none⟩ := by
  by_cases h : i = 0
  · subst h; simp [Addr.add]
  · simp [Addr.add, h]
theorem list1 {α : Type} {cs : List α} (h : cs.length = 1) : ∃ c0, cs = [c0] := by
  match cs, h with
  | [c0], _ => exact ⟨c0, rfl⟩
theorem list2 {α : Type} {cs : List α} (h : cs.length = 2) : ∃ c0 c1, cs = [c0, c1] := by
  match cs, h with
  | [c0, c1], _ => exact ⟨c0, c1, rfl⟩
theorem list3 {α : Type} {cs : List α} (h : cs.length = 3) : ∃ c0 c1 c2, cs = [c0, c1, c2] := by
  match cs, h with
  | [c0, c1, c2], _ => exact ⟨c0, c1, c2, rfl⟩

section
variable {H : Type} {enc : TypeId × Value → H} {P : Program} {w : World} {base : Nat} {spare : Nat → Bool} {held : Bool}

theorem cellsByte : Try.prog.cellsOf 5 = 1 := by kernel_rfl
theorem cellsByteS : Try.prog.cellsOf 22 = 1 := by kernel_rfl
theorem cellsTel : Try.prog.cellsOf 41 = 3 := by kernel_rfl
theorem array3 {α : Type} {cs : Array α} (h : cs.size = 3) : ∃ c0 c1 c2, cs = #[c0, c1, c2] := by
  obtain ⟨l⟩ := cs
  match l, h with
  | [c0, c1, c2], _ => exact ⟨c0, c1, c2, rfl⟩
theorem bys_of_trod {fuel : Nat} {v : Value} {y : DataW H × List MemPlace} (h : DataW.trod enc Try.prog w base spare held fuel 22 [v] = some y) :
    ∃ a zs cap, v = .slice a (List.length zs) cap ∧ Bys w a zs ∧ By zs ∧ zs.length ≤ maxLen ∧ zs.length ≤ cap := by
  rcases open_ints Try.underlying22 Try.underlying5 (by kernel_rfl) h with ⟨hcs, _⟩ | ⟨a, len, cap, zs, hcs, _, hl, hm, hz, _, hcell, hwz⟩
  · simp only [List.cons.injEq, and_true] at hcs
    exact ⟨none, [], 0, hcs, .inl rfl, By.nil, Nat.zero_le _, Nat.zero_le _⟩
  · simp only [List.cons.injEq, and_true] at hcs
    have hlz : len ≤ zs.length := by split at hz <;> omega
    have hlen : (zs.take len).length = len := by simp; omega
    refine ⟨some a, zs.take len, cap, by rw [hlen]; exact hcs, ?_, ?_, by rw [hlen]; omega, by rw [hlen]; omega⟩
    · by_cases h0 : len = 0
      · left; simp [h0]
      · right
        obtain ⟨b, off, spot⟩ := a
        have hc0 := hcell 0 (by omega)
        have hs : spot = none := by simpa [Addr.add] using World.cell?_spot hc0
        subst hs
        refine ⟨b, off, rfl, fun i hi => ?_⟩
        rw [hlen] at hi
        have := hcell i (by omega)
        rw [show (zs.take len).getD i 0 = zs.getD i 0 by simp [List.getD, hi]]
        by_cases hi0 : i = 0
        · subst hi0; simpa [Addr.add] using this
        · simpa [Addr.add, hi0] using this
    · intro z hzm
      have hw := hwz _ (List.mem_of_mem_take hzm)
      simp only [Lit.wf, IntKind.min, IntKind.max, IntKind.signed, IntKind.bits, Bool.and_eq_true] at hw
      simpa using hw
set_option maxRecDepth 100000 in
theorem open_bys {r : Reach} {b0 : Nat} {v : Value} {d : DataW H} {p : List MemPlace} (hv : Value.okWide Try.prog w r b0 22 v) (h : DataW.Trod enc Try.prog w base spare held 22 v d p) :
    ∃ a zs c, v = .slice a (List.length zs) c ∧ Bys w a zs ∧ By zs ∧ zs.length ≤ maxLen ∧ zs.length ≤ c := by
  obtain ⟨a, len, cap, rfl⟩ := okWide_slice Try.underlying22 hv
  obtain ⟨fuel, hf⟩ := h
  exact bys_of_trod (by simpa [Value.cells] using hf)
theorem tel_cells {n : Nat} {c0 c1 c2 : Value} {y : DataW H × List MemPlace} (hf : DataW.trod enc Try.prog w base spare held n 41 [c0, c1, c2] = some y) :
    ∃ q k a zs cap, c0 = .int .i64 q ∧ c1 = .int .i64 k ∧ c2 = .slice a (List.length zs) cap ∧ Bys w a zs ∧ By zs ∧ zs.length ≤ maxLen ∧ zs.length ≤ cap := by
  obtain ⟨xs, n, _, _, _, hlen, hfs⟩ := DataW.trod_struct Try.underlying41 hf
  simp only [List.size_toArray, List.length_cons, List.length_nil] at hlen
  have g0 : DataW.trod enc Try.prog w base spare held n 3 [c0] = some xs[0] := by
    have := hfs 0 _ rfl; rw [List.getElem?_eq_getElem (by omega)] at this; simpa [Value.cells, cellsInt] using this
  have g1 : DataW.trod enc Try.prog w base spare held n 3 [c1] = some xs[1] := by
    have := hfs 1 _ rfl; rw [List.getElem?_eq_getElem (by omega)] at this; simpa [Value.cells, cellsInt] using this
  have g2 : DataW.trod enc Try.prog w base spare held n 22 [c2] = some xs[2] := by
    have := hfs 2 _ rfl; rw [List.getElem?_eq_getElem (by omega)] at this; simpa [Value.cells, cellsByteS] using this
  obtain ⟨x0, e0, _, _⟩ := DataW.trod_int Try.underlying3 g0
  obtain ⟨x1, e1, _, _⟩ := DataW.trod_int Try.underlying3 g1
  obtain ⟨a, zs, cap, rfl, h1, h2, h3, h4⟩ := bys_of_trod g2
  simp only [List.cons.injEq, and_true] at e0 e1
  exact ⟨x0, x1, a, zs, cap, e0, e1, rfl, h1, h2, h3, h4⟩
set_option maxRecDepth 100000 in
theorem open_tel {r : Reach} {b0 : Nat} {v : Value} {d : DataW H} {p : List MemPlace} (hv : Value.okWide Try.prog w r b0 41 v) (h : DataW.Trod enc Try.prog w base spare held 41 v d p) :
    ∃ q k a zs c, v = .agg #[.int .i64 q, .int .i64 k, .slice a (List.length zs) c] ∧ Bys w a zs ∧ By zs ∧ zs.length ≤ maxLen ∧ zs.length ≤ c := by
  obtain ⟨cs, rfl, hsz⟩ := okWide_struct Try.underlying41 hv
  obtain ⟨c0, c1, c2, rfl⟩ := array3 (hsz.trans cellsTel)
  obtain ⟨fuel, hf⟩ := h
  obtain ⟨q, k, a, zs, cap, rfl, rfl, rfl, h1⟩ := tel_cells (by simpa [Value.cells] using hf)
  exact ⟨q, k, a, zs, cap, rfl, h1⟩
theorem tels_of_trod {fuel : Nat} {v : Value} {y : DataW H × List MemPlace} (h : DataW.trod enc Try.prog w base spare held fuel 51 [v] = some y) :
    ∃ a ts cap, v = .slice a (List.length ts) cap ∧ Tels w a ts ∧ Big ts ∧ ByT ts := by
  rcases open_slice Try.underlying51 h with ⟨hcs, _⟩ | ⟨a, len, cap, m, n, D, Pl, hcs, hb, hl, hm, hmm, _, hx⟩
  · simp only [List.cons.injEq, and_true] at hcs
    exact ⟨none, [], 0, hcs, .inl rfl, ⟨Nat.zero_le _, by simp⟩, fun t ht => by simp at ht⟩
  simp only [List.cons.injEq, and_true] at hcs
  have hlm : len ≤ m := by rw [hmm]; split <;> omega
  have each : ∀ i, i < m → ∃ q : TelV, (∃ na nc, w.cell? (a.add (i * 3)) = some (.int .i64 q.q) ∧ w.cell? (a.add (i * 3 + 1)) = some (.int .i64 q.k) ∧ w.cell? (a.add (i * 3 + 2)) = some (.slice na q.b.length nc) ∧ q.b.length ≤ nc ∧ Bys w na q.b) ∧ q.b.length ≤ maxLen ∧ By q.b := by
    intro i hi
    obtain ⟨cs', h1, h2⟩ := hx i hi
    rw [cellsTel] at h1
    obtain ⟨_, hlen, hcell⟩ := World.cells?_some h1
    obtain ⟨c0, c1, c2, rfl⟩ := list3 hlen
    obtain ⟨q, k, na, zs, nc, rfl, rfl, rfl, n1, n2, n3, n4⟩ := tel_cells h2
    have f0 := hcell 0 (by omega)
    have f1 := hcell 1 (by omega)
    have f2 := hcell 2 (by omega)
    rw [add_add] at f0 f1 f2
    exact ⟨⟨q, k, zs⟩, ⟨na, nc, by simpa using f0, by simpa using f1, by simpa using f2, n4, n1⟩, n3, n2⟩
  have : Inhabited TelV := ⟨TelV.zero⟩
  obtain ⟨q, hq⟩ := choose_lt each
  have hlen : ((List.range len).map q).length = len := by simp
  refine ⟨some a, (List.range len).map q, cap, by rw [hlen]; exact hcs, ?_, ⟨by rw [hlen]; omega, ?_⟩, ?_⟩
  · by_cases h0 : len = 0
    · left; simp [h0]
    · right
      obtain ⟨b, off, spot⟩ := a
      obtain ⟨⟨va, vb, hc0, _⟩, _⟩ := hq 0 (by omega)
      have hs : spot = none := by simpa [Addr.add] using World.cell?_spot hc0
      subst hs
      refine ⟨b, off, rfl, fun i hi => ?_⟩
      rw [hlen] at hi
      have h := (hq i (by omega)).1
      simp only [add_none] at h
      have e : ((List.range len).map q).getD i TelV.zero = q i := by simp [List.getD, hi]
      rw [e]
      obtain ⟨na, nc, h1, h2, h3, h4, h5⟩ := h
      exact ⟨na, nc, h1, by rw [Nat.add_assoc]; exact h2, by rw [Nat.add_assoc]; exact h3, h4, h5⟩
  · intro r hr
    obtain ⟨i, hi, rfl⟩ := List.mem_map.1 hr
    exact (hq i (by have := List.mem_range.1 hi; omega)).2.1
  · intro r hr
    obtain ⟨i, hi, rfl⟩ := List.mem_map.1 hr
    exact (hq i (by have := List.mem_range.1 hi; omega)).2.2
set_option maxRecDepth 100000 in
theorem open_tels {r : Reach} {b0 : Nat} {v : Value} {d : DataW H} {p : List MemPlace} (hv : Value.okWide Try.prog w r b0 51 v) (h : DataW.Trod enc Try.prog w base spare held 51 v d p) :
    ∃ a ts c, v = .slice a (List.length ts) c ∧ Tels w a ts ∧ Big ts ∧ ByT ts := by
  obtain ⟨a, len, cap, rfl⟩ := okWide_slice Try.underlying51 hv
  obtain ⟨fuel, hf⟩ := h
  exact tels_of_trod (by simpa [Value.cells] using hf)
end
end Go.Proofs.Ytgnohomplehacaa
