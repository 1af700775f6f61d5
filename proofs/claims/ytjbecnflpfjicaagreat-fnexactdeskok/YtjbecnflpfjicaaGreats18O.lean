/- How lists that come in are opened. -/
import Derived.Test.YtjbecnflpfjicaaGreatRows
import Derived.Test.YtjbecnflpfjicaaGreats18B
import Derived.Test.YtjbecnflpfjicaaGreats18M
import Derived.WalkKit
import Derived.ProofKit
import Derived.OpenShut
import Derived.ShutString
import Derived.ChangeOld
import Derived.Below
import Derived.Deep.Slices
namespace Go.Proofs.YtjbecnflpfjicaaGreat.s18
open Go.ChangeShapes Go.WideShapes Go.ChangeAt Go.RowKit Go.Deep

theorem own : ownKnob Tryz.prog.godebug = none := by kernel_rfl
theorem laidOut : laidOutB Tryz.prog = true := by kernel_rfl
theorem cellsInt : Tryz.prog.cellsOf 3 = 1 := by kernel_rfl
theorem cellsBool : Tryz.prog.cellsOf 4 = 1 := by kernel_rfl
theorem add_none (b off i : Nat) : (⟨b, off, none⟩ : Addr).add i = ⟨b, off + i, none⟩ := by
  by_cases h : i = 0
  · subst h; simp [Addr.add]
  · simp [Addr.add, h]
theorem list1 {α : Type} {cs : List α} (h : cs.length = 1) : ∃ c0, cs = [c0] := by
  match cs, h with
  | [c0], _ => exact ⟨c0, rfl⟩
theorem list2 {α : Type} {cs : List α} (h : cs.length = 2) : ∃ c0 c1, cs = [c0, c1] := by
  match cs, h with
  | [c0, c1], _ => exact ⟨c0, c1, rfl⟩
theorem list3 {α : Type} {cs : List α} (h : cs.length = 3) : ∃ c0 c1 c2, cs = [c0, c1, c2] := by
  match cs, h with
  | [c0, c1, c2], _ => exact ⟨c0, c1, c2, rfl⟩

section
variable {H : Type} {enc : TypeId × Value → H} {P : Program} {w : World} {base : Nat} {spare : Nat → Bool} {held : Bool}

theorem ints_of_trod {fuel : Nat} {v : Value} {y : DataW H × List MemPlace} (h : DataW.trod enc Tryz.prog w base spare held fuel 29 [v] = some y) :
    ∃ a zs cap, v = .slice a zs.length cap ∧ Ints w a zs ∧ zs.length ≤ maxLen ∧ zs.length ≤ cap := by
  rcases open_ints Tryz.underlying29 Tryz.underlying3 cellsInt h with ⟨hcs, _⟩ | ⟨a, len, cap, zs, hcs, _, hl, hm, hz, _, hcell, _⟩
  · simp only [List.cons.injEq, and_true] at hcs
    exact ⟨none, [], 0, hcs, .inl rfl, Nat.zero_le _, Nat.zero_le _⟩
  · simp only [List.cons.injEq, and_true] at hcs
    have hlz : len ≤ zs.length := by split at hz <;> omega
    have hlen : (zs.take len).length = len := by simp; omega
    refine ⟨some a, zs.take len, cap, by rw [hlen]; exact hcs, ?_, by rw [hlen]; omega, by rw [hlen]; omega⟩
    by_cases h0 : len = 0
    · left; simp [h0]
    · right
      obtain ⟨b, off, spot⟩ := a
      have hc0 := hcell 0 (by omega)
      have hs : spot = none := by simpa [Addr.add] using World.cell?_spot hc0
      subst hs
      refine ⟨b, off, rfl, fun i hi => ?_⟩
      rw [hlen] at hi
      have := hcell i (by omega)
      rw [show (zs.take len).getD i 0 = zs.getD i 0 by simp [List.getD, hi]]
      by_cases hi0 : i = 0
      · subst hi0; simpa [Addr.add] using this
      · simpa [Addr.add, hi0] using this
set_option maxRecDepth 100000 in
theorem open_intS {r : Reach} {b0 : Nat} {v : Value} {d : DataW H} {p : List MemPlace} (hv : Value.okWide Tryz.prog w r b0 29 v) (h : DataW.Trod enc Tryz.prog w base spare held 29 v d p) :
    ∃ a zs c, v = .slice a (List.length zs) c ∧ Ints w a zs ∧ zs.length ≤ maxLen := by
  obtain ⟨a, len, cap, rfl⟩ := okWide_slice Tryz.underlying29 hv
  obtain ⟨fuel, hf⟩ := h
  obtain ⟨a2, zs, c2, h1, h2, h3, _⟩ := ints_of_trod (by simpa [Value.cells] using hf)
  exact ⟨a2, zs, c2, h1, h2, h3⟩

theorem array3 {α : Type} {cs : Array α} (h : cs.size = 3) : ∃ c0 c1 c2, cs = #[c0, c1, c2] := by
  obtain ⟨l⟩ := cs
  match l, h with
  | [c0, c1, c2], _ => exact ⟨c0, c1, c2, rfl⟩
theorem array2 {α : Type} {cs : Array α} (h : cs.size = 2) : ∃ c0 c1, cs = #[c0, c1] := by
  obtain ⟨l⟩ := cs
  match l, h with
  | [c0, c1], _ => exact ⟨c0, c1, rfl⟩
theorem cellsIntS : Tryz.prog.cellsOf 29 = 1 := by kernel_rfl
theorem rows_of_trod {fuel : Nat} {v : Value} {y : DataW H × List MemPlace} (h : DataW.trod enc Tryz.prog w base spare held fuel 30 [v] = some y) :
    ∃ a vs xss cap, v = .slice a (List.length xss) cap ∧ RowsW w a vs xss ∧ xss.length ≤ maxLen ∧ ∀ i, i < xss.length → (rwA xss i).length ≤ maxLen := by
  rcases open_slice Tryz.underlying30 h with ⟨hcs, _⟩ | ⟨a, len, cap, m, n, D, Pl, hcs, hb, hl, hm, hmm, _, hx⟩
  · simp only [List.cons.injEq, and_true] at hcs
    exact ⟨none, [], [], 0, hcs, RowsW.nil _ _, Nat.zero_le _, fun i hi => by simp at hi⟩
  simp only [List.cons.injEq, and_true] at hcs
  have hlm : len ≤ m := by rw [hmm]; split <;> omega
  have each : ∀ i, i < m → ∃ q : Value × List Int, w.cell? (a.add i) = some q.1 ∧ IntV w q.1 q.2 ∧ q.2.length ≤ maxLen := by
    intro i hi
    obtain ⟨cs', h1, h2⟩ := hx i hi
    rw [cellsIntS] at h1
    obtain ⟨_, hlen, hcell⟩ := World.cells?_some h1
    obtain ⟨c0, rfl⟩ := list1 hlen
    obtain ⟨ai, zs, ci, rfl, h3, h4, h5⟩ := ints_of_trod h2
    have f0 := hcell 0 (by omega)
    rw [add_add] at f0
    exact ⟨(_, zs), by simpa using f0, ⟨ai, ci, rfl, h3, h5⟩, h4⟩
  have : Inhabited (Value × List Int) := ⟨(undef, [])⟩
  obtain ⟨q, hq⟩ := choose_lt each
  have hlen : ((List.range len).map fun i => (q i).2).length = len := by simp
  have hA : ∀ i, i < len → rwA ((List.range len).map fun i => (q i).2) i = (q i).2 := fun i hi => by simp [rwA, List.getD, hi]
  refine ⟨some a, (List.range len).map (fun i => (q i).1), (List.range len).map (fun i => (q i).2), cap, by rw [hlen]; exact hcs, ⟨by simp, ?_, fun i hi => ?_⟩, by rw [hlen]; omega, fun i hi => ?_⟩
  · by_cases h0 : len = 0
    · left; simp [h0]
    · right
      obtain ⟨b, off, spot⟩ := a
      have hc0 := (hq 0 (by omega)).1
      have hs : spot = none := by simpa [Addr.add] using World.cell?_spot hc0
      subst hs
      refine ⟨b, off, rfl, fun i hi => ?_⟩
      have hi' : i < len := by simpa using hi
      have h := (hq i (by omega)).1
      rw [add_none] at h
      simpa using h
  · have hi' : i < len := by simpa using hi
    rw [hA i hi']
    simpa using (hq i (by omega)).2.1
  · rw [hlen] at hi
    rw [hA i hi]; exact (hq i (by omega)).2.2
theorem cellsSid : Tryz.prog.cellsOf 32 = 2 := by kernel_rfl
theorem cellsIntSS : Tryz.prog.cellsOf 30 = 1 := by kernel_rfl
set_option maxRecDepth 100000 in
theorem open_sid {r : Reach} {b0 : Nat} {v : Value} {d : DataW H} {p : List MemPlace} (hv : Value.okWide Tryz.prog w r b0 32 v) (h : DataW.Trod enc Tryz.prog w base spare held 32 v d p) :
    ∃ ra rc room a c vs rows, v = .agg #[.slice ra (List.length room) rc, .slice a (List.length rows) c] ∧ Ints w ra room ∧ room.length ≤ maxLen ∧ RowsW w a vs rows ∧ rows.length ≤ maxLen ∧ ∀ i, i < rows.length → (rwA rows i).length ≤ maxLen := by
  obtain ⟨cs, rfl, hsz⟩ := okWide_struct Tryz.underlying32 hv
  obtain ⟨c0, c1, rfl⟩ := array2 (hsz.trans cellsSid)
  obtain ⟨fuel, hf⟩ := h
  obtain ⟨xs, n, _, _, _, hlen, hfs⟩ := DataW.trod_struct Tryz.underlying32 hf
  simp only [List.size_toArray, List.length_cons, List.length_nil] at hlen
  have g0 : DataW.trod enc Tryz.prog w base spare held n 29 [c0] = some xs[0] := by
    have := hfs 0 _ rfl; rw [List.getElem?_eq_getElem (by omega)] at this; simpa [Value.cells, cellsIntS] using this
  have g1 : DataW.trod enc Tryz.prog w base spare held n 30 [c1] = some xs[1] := by
    have := hfs 1 _ rfl; rw [List.getElem?_eq_getElem (by omega)] at this; simpa [Value.cells, cellsIntS, cellsIntSS] using this
  obtain ⟨ra, room, rc, rfl, h1, h2, _⟩ := ints_of_trod g0
  obtain ⟨a, vs, rows, c, rfl, h3, h4, h5⟩ := rows_of_trod g1
  exact ⟨ra, rc, room, a, c, vs, rows, rfl, h1, h2, h3, h4, h5⟩
end
end Go.Proofs.YtjbecnflpfjicaaGreat.s18
