/- How lists that come in are opened. -/
import Derived.Test.YtapnidhokpkmdaaRows
import Derived.Test.YtapnidhokpkmdaaB
import Derived.Test.YtapnidhokpkmdaaC
import Derived.Test.YtapnidhokpkmdaaZS
import Derived.WalkKit
import Derived.ProofKit
import Derived.OpenShut
import Derived.ShutString
import Derived.ChangeOld
import Derived.Below
import Derived.Deep.Slices
namespace Go.Proofs.Ytapnidhokpkmdaa
open Go.ChangeShapes Go.WideShapes Go.ChangeAt Go.RowKit Go.Deep Fl

theorem own : ownKnob Try.prog.godebug = none := by kernel_rfl
theorem laidOut : laidOutB Try.prog = true := by kernel_rfl
theorem cellsInt : Try.prog.cellsOf 3 = 1 := by kernel_rfl
theorem cellsBool : Try.prog.cellsOf 4 = 1 := by kernel_rfl
theorem add_none (b off i : Nat) : (⟨b, off, none⟩ : Addr).add i = ⟨b, off + i, none⟩ := by
  by_cases h : i = 0
  · subst h; simp [Addr.add]
  · simp [Addr.add, h]
theorem list1 {α : Type} {cs : List α} (h : cs.length = 1) : ∃ c0, cs = [c0] := by
  match cs, h with
  | [c0], _ => exact ⟨c0, rfl⟩
theorem list2 {α : Type} {cs : List α} (h : cs.length = 2) : ∃ c0 c1, cs = [c0, c1] := by
  match cs, h with
  | [c0, c1], _ => exact ⟨c0, c1, rfl⟩
theorem list3 {α : Type} {cs : List α} (h : cs.length = 3) : ∃ c0 c1 c2, cs = [c0, c1, c2] := by
  match cs, h with
  | [c0, c1, c2], _ => exact ⟨c0, c1, c2, rfl⟩

section
variable {H : Type} {enc : TypeId × Value → H} {P : Program} {w : World} {base : Nat} {spare : Nat → Bool} {held : Bool}

theorem ints_of_trod {fuel : Nat} {v : Value} {y : DataW H × List MemPlace} (h : DataW.trod enc Try.prog w base spare held fuel 40 [v] = some y) :
    ∃ a zs cap, v = .slice a zs.length cap ∧ Ints w a zs ∧ zs.length ≤ maxLen := by
  rcases open_ints Try.underlying40 Try.underlying3 cellsInt h with ⟨hcs, _⟩ | ⟨a, len, cap, zs, hcs, _, hl, hm, hz, _, hcell, _⟩
  · simp only [List.cons.injEq, and_true] at hcs
    exact ⟨none, [], 0, hcs, .inl rfl, Nat.zero_le _⟩
  · simp only [List.cons.injEq, and_true] at hcs
    have hlz : len ≤ zs.length := by split at hz <;> omega
    have hlen : (zs.take len).length = len := by simp; omega
    refine ⟨some a, zs.take len, cap, by rw [hlen]; exact hcs, ?_, by rw [hlen]; omega⟩
    by_cases h0 : len = 0
    · left; simp [h0]
    · right
      obtain ⟨b, off, spot⟩ := a
      have hc0 := hcell 0 (by omega)
      have hs : spot = none := by simpa [Addr.add] using World.cell?_spot hc0
      subst hs
      refine ⟨b, off, rfl, fun i hi => ?_⟩
      rw [hlen] at hi
      have := hcell i (by omega)
      rw [show (zs.take len).getD i 0 = zs.getD i 0 by simp [List.getD, hi]]
      by_cases hi0 : i = 0
      · subst hi0; simpa [Addr.add] using this
      · simpa [Addr.add, hi0] using this
set_option maxRecDepth 100000 in
theorem open_intS {r : Reach} {b0 : Nat} {v : Value} {d : DataW H} {p : List MemPlace} (hv : Value.okWide Try.prog w r b0 40 v) (h : DataW.Trod enc Try.prog w base spare held 40 v d p) :
    ∃ a zs c, v = .slice a (List.length zs) c ∧ Ints w a zs ∧ zs.length ≤ maxLen := by
  obtain ⟨a, len, cap, rfl⟩ := okWide_slice Try.underlying40 hv
  obtain ⟨fuel, hf⟩ := h
  exact ints_of_trod (by simpa [Value.cells] using hf)

theorem bools_of_trod {fuel : Nat} {v : Value} {y : DataW H × List MemPlace} (h : DataW.trod enc Try.prog w base spare held fuel 41 [v] = some y) :
    ∃ a zs cap, v = .slice a (List.length zs) cap ∧ Bools w a zs ∧ zs.length ≤ maxLen := by
  rcases open_slice Try.underlying41 h with ⟨hcs, _⟩ | ⟨a, len, cap, m, n, D, Pl, hcs, hb, hl, hm, hmm, _, hx⟩
  · simp only [List.cons.injEq, and_true] at hcs
    exact ⟨none, [], 0, hcs, .inl rfl, Nat.zero_le _⟩
  simp only [List.cons.injEq, and_true] at hcs
  have hlm : len ≤ m := by rw [hmm]; split <;> omega
  have each : ∀ i, i < m → ∃ q : Bool, w.cell? (a.add i) = some (.bool q) := by
    intro i hi
    obtain ⟨cs', h1, h2⟩ := hx i hi
    rw [cellsBool] at h1
    obtain ⟨_, hlen, hcell⟩ := World.cells?_some h1
    obtain ⟨c0, rfl⟩ := list1 hlen
    obtain ⟨x0, e0, _⟩ := DataW.trod_bool Try.underlying4 h2
    simp only [List.cons.injEq, and_true] at e0
    subst e0
    have f0 := hcell 0 (by omega)
    rw [add_add] at f0
    exact ⟨x0, by simpa using f0⟩
  obtain ⟨q, hq⟩ := choose_lt each
  have hlen : ((List.range len).map q).length = len := by simp
  refine ⟨some a, (List.range len).map q, cap, by rw [hlen]; exact hcs, ?_, by rw [hlen]; omega⟩
  by_cases h0 : len = 0
  · left; simp [h0]
  · right
    obtain ⟨b, off, spot⟩ := a
    have hc0 := hq 0 (by omega)
    have hs : spot = none := by simpa [Addr.add] using World.cell?_spot hc0
    subst hs
    refine ⟨b, off, rfl, fun i hi => ?_⟩
    rw [hlen] at hi
    have h := hq i (by omega)
    simp only [add_none] at h
    have e : ((List.range len).map q).getD i false = q i := by simp [List.getD, hi]
    rw [e]
    exact h
set_option maxRecDepth 100000 in
theorem open_boolS {r : Reach} {b0 : Nat} {v : Value} {d : DataW H} {p : List MemPlace} (hv : Value.okWide Try.prog w r b0 41 v) (h : DataW.Trod enc Try.prog w base spare held 41 v d p) :
    ∃ a zs c, v = .slice a (List.length zs) c ∧ Bools w a zs ∧ zs.length ≤ maxLen := by
  obtain ⟨a, len, cap, rfl⟩ := okWide_slice Try.underlying41 hv
  obtain ⟨fuel, hf⟩ := h
  exact bools_of_trod (by simpa [Value.cells] using hf)

theorem cellsF : Try.prog.cellsOf 24 = 1 := by kernel_rfl
theorem cellsZ : Try.prog.cellsOf 44 = 2 := by kernel_rfl
theorem array2 {α : Type} {cs : Array α} (h : cs.size = 2) : ∃ c0 c1, cs = #[c0, c1] := by
  obtain ⟨l⟩ := cs
  match l, h with
  | [c0, c1], _ => exact ⟨c0, c1, rfl⟩
theorem trod_float {t : TypeId} {k : FloatKind} {fuel : Nat} {cs : List Value} {x : DataW H × List MemPlace} (ht : Try.prog.underlying t = some (.float k)) (h : DataW.trod enc Try.prog w base spare held fuel t cs = some x) : ∃ n, cs = [.float k n] ∧ x = (.lit (.float k n), []) ∧ (Lit.float k n).wf = true := by
  cases fuel with
  | zero => simp [DataW.trod] at h
  | succ n =>
    unfold DataW.trod at h
    rw [ht] at h
    split at h <;> simp_all
set_option maxRecDepth 100000 in
theorem trod_fl {n : Nat} {c : Value} {x : DataW H × List MemPlace} (h : DataW.trod enc Try.prog w base spare held n 24 [c] = some x) : ∃ b, c = .float .f64 b := by
  obtain ⟨b, e, _, hw⟩ := trod_float Try.underlying24 h
  simp only [List.cons.injEq, and_true] at e
  exact ⟨b, e⟩
set_option maxRecDepth 100000 in
theorem open_z {r : Reach} {b0 : Nat} {v : Value} {d : DataW H} {p : List MemPlace} (hv : Value.okWide Try.prog w r b0 44 v) (h : DataW.Trod enc Try.prog w base spare held 44 v d p) :
    ∃ z : ZV, v = z.val := by
  obtain ⟨cs, rfl, hsz⟩ := okWide_struct Try.underlying44 hv
  obtain ⟨c0, c1, rfl⟩ := array2 (hsz.trans cellsZ)
  obtain ⟨fuel, hf⟩ := h
  obtain ⟨xs, n, _, _, _, hlen, hfs⟩ := DataW.trod_struct Try.underlying44 hf
  simp only [List.size_toArray, List.length_cons, List.length_nil] at hlen
  have g0 : DataW.trod enc Try.prog w base spare held n 24 [c0] = some xs[0] := by
    have := hfs 0 _ rfl; rw [List.getElem?_eq_getElem (by omega)] at this; simpa [Value.cells, cellsF] using this
  obtain ⟨x0, rfl⟩ := trod_fl g0
  have g1 : DataW.trod enc Try.prog w base spare held n 24 [c1] = some xs[1] := by
    have := hfs 1 _ rfl; rw [List.getElem?_eq_getElem (by omega)] at this; simpa [Value.cells, cellsF] using this
  obtain ⟨x1, rfl⟩ := trod_fl g1
  exact ⟨⟨x0, x1⟩, rfl⟩
theorem zs_of_trod {fuel : Nat} {v : Value} {y : DataW H × List MemPlace} (h : DataW.trod enc Try.prog w base spare held fuel 49 [v] = some y) :
    ∃ a es cap, v = .slice a (List.length es) cap ∧ Zs w a es ∧ es.length ≤ maxLen := by
  rcases open_slice Try.underlying49 h with ⟨hcs, _⟩ | ⟨a, len, cap, m, n, D, Pl, hcs, hb, hl, hm, hmm, _, hx⟩
  · simp only [List.cons.injEq, and_true] at hcs
    exact ⟨none, [], 0, hcs, .inl rfl, Nat.zero_le _⟩
  simp only [List.cons.injEq, and_true] at hcs
  have hlm : len ≤ m := by rw [hmm]; split <;> omega
  have each : ∀ i, i < m → ∃ q : ZV, w.cell? (a.add (i * 2)) = some (.float .f64 q.re) ∧ w.cell? (a.add (i * 2 + 1)) = some (.float .f64 q.im) := by
    intro i hi
    obtain ⟨cs', h1, h2⟩ := hx i hi
    rw [cellsZ] at h1
    obtain ⟨_, hlen, hcell⟩ := World.cells?_some h1
    obtain ⟨c0, c1, rfl⟩ := list2 hlen
    obtain ⟨xs, n, _, _, _, hxl, hfs⟩ := DataW.trod_struct Try.underlying44 h2
    simp only [List.size_toArray, List.length_cons, List.length_nil] at hxl
    have g0 : DataW.trod enc Try.prog w base spare held n 24 [c0] = some xs[0] := by
      have := hfs 0 _ rfl; rw [List.getElem?_eq_getElem (by omega)] at this; simpa [Value.cells, cellsF] using this
    obtain ⟨x0, rfl⟩ := trod_fl g0
    have g1 : DataW.trod enc Try.prog w base spare held n 24 [c1] = some xs[1] := by
      have := hfs 1 _ rfl; rw [List.getElem?_eq_getElem (by omega)] at this; simpa [Value.cells, cellsF] using this
    obtain ⟨x1, rfl⟩ := trod_fl g1
    have f0 := hcell 0 (by omega)
    have f1 := hcell 1 (by omega)
    rw [add_add] at f0 f1
    exact ⟨⟨x0, x1⟩, by simpa using f0, by simpa using f1⟩
  have : Inhabited ZV := ⟨ZV.zero⟩
  obtain ⟨q, hq⟩ := choose_lt each
  have hlen : ((List.range len).map q).length = len := by simp
  refine ⟨some a, (List.range len).map q, cap, by rw [hlen]; exact hcs, ?_, by rw [hlen]; omega⟩
  by_cases h0 : len = 0
  · left; simp [h0]
  · right
    obtain ⟨b, off, spot⟩ := a
    have hc0 := (hq 0 (by omega)).1
    have hs : spot = none := by simpa [Addr.add] using World.cell?_spot hc0
    subst hs
    refine ⟨b, off, rfl, fun i hi => ?_⟩
    rw [hlen] at hi
    have h := hq i (by omega)
    simp only [add_none] at h
    have e : ((List.range len).map q).getD i ZV.zero = q i := by simp [List.getD, hi]
    rw [e]
    exact ⟨h.1, by rw [Nat.add_assoc]; exact h.2⟩
set_option maxRecDepth 100000 in
theorem open_zs {r : Reach} {b0 : Nat} {v : Value} {d : DataW H} {p : List MemPlace} (hv : Value.okWide Try.prog w r b0 49 v) (h : DataW.Trod enc Try.prog w base spare held 49 v d p) :
    ∃ a es c, v = .slice a (List.length es) c ∧ Zs w a es ∧ es.length ≤ maxLen := by
  obtain ⟨a, len, cap, rfl⟩ := okWide_slice Try.underlying49 hv
  obtain ⟨fuel, hf⟩ := h
  exact zs_of_trod (by simpa [Value.cells] using hf)
end
end Go.Proofs.Ytapnidhokpkmdaa
