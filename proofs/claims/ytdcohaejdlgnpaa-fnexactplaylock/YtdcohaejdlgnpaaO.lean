/- How lists that come in are opened. -/
import Derived.Test.YtdcohaejdlgnpaaRows
import Derived.Test.YtdcohaejdlgnpaaSZ
import Derived.WalkKit
import Derived.ProofKit
import Derived.OpenShut
import Derived.ShutString
import Derived.ChangeOld
import Derived.Below
import Derived.Deep.Slices
namespace Go.Proofs.Ytdcohaejdlgnpaa
open Go.ChangeShapes Go.WideShapes Go.ChangeAt Go.RowKit Go.Deep

theorem own : ownKnob Try.prog.godebug = none := by kernel_rfl
theorem laidOut : laidOutB Try.prog = true := by kernel_rfl
theorem cellsInt : Try.prog.cellsOf 3 = 1 := by kernel_rfl
theorem cellsBool : Try.prog.cellsOf 4 = 1 := by kernel_rfl
theorem add_none (b off i : Nat) : (⟨b, off, none⟩ : Addr).add i = ⟨b, off + i, none⟩ := by
  by_cases h : i = 0
  · subst h; simp [Addr.add]
  · simp [Addr.add, h]
theorem list1 {α : Type} {cs : List α} (h : cs.length = 1) : ∃ c0, cs = [c0] := by
  match cs, h with
  | [c0], _ => exact ⟨c0, rfl⟩
theorem list2 {α : Type} {cs : List α} (h : cs.length = 2) : ∃ c0 c1, cs = [c0, c1] := by
  match cs, h with
  | [c0, c1], _ => exact ⟨c0, c1, rfl⟩
theorem list3 {α : Type} {cs : List α} (h : cs.length = 3) : ∃ c0 c1 c2, cs = [c0, c1, c2] := by
  match cs, h with
  | [c0, c1, c2], _ => exact ⟨c0, c1, c2, rfl⟩

section
variable {H : Type} {enc : TypeId × Value → H} {P : Program} {w : World} {base : Nat} {spare : Nat → Bool} {held : Bool}

theorem ints_of_trod {fuel : Nat} {v : Value} {y : DataW H × List MemPlace} (h : DataW.trod enc Try.prog w base spare held fuel 22 [v] = some y) :
    ∃ a zs cap, v = .slice a zs.length cap ∧ Ints w a zs ∧ zs.length ≤ maxLen ∧ zs.length ≤ cap := by
  rcases open_ints Try.underlying22 Try.underlying3 cellsInt h with ⟨hcs, _⟩ | ⟨a, len, cap, zs, hcs, _, hl, hm, hz, _, hcell, _⟩
  · simp only [List.cons.injEq, and_true] at hcs
    exact ⟨none, [], 0, hcs, .inl rfl, Nat.zero_le _, Nat.zero_le _⟩
  · simp only [List.cons.injEq, and_true] at hcs
    have hlz : len ≤ zs.length := by split at hz <;> omega
    have hlen : (zs.take len).length = len := by simp; omega
    refine ⟨some a, zs.take len, cap, by rw [hlen]; exact hcs, ?_, by rw [hlen]; omega, by rw [hlen]; exact hl⟩
    by_cases h0 : len = 0
    · left; simp [h0]
    · right
      obtain ⟨b, off, spot⟩ := a
      have hc0 := hcell 0 (by omega)
      have hs : spot = none := by simpa [Addr.add] using World.cell?_spot hc0
      subst hs
      refine ⟨b, off, rfl, fun i hi => ?_⟩
      rw [hlen] at hi
      have := hcell i (by omega)
      rw [show (zs.take len).getD i 0 = zs.getD i 0 by simp [List.getD, hi]]
      by_cases hi0 : i = 0
      · subst hi0; simpa [Addr.add] using this
      · simpa [Addr.add, hi0] using this

theorem bools_of_trod {fuel : Nat} {v : Value} {y : DataW H × List MemPlace} (h : DataW.trod enc Try.prog w base spare held fuel 36 [v] = some y) :
    ∃ a zs cap, v = .slice a (List.length zs) cap ∧ Bools w a zs ∧ zs.length ≤ maxLen := by
  rcases open_slice Try.underlying36 h with ⟨hcs, _⟩ | ⟨a, len, cap, m, n, D, Pl, hcs, hb, hl, hm, hmm, _, hx⟩
  · simp only [List.cons.injEq, and_true] at hcs
    exact ⟨none, [], 0, hcs, .inl rfl, Nat.zero_le _⟩
  simp only [List.cons.injEq, and_true] at hcs
  have hlm : len ≤ m := by rw [hmm]; split <;> omega
  have each : ∀ i, i < m → ∃ q : Bool, w.cell? (a.add i) = some (.bool q) := by
    intro i hi
    obtain ⟨cs', h1, h2⟩ := hx i hi
    rw [cellsBool] at h1
    obtain ⟨_, hlen, hcell⟩ := World.cells?_some h1
    obtain ⟨c0, rfl⟩ := list1 hlen
    obtain ⟨x0, e0, _⟩ := DataW.trod_bool Try.underlying4 h2
    simp only [List.cons.injEq, and_true] at e0
    subst e0
    have f0 := hcell 0 (by omega)
    rw [add_add] at f0
    exact ⟨x0, by simpa using f0⟩
  obtain ⟨q, hq⟩ := choose_lt each
  have hlen : ((List.range len).map q).length = len := by simp
  refine ⟨some a, (List.range len).map q, cap, by rw [hlen]; exact hcs, ?_, by rw [hlen]; omega⟩
  by_cases h0 : len = 0
  · left; simp [h0]
  · right
    obtain ⟨b, off, spot⟩ := a
    have hc0 := hq 0 (by omega)
    have hs : spot = none := by simpa [Addr.add] using World.cell?_spot hc0
    subst hs
    refine ⟨b, off, rfl, fun i hi => ?_⟩
    rw [hlen] at hi
    have h := hq i (by omega)
    simp only [add_none] at h
    have e : ((List.range len).map q).getD i false = q i := by simp [List.getD, hi]
    rw [e]
    exact h

theorem cellsNeedV : Try.prog.cellsOf 120 = 2 := by kernel_rfl
theorem needs_of_trod {fuel : Nat} {v : Value} {y : DataW H × List MemPlace} (h : DataW.trod enc Try.prog w base spare held fuel 101 [v] = some y) :
    ∃ a es cap, v = .slice a (List.length es) cap ∧ Needs w a es ∧ es.length ≤ maxLen := by
  rcases open_slice Try.underlying101 h with ⟨hcs, _⟩ | ⟨a, len, cap, m, n, D, Pl, hcs, hb, hl, hm, hmm, _, hx⟩
  · simp only [List.cons.injEq, and_true] at hcs
    exact ⟨none, [], 0, hcs, .inl rfl, Nat.zero_le _⟩
  simp only [List.cons.injEq, and_true] at hcs
  have hlm : len ≤ m := by rw [hmm]; split <;> omega
  have each : ∀ i, i < m → ∃ q : NeedV, w.cell? (a.add (i * 2)) = some (.int .i64 q.point) ∧ w.cell? (a.add (i * 2 + 1)) = some (.int .i64 q.pos) := by
    intro i hi
    obtain ⟨cs', h1, h2⟩ := hx i hi
    rw [cellsNeedV] at h1
    obtain ⟨_, hlen, hcell⟩ := World.cells?_some h1
    obtain ⟨c0, c1, rfl⟩ := list2 hlen
    obtain ⟨xs, n, _, _, _, hxl, hfs⟩ := DataW.trod_struct Try.underlying120 h2
    simp only [List.size_toArray, List.length_cons, List.length_nil] at hxl
    have g0 : DataW.trod enc Try.prog w base spare held n 3 [c0] = some xs[0] := by
      have := hfs 0 _ rfl; rw [List.getElem?_eq_getElem (by omega)] at this; simpa [Value.cells, cellsInt] using this
    obtain ⟨x0, e0, _, _⟩ := DataW.trod_int Try.underlying3 g0
    have g1 : DataW.trod enc Try.prog w base spare held n 3 [c1] = some xs[1] := by
      have := hfs 1 _ rfl; rw [List.getElem?_eq_getElem (by omega)] at this; simpa [Value.cells, cellsInt] using this
    obtain ⟨x1, e1, _, _⟩ := DataW.trod_int Try.underlying3 g1
    simp only [List.cons.injEq, and_true] at e0 e1
    subst e0 e1
    have f0 := hcell 0 (by omega)
    have f1 := hcell 1 (by omega)
    rw [add_add] at f0 f1
    exact ⟨⟨x0, x1⟩, by simpa using f0, by simpa using f1⟩
  have : Inhabited NeedV := ⟨NeedV.zero⟩
  obtain ⟨q, hq⟩ := choose_lt each
  have hlen : ((List.range len).map q).length = len := by simp
  refine ⟨some a, (List.range len).map q, cap, by rw [hlen]; exact hcs, ?_, by rw [hlen]; omega⟩
  by_cases h0 : len = 0
  · left; simp [h0]
  · right
    obtain ⟨b, off, spot⟩ := a
    have hc0 := (hq 0 (by omega)).1
    have hs : spot = none := by simpa [Addr.add] using World.cell?_spot hc0
    subst hs
    refine ⟨b, off, rfl, fun i hi => ?_⟩
    rw [hlen] at hi
    have h := hq i (by omega)
    simp only [add_none] at h
    have e : ((List.range len).map q).getD i NeedV.zero = q i := by simp [List.getD, hi]
    rw [e]
    exact ⟨h.1, by rw [Nat.add_assoc]; exact h.2⟩

theorem cellsOpV : Try.prog.cellsOf 95 = 2 := by kernel_rfl
theorem ops_of_trod {fuel : Nat} {v : Value} {y : DataW H × List MemPlace} (h : DataW.trod enc Try.prog w base spare held fuel 51 [v] = some y) :
    ∃ a es cap, v = .slice a (List.length es) cap ∧ Ops w a es ∧ es.length ≤ maxLen := by
  rcases open_slice Try.underlying51 h with ⟨hcs, _⟩ | ⟨a, len, cap, m, n, D, Pl, hcs, hb, hl, hm, hmm, _, hx⟩
  · simp only [List.cons.injEq, and_true] at hcs
    exact ⟨none, [], 0, hcs, .inl rfl, Nat.zero_le _⟩
  simp only [List.cons.injEq, and_true] at hcs
  have hlm : len ≤ m := by rw [hmm]; split <;> omega
  have each : ∀ i, i < m → ∃ q : OpV, w.cell? (a.add (i * 2)) = some (.int .i64 q.kind) ∧ w.cell? (a.add (i * 2 + 1)) = some (.int .i64 q.what) := by
    intro i hi
    obtain ⟨cs', h1, h2⟩ := hx i hi
    rw [cellsOpV] at h1
    obtain ⟨_, hlen, hcell⟩ := World.cells?_some h1
    obtain ⟨c0, c1, rfl⟩ := list2 hlen
    obtain ⟨xs, n, _, _, _, hxl, hfs⟩ := DataW.trod_struct Try.underlying95 h2
    simp only [List.size_toArray, List.length_cons, List.length_nil] at hxl
    have g0 : DataW.trod enc Try.prog w base spare held n 3 [c0] = some xs[0] := by
      have := hfs 0 _ rfl; rw [List.getElem?_eq_getElem (by omega)] at this; simpa [Value.cells, cellsInt] using this
    obtain ⟨x0, e0, _, _⟩ := DataW.trod_int Try.underlying3 g0
    have g1 : DataW.trod enc Try.prog w base spare held n 3 [c1] = some xs[1] := by
      have := hfs 1 _ rfl; rw [List.getElem?_eq_getElem (by omega)] at this; simpa [Value.cells, cellsInt] using this
    obtain ⟨x1, e1, _, _⟩ := DataW.trod_int Try.underlying3 g1
    simp only [List.cons.injEq, and_true] at e0 e1
    subst e0 e1
    have f0 := hcell 0 (by omega)
    have f1 := hcell 1 (by omega)
    rw [add_add] at f0 f1
    exact ⟨⟨x0, x1⟩, by simpa using f0, by simpa using f1⟩
  have : Inhabited OpV := ⟨OpV.zero⟩
  obtain ⟨q, hq⟩ := choose_lt each
  have hlen : ((List.range len).map q).length = len := by simp
  refine ⟨some a, (List.range len).map q, cap, by rw [hlen]; exact hcs, ?_, by rw [hlen]; omega⟩
  by_cases h0 : len = 0
  · left; simp [h0]
  · right
    obtain ⟨b, off, spot⟩ := a
    have hc0 := (hq 0 (by omega)).1
    have hs : spot = none := by simpa [Addr.add] using World.cell?_spot hc0
    subst hs
    refine ⟨b, off, rfl, fun i hi => ?_⟩
    rw [hlen] at hi
    have h := hq i (by omega)
    simp only [add_none] at h
    have e : ((List.range len).map q).getD i OpV.zero = q i := by simp [List.getD, hi]
    rw [e]
    exact ⟨h.1, by rw [Nat.add_assoc]; exact h.2⟩
set_option maxRecDepth 100000 in
theorem open_ops {r : Reach} {b0 : Nat} {v : Value} {d : DataW H} {p : List MemPlace} (hv : Value.okWide Try.prog w r b0 51 v) (h : DataW.Trod enc Try.prog w base spare held 51 v d p) :
    ∃ a zs c, v = .slice a (List.length zs) c ∧ Ops w a zs ∧ zs.length ≤ maxLen := by
  obtain ⟨a, len, cap, rfl⟩ := okWide_slice Try.underlying51 hv
  obtain ⟨fuel, hf⟩ := h
  exact ops_of_trod (by simpa [Value.cells] using hf)

theorem cellsNeedsS : Try.prog.cellsOf 101 = 1 := by kernel_rfl
theorem cellsIntS : Try.prog.cellsOf 22 = 1 := by kernel_rfl
theorem cellsBoolS : Try.prog.cellsOf 36 = 1 := by kernel_rfl
theorem cellsRouteS : Try.prog.cellsOf 23 = 1 := by kernel_rfl
theorem cellsRoute : Try.prog.cellsOf 103 = 2 := by kernel_rfl
theorem cellsPlant : Try.prog.cellsOf 25 = 3 := by kernel_rfl
theorem cellsLocking : Try.prog.cellsOf 43 = 3 := by kernel_rfl
theorem array3 {α : Type} {cs : Array α} (h : cs.size = 3) : ∃ c0 c1 c2, cs = #[c0, c1, c2] := by
  obtain ⟨l⟩ := cs
  match l, h with
  | [c0, c1, c2], _ => exact ⟨c0, c1, c2, rfl⟩
theorem routes_of_trod {fuel : Nat} {v : Value} {y : DataW H × List MemPlace} (h : DataW.trod enc Try.prog w base spare held fuel 23 [v] = some y) :
    ∃ a rs cap, v = .slice a (List.length rs) cap ∧ Routes w a rs ∧ rs.length ≤ maxLen ∧ ∀ r ∈ rs, r.needs.length ≤ maxLen ∧ r.blocks.length ≤ maxLen := by
  rcases open_slice Try.underlying23 h with ⟨hcs, _⟩ | ⟨a, len, cap, m, n, D, Pl, hcs, hb, hl, hm, hmm, _, hx⟩
  · simp only [List.cons.injEq, and_true] at hcs
    exact ⟨none, [], 0, hcs, .inl rfl, Nat.zero_le _, fun r hr => by simp at hr⟩
  simp only [List.cons.injEq, and_true] at hcs
  have hlm : len ≤ m := by rw [hmm]; split <;> omega
  have each : ∀ i, i < m → ∃ q : RouteV, (∃ va vb, w.cell? (a.add (i * 2)) = some va ∧ w.cell? (a.add (i * 2 + 1)) = some vb ∧ RouteIn w va vb q) ∧ q.needs.length ≤ maxLen ∧ q.blocks.length ≤ maxLen := by
    intro i hi
    obtain ⟨cs', h1, h2⟩ := hx i hi
    rw [cellsRoute] at h1
    obtain ⟨_, hlen, hcell⟩ := World.cells?_some h1
    obtain ⟨c0, c1, rfl⟩ := list2 hlen
    obtain ⟨xs, n, _, _, _, hxl, hfs⟩ := DataW.trod_struct Try.underlying103 h2
    simp only [List.size_toArray, List.length_cons, List.length_nil] at hxl
    have g0 : DataW.trod enc Try.prog w base spare held n 101 [c0] = some xs[0] := by
      have := hfs 0 _ rfl; rw [List.getElem?_eq_getElem (by omega)] at this; simpa [Value.cells, cellsNeedsS] using this
    have g1 : DataW.trod enc Try.prog w base spare held n 22 [c1] = some xs[1] := by
      have := hfs 1 _ rfl; rw [List.getElem?_eq_getElem (by omega)] at this; simpa [Value.cells, cellsIntS] using this
    obtain ⟨na, es, nc, rfl, n1, n2⟩ := needs_of_trod g0
    obtain ⟨ia, bs, ic, rfl, i1, i2, i3⟩ := ints_of_trod g1
    have f0 := hcell 0 (by omega)
    have f1 := hcell 1 (by omega)
    rw [add_add] at f0 f1
    exact ⟨⟨es, bs⟩, ⟨_, _, by simpa using f0, by simpa using f1, na, nc, ia, ic, rfl, rfl, i3, n1, i1⟩, n2, i2⟩
  have : Inhabited RouteV := ⟨RouteV.zero⟩
  obtain ⟨q, hq⟩ := choose_lt each
  have hlen : ((List.range len).map q).length = len := by simp
  refine ⟨some a, (List.range len).map q, cap, by rw [hlen]; exact hcs, ?_, by rw [hlen]; omega, ?_⟩
  · by_cases h0 : len = 0
    · left; simp [h0]
    · right
      obtain ⟨b, off, spot⟩ := a
      obtain ⟨⟨va, vb, hc0, _⟩, _⟩ := hq 0 (by omega)
      have hs : spot = none := by simpa [Addr.add] using World.cell?_spot hc0
      subst hs
      refine ⟨b, off, rfl, fun i hi => ?_⟩
      rw [hlen] at hi
      have h := (hq i (by omega)).1
      simp only [add_none] at h
      have e : ((List.range len).map q).getD i RouteV.zero = q i := by simp [List.getD, hi]
      rw [e]
      obtain ⟨va, vb, h1, h2, h3⟩ := h
      exact ⟨va, vb, h1, by rw [Nat.add_assoc]; exact h2, h3⟩
  · intro r hr
    obtain ⟨i, hi, rfl⟩ := List.mem_map.1 hr
    exact (hq i (by have := List.mem_range.1 hi; omega)).2
set_option maxRecDepth 100000 in
theorem open_plant {r : Reach} {b0 : Nat} {v : Value} {d : DataW H} {p : List MemPlace} (hv : Value.okWide Try.prog w r b0 25 v) (h : DataW.Trod enc Try.prog w base spare held 25 v d p) :
    ∃ a ca b cb q, v = plantVal a ca b cb q ∧ PlantIn w a b q ∧ Big q := by
  obtain ⟨cs, rfl, hsz⟩ := okWide_struct Try.underlying25 hv
  obtain ⟨c0, c1, c2, rfl⟩ := array3 (hsz.trans cellsPlant)
  obtain ⟨fuel, hf⟩ := h
  obtain ⟨xs, n, _, _, _, hlen, hfs⟩ := DataW.trod_struct Try.underlying25 hf
  simp only [List.size_toArray, List.length_cons, List.length_nil] at hlen
  have g0 : DataW.trod enc Try.prog w base spare held n 22 [c0] = some xs[0] := by
    have := hfs 0 _ rfl; rw [List.getElem?_eq_getElem (by omega)] at this; simpa [Value.cells, cellsIntS] using this
  have g1 : DataW.trod enc Try.prog w base spare held n 3 [c1] = some xs[1] := by
    have := hfs 1 _ rfl; rw [List.getElem?_eq_getElem (by omega)] at this; simpa [Value.cells, cellsInt] using this
  have g2 : DataW.trod enc Try.prog w base spare held n 23 [c2] = some xs[2] := by
    have := hfs 2 _ rfl; rw [List.getElem?_eq_getElem (by omega)] at this; simpa [Value.cells, cellsRouteS] using this
  obtain ⟨a, zs, c, rfl, i1, l1, _⟩ := ints_of_trod g0
  obtain ⟨B, e0, _, _⟩ := DataW.trod_int Try.underlying3 g1
  obtain ⟨b, rs, cb, rfl, r1, r2, r3⟩ := routes_of_trod g2
  simp only [List.cons.injEq, and_true] at e0
  subst e0
  exact ⟨a, c, b, cb, ⟨zs, B, rs⟩, rfl, ⟨i1, r1⟩, ⟨l1, r2, r3⟩⟩
set_option maxRecDepth 100000 in
theorem open_lock {r : Reach} {b0 : Nat} {v : Value} {d : DataW H} {p : List MemPlace} (hv : Value.okWide Try.prog w r b0 43 v) (h : DataW.Trod enc Try.prog w base spare held 43 v d p) :
    ∃ a ca b cb c cc l, v = lockVal a ca b cb c cc l ∧ LockIn w a b c l ∧ LBig l := by
  obtain ⟨cs, rfl, hsz⟩ := okWide_struct Try.underlying43 hv
  obtain ⟨c0, c1, c2, rfl⟩ := array3 (hsz.trans cellsLocking)
  obtain ⟨fuel, hf⟩ := h
  obtain ⟨xs, n, _, _, _, hlen, hfs⟩ := DataW.trod_struct Try.underlying43 hf
  simp only [List.size_toArray, List.length_cons, List.length_nil] at hlen
  have g0 : DataW.trod enc Try.prog w base spare held n 22 [c0] = some xs[0] := by
    have := hfs 0 _ rfl; rw [List.getElem?_eq_getElem (by omega)] at this; simpa [Value.cells, cellsIntS] using this
  have g1 : DataW.trod enc Try.prog w base spare held n 36 [c1] = some xs[1] := by
    have := hfs 1 _ rfl; rw [List.getElem?_eq_getElem (by omega)] at this; simpa [Value.cells, cellsBoolS] using this
  have g2 : DataW.trod enc Try.prog w base spare held n 36 [c2] = some xs[2] := by
    have := hfs 2 _ rfl; rw [List.getElem?_eq_getElem (by omega)] at this; simpa [Value.cells, cellsBoolS] using this
  obtain ⟨a, zs, c, rfl, i1, l1, _⟩ := ints_of_trod g0
  obtain ⟨a1, zs1, c1, rfl, i2, l2⟩ := bools_of_trod g1
  obtain ⟨a2, zs2, c2, rfl, i3, l3⟩ := bools_of_trod g2
  exact ⟨a, c, a1, c1, a2, c2, ⟨zs, zs1, zs2⟩, rfl, ⟨i1, i2, i3⟩, ⟨l1, l2, l3⟩⟩
end
end Go.Proofs.Ytdcohaejdlgnpaa
