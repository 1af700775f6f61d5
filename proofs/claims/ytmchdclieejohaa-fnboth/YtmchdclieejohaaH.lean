/- How a pattern that comes in is opened: three numbers and two lists of days. -/
import Derived.Test.YtmchdclieejohaaRows
import Derived.Test.YtmchdclieejohaaB
import Derived.WalkKit
import Derived.ProofKit
import Derived.OpenShut
import Derived.ShutString
import Derived.ChangeOld
import Derived.Below
import Derived.Lib.SmallJoins
namespace Go.Proofs.Ytmchdclieejohaa
open Go.ChangeShapes Go.WideShapes Go.ChangeAt Go.RowKit

theorem own : ownKnob Try.prog.godebug = none := by kernel_rfl
theorem laidOut : laidOutB Try.prog = true := by kernel_rfl
theorem cells3 : Try.prog.cellsOf 3 = 1 := by kernel_rfl
theorem cells24 : Try.prog.cellsOf 24 = 1 := by kernel_rfl
theorem cells38 : Try.prog.cellsOf 38 = 5 := by kernel_rfl

theorem array5 {α : Type} {cs : Array α} (h : cs.size = 5) : ∃ c0 c1 c2 c3 c4, cs = #[c0, c1, c2, c3, c4] := by
  obtain ⟨l⟩ := cs
  match l, h with
  | [c0, c1, c2, c3, c4], _ => exact ⟨c0, c1, c2, c3, c4, rfl⟩

section
variable {H : Type} {enc : TypeId × Value → H} {P : Program} {w : World} {base : Nat} {spare : Nat → Bool} {held : Bool}

theorem ints_of_trod {fuel : Nat} {v : Value} {y : DataW H × List MemPlace} (h : DataW.trod enc Try.prog w base spare held fuel 24 [v] = some y) :
    ∃ a zs cap, v = .slice a zs.length cap ∧ Ints w a zs ∧ zs.length ≤ maxLen := by
  rcases open_ints Try.underlying24 Try.underlying3 cells3 h with ⟨hcs, _⟩ | ⟨a, len, cap, zs, hcs, _, hl, hm, hz, _, hcell, _⟩
  · simp only [List.cons.injEq, and_true] at hcs
    exact ⟨none, [], 0, hcs, .inl rfl, Nat.zero_le _⟩
  · simp only [List.cons.injEq, and_true] at hcs
    have hlz : len ≤ zs.length := by split at hz <;> omega
    have hlen : (zs.take len).length = len := by simp; omega
    refine ⟨some a, zs.take len, cap, by rw [hlen]; exact hcs, ?_, by rw [hlen]; omega⟩
    by_cases h0 : len = 0
    · left; simp [h0]
    · right
      obtain ⟨b, off, spot⟩ := a
      have hc0 := hcell 0 (by omega)
      have hs : spot = none := by simpa [Addr.add] using World.cell?_spot hc0
      subst hs
      refine ⟨b, off, rfl, fun i hi => ?_⟩
      rw [hlen] at hi
      have := hcell i (by omega)
      rw [show (zs.take len).getD i 0 = zs.getD i 0 by simp [List.getD, hi]]
      by_cases hi0 : i = 0
      · subst hi0; simpa [Addr.add] using this
      · simpa [Addr.add, hi0] using this

theorem open_pat {r : Reach} {b0 : Nat} {v : Value} {d : DataW H} {p : List MemPlace} (hv : Value.okWide Try.prog w r b0 38 v) (h : DataW.Trod enc Try.prog w base spare held 38 v d p) :
    ∃ W F T a1 zs p1 a2 es p2, v = .agg #[.int .i64 W, .int .i64 F, .int .i64 T, .slice a1 (List.length zs) p1, .slice a2 (List.length es) p2] ∧ Ints w a1 zs ∧ Ints w a2 es ∧ zs.length ≤ maxLen ∧ es.length ≤ maxLen ∧
      (Lit.int .i64 W).wf = true ∧ (Lit.int .i64 F).wf = true ∧ (Lit.int .i64 T).wf = true := by
  obtain ⟨cs, rfl, hsz⟩ := okWide_struct Try.underlying38 hv
  obtain ⟨c0, c1, c2, c3, c4, rfl⟩ := array5 (hsz.trans cells38)
  obtain ⟨fuel, hf⟩ := h
  obtain ⟨xs, n, _, _, _, hlen, hfs⟩ := DataW.trod_struct Try.underlying38 hf
  simp only [List.size_toArray, List.length_cons, List.length_nil] at hlen
  have g0 : DataW.trod enc Try.prog w base spare held n 3 [c0] = some xs[0] := by
    have := hfs 0 _ rfl; rw [List.getElem?_eq_getElem (by omega)] at this; simpa [Value.cells, cells3] using this
  have g1 : DataW.trod enc Try.prog w base spare held n 3 [c1] = some xs[1] := by
    have := hfs 1 _ rfl; rw [List.getElem?_eq_getElem (by omega)] at this; simpa [Value.cells, cells3] using this
  have g2 : DataW.trod enc Try.prog w base spare held n 3 [c2] = some xs[2] := by
    have := hfs 2 _ rfl; rw [List.getElem?_eq_getElem (by omega)] at this; simpa [Value.cells, cells3] using this
  have g3 : DataW.trod enc Try.prog w base spare held n 24 [c3] = some xs[3] := by
    have := hfs 3 _ rfl; rw [List.getElem?_eq_getElem (by omega)] at this; simpa [Value.cells, cells24] using this
  have g4 : DataW.trod enc Try.prog w base spare held n 24 [c4] = some xs[4] := by
    have := hfs 4 _ rfl; rw [List.getElem?_eq_getElem (by omega)] at this; simpa [Value.cells, cells24] using this
  obtain ⟨W, e0, _, w0⟩ := DataW.trod_int Try.underlying3 g0
  obtain ⟨F, e1, _, w1⟩ := DataW.trod_int Try.underlying3 g1
  obtain ⟨T, e2, _, w2⟩ := DataW.trod_int Try.underlying3 g2
  obtain ⟨a1, zs, p1, rfl, i1, l1⟩ := ints_of_trod g3
  obtain ⟨a2, es, p2, rfl, i2, l2⟩ := ints_of_trod g4
  simp only [List.cons.injEq, and_true] at e0 e1 e2
  subst e0 e1 e2
  exact ⟨W, F, T, a1, zs, p1, a2, es, p2, rfl, i1, i2, l1, l2, w0, w1, w2⟩
end
end Go.Proofs.Ytmchdclieejohaa
