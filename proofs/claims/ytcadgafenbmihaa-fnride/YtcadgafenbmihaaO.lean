/- How a car, a locomotive and a float that come in are opened. -/
import Derived.Test.YtcadgafenbmihaaRows
import Derived.Test.YtcadgafenbmihaaC
import Derived.WalkKit
import Derived.ProofKit
import Derived.OpenShut
import Derived.ShutString
import Derived.ChangeOld
import Derived.Below
import Derived.Deep.Slices
namespace Go.Proofs.Ytcadgafenbmihaa
open Go.ChangeShapes Go.WideShapes Go.ChangeAt Go.RowKit Go.Deep Fl

attribute [local go_sem] run_store_float

theorem own : ownKnob Try.prog.godebug = none := by kernel_rfl
theorem laidOut : laidOutB Try.prog = true := by kernel_rfl
theorem cells22 : Try.prog.cellsOf 22 = 1 := by kernel_rfl
theorem cells25 : Try.prog.cellsOf 25 = 4 := by kernel_rfl
theorem cells31 : Try.prog.cellsOf 31 = 2 := by kernel_rfl
theorem array4 {α : Type} {cs : Array α} (h : cs.size = 4) : ∃ c0 c1 c2 c3, cs = #[c0, c1, c2, c3] := by
  obtain ⟨l⟩ := cs
  match l, h with
  | [c0, c1, c2, c3], _ => exact ⟨c0, c1, c2, c3, rfl⟩
theorem array2 {α : Type} {cs : Array α} (h : cs.size = 2) : ∃ c0 c1, cs = #[c0, c1] := by
  obtain ⟨l⟩ := cs
  match l, h with
  | [c0, c1], _ => exact ⟨c0, c1, rfl⟩

section
variable {H : Type} {enc : TypeId × Value → H} {w : World} {base : Nat} {spare : Nat → Bool} {held : Bool}

theorem wf64 {b : Nat} (h : (Lit.float .f64 b).wf = true) : b < 2 ^ 64 := by simpa [Lit.wf] using h
theorem trod_float {t : TypeId} {k : FloatKind} {fuel : Nat} {cs : List Value} {x : DataW H × List MemPlace} (ht : Try.prog.underlying t = some (.float k)) (h : DataW.trod enc Try.prog w base spare held fuel t cs = some x) : ∃ n, cs = [.float k n] ∧ x = (.lit (.float k n), []) ∧ (Lit.float k n).wf = true := by
  cases fuel with
  | zero => simp [DataW.trod] at h
  | succ n =>
    unfold DataW.trod at h
    rw [ht] at h
    split at h <;> simp_all
set_option maxRecDepth 100000 in
theorem trod_fl {n : Nat} {c : Value} {x : DataW H × List MemPlace} (h : DataW.trod enc Try.prog w base spare held n 22 [c] = some x) : ∃ b, c = .float .f64 b ∧ b < 2 ^ 64 := by
  obtain ⟨b, e, _, hw⟩ := trod_float Try.underlying22 h
  simp only [List.cons.injEq, and_true] at e
  exact ⟨b, e, wf64 hw⟩

set_option maxRecDepth 100000 in
theorem open_car {r : Reach} {b0 : Nat} {v : Value} {d : DataW H} {p : List MemPlace} (hv : Value.okWide Try.prog w r b0 25 v) (h : DataW.Trod enc Try.prog w base spare held 25 v d p) :
    ∃ m : CarV, v = CarV.val m := by
  obtain ⟨cs, rfl, hsz⟩ := okWide_struct Try.underlying25 hv
  obtain ⟨c0, c1, c2, c3, rfl⟩ := array4 (hsz.trans cells25)
  obtain ⟨fuel, hf⟩ := h
  obtain ⟨xs, n, _, _, _, hlen, hfs⟩ := DataW.trod_struct Try.underlying25 hf
  simp only [List.size_toArray, List.length_cons, List.length_nil] at hlen
  have g0 : DataW.trod enc Try.prog w base spare held n 22 [c0] = some xs[0] := by
    have := hfs 0 _ rfl; rw [List.getElem?_eq_getElem (by omega)] at this; simpa [Value.cells, cells22] using this
  have g1 : DataW.trod enc Try.prog w base spare held n 22 [c1] = some xs[1] := by
    have := hfs 1 _ rfl; rw [List.getElem?_eq_getElem (by omega)] at this; simpa [Value.cells, cells22] using this
  have g2 : DataW.trod enc Try.prog w base spare held n 22 [c2] = some xs[2] := by
    have := hfs 2 _ rfl; rw [List.getElem?_eq_getElem (by omega)] at this; simpa [Value.cells, cells22] using this
  have g3 : DataW.trod enc Try.prog w base spare held n 22 [c3] = some xs[3] := by
    have := hfs 3 _ rfl; rw [List.getElem?_eq_getElem (by omega)] at this; simpa [Value.cells, cells22] using this
  obtain ⟨x0, rfl, _⟩ := trod_fl g0
  obtain ⟨x1, rfl, _⟩ := trod_fl g1
  obtain ⟨x2, rfl, _⟩ := trod_fl g2
  obtain ⟨x3, rfl, _⟩ := trod_fl g3
  exact ⟨⟨x0, x1, x2, x3⟩, rfl⟩

set_option maxRecDepth 100000 in
theorem open_loco {r : Reach} {b0 : Nat} {v : Value} {d : DataW H} {p : List MemPlace} (hv : Value.okWide Try.prog w r b0 31 v) (h : DataW.Trod enc Try.prog w base spare held 31 v d p) :
    ∃ m : LocoV, v = LocoV.val m := by
  obtain ⟨cs, rfl, hsz⟩ := okWide_struct Try.underlying31 hv
  obtain ⟨c0, c1, rfl⟩ := array2 (hsz.trans cells31)
  obtain ⟨fuel, hf⟩ := h
  obtain ⟨xs, n, _, _, _, hlen, hfs⟩ := DataW.trod_struct Try.underlying31 hf
  simp only [List.size_toArray, List.length_cons, List.length_nil] at hlen
  have g0 : DataW.trod enc Try.prog w base spare held n 22 [c0] = some xs[0] := by
    have := hfs 0 _ rfl; rw [List.getElem?_eq_getElem (by omega)] at this; simpa [Value.cells, cells22] using this
  have g1 : DataW.trod enc Try.prog w base spare held n 22 [c1] = some xs[1] := by
    have := hfs 1 _ rfl; rw [List.getElem?_eq_getElem (by omega)] at this; simpa [Value.cells, cells22] using this
  obtain ⟨x0, rfl, _⟩ := trod_fl g0
  obtain ⟨x1, rfl, _⟩ := trod_fl g1
  exact ⟨⟨x0, x1⟩, rfl⟩
end

end Go.Proofs.Ytcadgafenbmihaa
