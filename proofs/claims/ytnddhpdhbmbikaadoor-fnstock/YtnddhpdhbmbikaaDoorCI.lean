/- Turn of the model. -/
import Derived.Test.YtnddhpdhbmbikaaDoorCH
namespace Go.Proofs.YtnddhpdhbmbikaaDoor
open Go.RowKit
theorem turn_no {l : List UV} (h : formB l = false) : turnL l = [] := by simp [turnL, h]
theorem turn_yes {l : List UV} (h : formB l = true) : turnL l = turned l := by simp [turnL, h]
theorem flatT_step {l : List UV} {k : Nat} (hk : k < l.length) : flatUs (turned (l.drop k)) = flatUs (turned (l.drop (k + 1))) ++ [.int .i64 (l.getD k UV.zero).i, .int .i64 (l.getD k UV.zero).c, .int .i64 (l.getD k UV.zero).m, .bool (!(l.getD k UV.zero).b)] := by
  rw [turned_step hk, flatUs_app]
  rfl
/-- A list of its own. -/
def AnsU (w : World) (xs : List UV) (e : Ending) (w' : World) : Prop :=
  ∃ v, e = .returned v ∧ w'.ownsRow w.heap.size 34 4 v xs.length (flatUs xs) ∧ Below w.heap.size w w'
theorem AnsU.no {w w' : World} (hb : Below w.heap.size w w') : AnsU w [] (.returned (.slice none 0 0)) w' := ⟨_, rfl, row_nil _ _, hb⟩
theorem AnsU.of {w w1 w' : World} {xs : List UV} {e : Ending} (h : AnsU w1 xs e w') (hb : Below w.heap.size w w1) : AnsU w xs e w' := by
  obtain ⟨v, rfl, ho, hb2⟩ := h
  exact ⟨v, rfl, own_base ho hb.size, btrans hb hb2⟩

end Go.Proofs.YtnddhpdhbmbikaaDoor
