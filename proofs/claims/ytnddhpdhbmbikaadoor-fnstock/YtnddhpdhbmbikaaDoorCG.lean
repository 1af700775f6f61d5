/- Couple of the program and of the model. -/
import Derived.Test.YtnddhpdhbmbikaaDoorCF
namespace Go.Proofs.YtnddhpdhbmbikaaDoor
open Go.RowKit
theorem coup_no {a b : List UV} (h : coupB a b = false) : coupL a b = [] := by simp [coupL, h]
theorem coup_yes {a b : List UV} (h : coupB a b = true) : coupL a b = a ++ b := by simp [coupL, h]
theorem row_nil (w : World) (B : Nat) : w.ownsRow B 34 4 (.slice none 0 0) ([] : List UV).length (flatUs []) := World.ownsRow_nil _ _ _ _
theorem run_len {l : List UV} (h : runB l = true) : l.length ≤ 30 := (formB_iff.1 (runB_iff.1 h).1).1
/-- What two lists are coupled to. -/
def AnsC (w : World) (xs ys : List UV) (e : Ending) (w' : World) : Prop :=
  ∃ v, e = .returned (.tuple #[v, .bool (coupB xs ys)]) ∧ w'.ownsRow w.heap.size 34 4 v (coupL xs ys).length (flatUs (coupL xs ys)) ∧ Below w.heap.size w w'
theorem AnsC.no {w w' : World} {xs ys : List UV} (h : coupB xs ys = false) (hb : Below w.heap.size w w') : AnsC w xs ys (.returned (.tuple #[.slice none 0 0, .bool false])) w' := by
  refine ⟨_, by rw [h], ?_, hb⟩
  rw [coup_no h]
  exact row_nil _ _
theorem AnsC.yes {w w' : World} {xs ys : List UV} {v : Value} (h : coupB xs ys = true) (ho : w'.ownsRow w.heap.size 34 4 v (xs ++ ys).length (flatUs (xs ++ ys))) (hb : Below w.heap.size w w') : AnsC w xs ys (.returned (.tuple #[v, .bool true])) w' := by
  refine ⟨_, by rw [h], ?_, hb⟩
  rw [coup_yes h]
  exact ho
theorem own_base {w : World} {B B' e sz n : Nat} {v : Value} {xs : List Value} (h : w.ownsRow B e sz v n xs) (hB : B' ≤ B) : w.ownsRow B' e sz v n xs := by
  obtain ⟨h1, h2⟩ := h
  refine ⟨h1, ?_⟩
  rcases h2 with h2 | ⟨g, cap, cur, hv, hg, r⟩
  · exact .inl h2
  · exact .inr ⟨g, cap, cur, hv, Nat.le_trans hB hg, r⟩

end Go.Proofs.YtnddhpdhbmbikaaDoor
