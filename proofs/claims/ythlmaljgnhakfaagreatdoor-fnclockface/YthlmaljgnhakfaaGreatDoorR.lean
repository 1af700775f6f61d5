/- Timetables: what they are; the model's, and the program's loop over all trips. -/
import Derived.Test.YthlmaljgnhakfaaGreatDoorQ
namespace Go.Proofs.YthlmaljgnhakfaaGreatDoor
open Go.RowKit
def nmA (ts : List TripV) (i : Nat) : ByteArray := (ts.getD i TripV.zero).name
/-- A timetable: at most 24 trips, each of them right, no two with one name. -/
def Table (ts : List TripV) : Prop := ts.length ≤ 24 ∧ (∀ i, i < ts.length → tripB (ts.getD i TripV.zero) = true) ∧ ∀ i j, i < j → j < ts.length → nmA ts i ≠ nmA ts j
theorem str_ne {a b : ByteArray} (h : ¬ a = b) : (a.toList == b.toList) = false := by
  rw [ByteArray.toList_eq, ByteArray.toList_eq]
  cases hq : (a.data.toList == b.data.toList)
  · rfl
  · have e := eq_of_beq hq
    exact absurd (by obtain ⟨⟨x⟩⟩ := a; obtain ⟨⟨y⟩⟩ := b; simpa using e) h
theorem iff_no {P : Prop} (h : ¬ P) : (false = true ↔ P) := Iff.intro (fun e => absurd e (by simp)) (fun p => absurd p h)
theorem iff_yes {P : Prop} (h : P) : (true = true ↔ P) := Iff.intro (fun _ => h) (fun _ => rfl)
/-- An answer that is true just when P holds. -/
def AnsIff (w : World) (P : Prop) (e : Ending) (w' : World) : Prop := ∃ r, e = .returned (.bool r) ∧ (r = true ↔ P) ∧ Below w.heap.size w w'
theorem AnsIff.no {w w' : World} {P : Prop} (h : ¬ P) (hb : Below w.heap.size w w') : AnsIff w P (.returned (.bool false)) w' := ⟨false, rfl, iff_no h, hb⟩
theorem AnsIff.yes {w w' : World} {P : Prop} (h : P) (hb : Below w.heap.size w w') : AnsIff w P (.returned (.bool true)) w' := ⟨true, rfl, iff_yes h, hb⟩

end Go.Proofs.YthlmaljgnhakfaaGreatDoor
