/- Where a trip is: of the program and of the model. -/
import Derived.Test.YthlmaljgnhakfaaGreatDoorWA
namespace Go.Proofs.YthlmaljgnhakfaaGreatDoor
open Go.RowKit
def scanW (m : Int) : Nat → List HaltV → Int × Int
  | _, [] => (-1, 1)
  | i, c :: cs => if m < c.a then ((i : Int) - 1, 1) else if m ≤ c.d then ((i : Int), 0) else scanW m (i + 1) cs
def whereB (t : TripV) (m : Int) : Int × Int :=
  if tripB t = false then (-1, 2) else if m < (t.calls.getD 0 HaltV.zero).a then (-1, 0) else scanW m 0 t.calls
theorem scan_drop {m : Int} {cs : List HaltV} {k : Nat} (hk : k < cs.length) : scanW m k (cs.drop k) = (if m < (cs.getD k HaltV.zero).a then ((k : Int) - 1, 1) else if m ≤ (cs.getD k HaltV.zero).d then ((k : Int), 0) else scanW m (k + 1) (cs.drop (k + 1))) := by
  have e : cs.getD k HaltV.zero = cs[k] := by simp [List.getD, hk]
  rw [List.drop_eq_getElem_cons hk, e]; rfl
theorem trip_parts {t : TripV} (h : tripB t = true) : nameB t.name = true ∧ 2 ≤ t.calls.length ∧ t.calls.length ≤ 12 ∧ t.calls.all callB = true ∧ chainB t.calls = true := by
  simp only [tripB, Bool.and_eq_true] at h
  obtain ⟨⟨⟨h1, h2⟩, h3⟩, h4⟩ := h
  have := inB_true h2
  exact ⟨h1, by omega, by omega, h3, h4⟩
theorem call_at {cs : List HaltV} (h : cs.all callB = true) {k : Nat} (hk : k < cs.length) : callB (cs.getD k HaltV.zero) = true := by
  have e : cs.getD k HaltV.zero = cs[k] := by simp [List.getD, hk]
  rw [e]; exact List.all_eq_true.1 h _ (List.getElem_mem hk)
theorem call_parts {c : HaltV} (h : callB c = true) : (0 ≤ c.n ∧ c.n ≤ 29) ∧ (0 ≤ c.a ∧ c.a ≤ c.d) ∧ c.d ≤ 100000 := by
  simp only [callB, Bool.and_eq_true] at h
  have h1 := inB_true h.1.1
  have h2 := inB_true h.1.2
  have h3 := inB_true h.2
  exact ⟨h1, h3, h2.2⟩

end Go.Proofs.YthlmaljgnhakfaaGreatDoor
