/- Clock faces: the mathematics. -/
import Derived.Test.YthlmaljgnhakfaaGreatDoorTB
import Derived.Test.YthlmaljgnhakfaaGreatDoorTT
import Derived.Test.YthlmaljgnhakfaaGreatDoorH
import Derived.Test.YthlmaljgnhakfaaGreatDoorR
namespace Go.Proofs.YthlmaljgnhakfaaGreatDoor
open Go.RowKit
def decB (k : Nat) : ByteArray := ⟨(Lib.decDigits k).toArray⟩
/-- The k-th trip of a clock face. -/
def faceT (t : TripV) (st : Int) (k : Nat) : TripV := ⟨t.name ++ decB k, (movedT t ((k : Int) * st)).calls⟩
def faceL (t : TripV) (st : Int) (m : Nat) : List TripV := (List.range m).map (faceT t st)
theorem faceL_len (t : TripV) (st : Int) (m : Nat) : (faceL t st m).length = m := by simp [faceL]
theorem faceL_succ (t : TripV) (st : Int) (m : Nat) : faceL t st (m + 1) = faceL t st m ++ [faceT t st m] := by simp [faceL, List.range_succ]
theorem faceL_get (t : TripV) (st : Int) (m i : Nat) (h : i < m) : (faceL t st m).getD i TripV.zero = faceT t st i := by simp [faceL, List.getD, h]
def FaceOk (t : TripV) (st n : Int) : Prop := tripB t = true ∧ inB st 1 1440 = true ∧ inB n 1 24 = true ∧ Table (faceL t st n.toNat)
open Classical in
/-- What Clockface answers. -/
noncomputable def faceA (t : TripV) (st n : Int) : List TripV := if FaceOk t st n then faceL t st n.toNat else []
theorem name_small {t : TripV} (h : tripB t = true) : t.name.size ≤ 12 := by
  have h1 := (trip_parts h).1
  simp only [nameB, Bool.and_eq_true] at h1
  have := inB_true h1.2
  omega
theorem decB_size (k : Nat) : (decB k).size = (Lib.decDigits k).length := by simp [decB, ByteArray.size]
theorem movedT_calls (t : TripV) (x : Int) (h : t.calls.length ≤ 12) : (movedT t x).calls.length ≤ 12 := by
  unfold movedT
  split
  · unfold ifOk
    split
    · simpa [movedL_len] using h
    · simp [TripV.zero]
  · simp [TripV.zero]
theorem faceT_small {t : TripV} (h : tripB t = true) (st : Int) {k : Nat} (hk : k ≤ 24) : (faceT t st k).name.size ≤ 30 ∧ (faceT t st k).calls.length ≤ 12 := by
  have h1 := name_small h
  have h2 := dec_le k (by omega)
  have h3 := (trip_parts h).2.2.1
  refine ⟨?_, movedT_calls t _ h3⟩
  show (t.name ++ decB k).size ≤ 30
  rw [ByteArray.size_append, decB_size]
  omega
theorem faceL_small {t : TripV} (h : tripB t = true) (st : Int) {m : Nat} (hm : m ≤ 24) : Small (faceL t st m) := by
  refine ⟨by rw [faceL_len]; omega, fun x hx => ?_⟩
  simp only [faceL, List.mem_map, List.mem_range] at hx
  obtain ⟨k, hk, rfl⟩ := hx
  have := faceT_small h st (k := k) (by omega)
  omega
theorem faceA_yes {t : TripV} {st n : Int} (h : FaceOk t st n) : faceA t st n = faceL t st n.toNat := by unfold faceA; rw [if_pos h]
theorem faceA_no {t : TripV} {st n : Int} (h : ¬ FaceOk t st n) : faceA t st n = [] := by unfold faceA; rw [if_neg h]
theorem faceA_fine (t : TripV) (st n : Int) : (faceA t st n).length ≤ 24 ∧ (∀ i, i < (faceA t st n).length → 1 ≤ ((faceA t st n).getD i TripV.zero).calls.length ∧ ((faceA t st n).getD i TripV.zero).calls.length ≤ 12) ∧ Small (faceA t st n) := by
  by_cases h : FaceOk t st n
  · rw [faceA_yes h]
    obtain ⟨h1, h2, h3, h4⟩ := h
    have h5 := inB_true h3
    have hl := faceL_len t st n.toNat
    refine ⟨by omega, fun i hi => ?_, faceL_small h1 st (by omega)⟩
    have := trip_parts (h4.2.1 i hi)
    omega
  · rw [faceA_no h]
    exact ⟨by simp, fun i hi => by simp at hi, by simp, fun t ht => by cases ht⟩
/-- What Clockface answers in memory. -/
def FaceAns (w : World) (t : TripV) (st n : Int) (e : Ending) (w' : World) : Prop :=
  ∃ ao cp vs, e = .returned (.slice ao (faceA t st n).length cp) ∧ TabO w.heap.size w' (.slice ao (faceA t st n).length cp) vs (faceA t st n) ∧ Below w.heap.size w w'
theorem FaceAns.no {w w' : World} {t : TripV} {st n : Int} (h : ¬ FaceOk t st n) (hb : Below w.heap.size w w') : FaceAns w t st n (.returned (.slice none 0 0)) w' := by
  refine ⟨none, 0, [], ?_, ?_, hb⟩
  · rw [faceA_no h]; rfl
  · rw [faceA_no h]; exact TabO.nil _ _
theorem FaceAns.yes {w w' : World} {t : TripV} {st n : Int} {m : Nat} {ao : Option Addr} {cp : Nat} {vs : List (Value × Value)} (h : FaceOk t st n) (hm : n.toNat = m) (T : TabO w.heap.size w' (.slice ao m cp) vs (faceL t st m)) (hb : Below w.heap.size w w') : FaceAns w t st n (.returned (.slice ao m cp)) w' := by
  subst hm
  refine ⟨ao, cp, vs, ?_, ?_, hb⟩
  · rw [faceA_yes h, faceL_len]
  · rw [faceA_yes h, faceL_len]; exact T
end Go.Proofs.YthlmaljgnhakfaaGreatDoor
