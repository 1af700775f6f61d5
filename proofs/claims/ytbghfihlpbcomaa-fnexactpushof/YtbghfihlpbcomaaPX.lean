/- How far a trip is pushed: what is told, and PushOf of the program. -/
import Derived.Test.YtbghfihlpbcomaaPW
import Derived.Test.YtbghfihlpbcomaaWG
import Derived.Test.YtbghfihlpbcomaaK
import Derived.Deep.RegionHeld3
namespace Go.Proofs.Ytbghfihlpbcomaa
open Go.RowKit
/-- Is the timetable with the trip so much later clean? -/
def PushAt (n : Int) (es : List EdgeV) (ts : List TripV) (t : TripV) (h : Int) (k : Nat) : Prop := CleanP n es (ts ++ [movedT t k]) h
/-- What PushOf tells. -/
def PushAns (n : Int) (es : List EdgeV) (ts : List TripV) (t : TripV) (h r : Int) : Prop :=
  (¬ CleanP n es ts h ∧ r = -1) ∨ (CleanP n es ts h ∧ ((∃ k : Nat, k ≤ 120 ∧ r = k ∧ PushAt n es ts t h k ∧ ∀ j, j < k → ¬ PushAt n es ts t h j) ∨ (r = -1 ∧ ∀ j, j ≤ 120 → ¬ PushAt n es ts t h j)))
theorem PushAns.uniq {n : Int} {es : List EdgeV} {ts : List TripV} {t : TripV} {h r r' : Int} (a : PushAns n es ts t h r) (b : PushAns n es ts t h r') : r = r' := by
  rcases a with ⟨a1, a2⟩ | ⟨a1, ⟨k, a2, a3, a4, a5⟩ | ⟨a2, a3⟩⟩ <;> rcases b with ⟨b1, b2⟩ | ⟨b1, ⟨k', b2, b3, b4, b5⟩ | ⟨b2, b3⟩⟩
  · omega
  · exact absurd b1 a1
  · exact absurd b1 a1
  · exact absurd a1 b1
  · have h1 : ¬ k < k' := fun hlt => b5 k hlt a4
    have h2 : ¬ k' < k := fun hlt => a5 k' hlt b4
    omega
  · exact absurd a4 (b3 k a2)
  · exact absurd a1 b1
  · exact absurd b4 (a3 k' b2)
  · omega
theorem CleanP.few {n : Int} {es : List EdgeV} {ts : List TripV} {h : Int} (c : CleanP n es ts h) : ts.length ≤ 24 := c.1.2.1.1
theorem PushAt.right {n : Int} {es : List EdgeV} {ts : List TripV} {t : TripV} {h : Int} {k : Nat} (c : PushAt n es ts t h k) : tripB t = true := by
  have h1 := c.1.2.1.2.1 ts.length (by simp)
  have e : (ts ++ [movedT t k]).getD ts.length TripV.zero = movedT t k := by simp [List.getD]
  rw [e] at h1
  cases ht : tripB t
  · rw [show movedT t k = TripV.zero by simp [movedT, ht]] at h1
    rw [okTrip_zero] at h1; cases h1
  · rfl
theorem movedT_small (t : TripV) (k : Int) (h1 : t.name.size ≤ 1048576) (h2 : t.calls.length ≤ 1048576) : (movedT t k).name.size ≤ 1048576 ∧ (movedT t k).calls.length ≤ 1048576 := by
  have hz : TripV.zero.name.size ≤ 1048576 ∧ TripV.zero.calls.length ≤ 1048576 := ⟨by decide, by decide⟩
  unfold movedT
  split
  · unfold ifOk
    split
    · exact ⟨h1, by rw [movedL_len]; exact h2⟩
    · exact hz
  · exact hz
theorem Small.snoc {ts : List TripV} {t : TripV} (h : Small ts) (hl : ts.length ≤ 60) (h1 : t.name.size ≤ 1048576) (h2 : t.calls.length ≤ 1048576) : Small (ts ++ [t]) := by
  refine ⟨by simp; omega, fun x hx => ?_⟩
  rcases List.mem_append.1 hx with hx | hx
  · exact h.2 x hx
  · rw [List.mem_singleton.1 hx]; exact ⟨h1, h2⟩

/-- Concat as the program calls it: the list, and one trip in a list of its own. -/
theorem cConcatD (b1 o1 p1 : Nat) (vs : List (Value × Value)) (va vb : Value) (w : World) (h1 : ∀ j u, (flatP vs)[j]? = some u → w.cell? ⟨b1, o1 + j, none⟩ = some u) (n1 : ∀ u ∈ flatP vs, u.oneCell' = true) (n2 : va.oneCell' = true) (n3 : vb.oneCell' = true) (hl : vs.length ≤ 60) :
    Calls Try.prog 69 #[.slice (some ⟨w.heap.size + 1, 0, none⟩) 2 2] ((w.alloc (.cells #[va, vb] 35)).alloc (.cells #[.slice (some ⟨b1, o1, none⟩) vs.length p1, .slice (some ⟨w.heap.size, 0, none⟩) 1 1] 27)) fun e w' =>
      ∃ ao cp, e = .returned (.slice ao (vs.length + 1) cp) ∧ w'.ownsRow w.heap.size 35 2 (.slice ao (vs.length + 1) cp) (vs.length + 1) (flatP (vs ++ [(va, vb)])) ∧ Below w.heap.size w w' := by
  have hB := btrans (balloc w (.cells #[va, vb] 35)) (balloc _ (.cells #[.slice (some ⟨b1, o1, none⟩) vs.length p1, .slice (some ⟨w.heap.size, 0, none⟩) 1 1] 27))
  have X := one_block (w.alloc (.cells #[va, vb] 35)) (.cells #[.slice (some ⟨b1, o1, none⟩) vs.length p1, .slice (some ⟨w.heap.size, 0, none⟩) 1 1] 27)
  rw [sz1] at X
  have Y := blk_keep (balloc _ (.cells #[.slice (some ⟨b1, o1, none⟩) vs.length p1, .slice (some ⟨w.heap.size, 0, none⟩) 1 1] 27)) (one_block w (.cells #[va, vb] 35))
  obtain ⟨⟨x0, x1⟩, -⟩ := blk2 X
  obtain ⟨⟨y0, y1⟩, -⟩ := blk2 Y
  refine (cConcatT (w.heap.size + 1) b1 o1 p1 w.heap.size 0 1 vs [(va, vb)] _ (fun j u hu => ble hB (h1 j u hu)) ?_ hl (by simp) n1 ?_ x0 x1).mono ?_
  · intro j u hj
    rw [Nat.zero_add]
    match j, hj with
    | 0, hj => simp [flatP] at hj; subst hj; exact y0
    | 1, hj => simp [flatP] at hj; subst hj; exact y1
  · intro u hu
    simp [flatP] at hu
    rcases hu with rfl | rfl
    · exact n2
    · exact n3
  · rintro e w' ⟨ao, cp, rfl, ho, hb⟩
    have e1 : (vs ++ [(va, vb)]).length = vs.length + 1 := by simp
    rw [e1] at ho
    exact ⟨ao, cp, by rw [e1], Go.Joins.ownsRow_le ho (base' := w.heap.size) hB.size, btrans hB hb⟩
end Go.Proofs.Ytbghfihlpbcomaa
