/- Aspects: how many blocks are free, what a signal shows; the model's texts and the program's list of signals. -/
import Derived.Test.YtcfapadcgboalaaDoorB0
import Derived.Test.YtcfapadcgboalaaDoorC0
import Derived.Deep.RegionHeld3
import Derived.Deep.Cut
import Derived.Deep.CutRange
namespace Go.Proofs.YtcfapadcgboalaaDoor
open Go.RowKit

/-- How many blocks are free from place i on. -/
def free (bs : List Bool) (i : Nat) : Nat := ((bs.drop i).takeWhile (fun b => !b)).length
theorem free_end {bs : List Bool} {i : Nat} (h : bs.length ≤ i) : free bs i = 0 := by
  unfold free; rw [List.drop_eq_nil_of_le h]; rfl
theorem free_no {bs : List Bool} {i : Nat} (h : i < bs.length) (hb : bs[i] = true) : free bs i = 0 := by
  unfold free; rw [List.drop_eq_getElem_cons h, List.takeWhile_cons, hb]; rfl
theorem free_yes {bs : List Bool} {i : Nat} (h : i < bs.length) (hb : bs[i] = false) : free bs i = free bs (i + 1) + 1 := by
  unfold free; rw [List.drop_eq_getElem_cons h, List.takeWhile_cons, hb]; rfl
theorem free_le (bs : List Bool) (i : Nat) (h : i ≤ bs.length) : i + free bs i ≤ bs.length := by
  have := List.takeWhile_prefix (fun b => !b) (l := bs.drop i)
  have := this.length_le
  rw [List.length_drop] at this
  unfold free; omega
theorem free_drop (bs : List Bool) (i k : Nat) : free (bs.drop i) k = free bs (i + k) := by unfold free; rw [List.drop_drop]
def freeOk (bs : List Bool) (i : Int) : Bool := decide (bs.length ≤ 100) && inB i 0 ((bs.length : Int) - 1)
def freeFrom (bs : List Bool) (i : Int) : Int := if freeOk bs i = true then (free bs i.toNat : Int) else 0
/-- What the signal ahead of block i shows. -/
def asp (bs : List Bool) (y : Int) (i : Nat) : Int := min 3 ((free bs i : Int) + if i + free bs i = bs.length then y else 0)
def asps (bs : List Bool) (y : Int) (n : Nat) : List Int := (List.range n).map (asp bs y)
def aspOk (bs : List Bool) (y : Int) : Bool := decide (bs.length ≤ 100) && inB y 0 3
def aspects (bs : List Bool) (y : Int) : List Int := if aspOk bs y = true then asps bs y bs.length else []
theorem asps_len (bs : List Bool) (y : Int) (n : Nat) : (asps bs y n).length = n := by simp [asps]
theorem asps_succ (bs : List Bool) (y : Int) (n : Nat) : asps bs y (n + 1) = asps bs y n ++ [asp bs y n] := by simp [asps, List.range_succ]
theorem aspects_no {bs : List Bool} {y : Int} (h : aspOk bs y = false) : aspects bs y = [] := by unfold aspects; rw [h]; rfl
theorem aspects_yes {bs : List Bool} {y : Int} (h1 : bs.length ≤ 100) (h2 : inB y 0 3 = true) : aspects bs y = asps bs y bs.length := by
  unfold aspects aspOk; rw [decide_eq_true h1, h2]; rfl
theorem aspects_len (bs : List Bool) (y : Int) : (aspects bs y).length ≤ 100 := by
  unfold aspects
  split
  · rename_i h
    unfold aspOk at h
    simp only [Bool.and_eq_true, decide_eq_true_eq] at h
    rw [asps_len]; exact h.1
  · simp
theorem asp_end {bs : List Bool} {y : Int} (h0 : 0 ≤ y) (h3 : y ≤ 3) : asp bs y bs.length = y := by
  unfold asp; rw [free_end (Nat.le_refl _)]; simp; omega
theorem asp_no {bs : List Bool} {y : Int} {i : Nat} (h : i < bs.length) (hb : bs[i] = true) : asp bs y i = 0 := by
  unfold asp; rw [free_no h hb, if_neg (by omega)]; rfl
theorem asp_yes {bs : List Bool} {y : Int} {i : Nat} (h : i < bs.length) (hb : bs[i] = false) : asp bs y i = min 3 (asp bs y (i + 1) + 1) := by
  unfold asp
  have e : i + free bs i = i + 1 + free bs (i + 1) := by rw [free_yes h hb]; omega
  rw [e, free_yes h hb]
  generalize (if i + 1 + free bs (i + 1) = bs.length then y else 0) = z
  omega
theorem asp_in {bs : List Bool} {y : Int} {i : Nat} (h0 : 0 ≤ y) : 0 ≤ asp bs y i ∧ asp bs y i ≤ 3 := by
  unfold asp
  have : 0 ≤ (if i + free bs i = bs.length then y else 0) := by split <;> omega
  omega
theorem freeFrom_no {bs : List Bool} {i : Int} (h : freeOk bs i = false) : freeFrom bs i = 0 := by unfold freeFrom; rw [h]; rfl
theorem freeFrom_yes {bs : List Bool} {i : Nat} (h1 : bs.length ≤ 100) (h2 : i < bs.length) : freeFrom bs (i : Int) = free bs i := by
  unfold freeFrom freeOk; rw [decide_eq_true h1, inB_yes (by omega) (by omega)]; rfl
theorem freeOk_out {bs : List Bool} {i : Int} (h : inB i 0 ((bs.length : Int) - 1) = false) : freeOk bs i = false := by unfold freeOk; rw [h]; simp
theorem freeOk_long {bs : List Bool} {i : Int} (h : 100 < bs.length) : freeOk bs i = false := by unfold freeOk; rw [decide_eq_false (by omega)]; rfl
theorem aspOk_long {bs : List Bool} {y : Int} (h : 100 < bs.length) : aspOk bs y = false := by unfold aspOk; rw [decide_eq_false (by omega)]; rfl
theorem aspOk_out {bs : List Bool} {y : Int} (h : inB y 0 3 = false) : aspOk bs y = false := by unfold aspOk; rw [h]; simp

set_option maxHeartbeats 400000 in
theorem cBefore (x : Int) (b : Bool) (w : World) (h0 : 0 ≤ x) (h3 : x ≤ 3) :
    Calls Tryd.prog 36 #[.int .i64 x, .bool b] w fun e w' => e = .returned (.int .i64 (if b = true then 0 else min 3 (x + 1))) ∧ w' = w := by
  cases b
  · have R : Hid ((if false = true then 0 else min 3 (x + 1)) = min 3 (x + 1)) := rfl
    generalize (if false = true then 0 else min 3 (x + 1)) = r at *
    go_enter Tryd.func36, Tryd.ntmps36
    go_wp2
    all_goals go_ret
    all_goals exact ⟨ret_int (by rw [R.out]; omega), rfl⟩
  · go_enter Tryd.func36, Tryd.ntmps36
    go_wp2
    go_ret
    exact ⟨rfl, rfl⟩
end Go.Proofs.YtcfapadcgboalaaDoor
