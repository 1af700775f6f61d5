/- Aspects: how many blocks are free, what a signal shows; the model's texts and the program's list of signals. -/
import Derived.Test.YtnbfkkmjehhihaaDoorB0
import Derived.Test.YtnbfkkmjehhihaaDoorC0
import Derived.Deep.RegionHeld3
import Derived.Deep.Cut
import Derived.Deep.CutRange
namespace Go.Proofs.YtnbfkkmjehhihaaDoor
open Go.RowKit

/-- How many blocks are free from place i on. -/
def free (bs : List Bool) (i : Nat) : Nat := ((bs.drop i).takeWhile (fun b => !b)).length
theorem free_end {bs : List Bool} {i : Nat} (h : bs.length ≤ i) : free bs i = 0 := by
  unfold free; rw [List.drop_eq_nil_of_le h]; rfl
theorem free_no {bs : List Bool} {i : Nat} (h : i < bs.length) (hb : bs[i] = true) : free bs i = 0 := by
  unfold free; rw [List.drop_eq_getElem_cons h, List.takeWhile_cons, hb]; rfl
theorem free_yes {bs : List Bool} {i : Nat} (h : i < bs.length) (hb : bs[i] = false) : free bs i = free bs (i + 1) + 1 := by
  unfold free; rw [List.drop_eq_getElem_cons h, List.takeWhile_cons, hb]; rfl
theorem free_le (bs : List Bool) (i : Nat) (h : i ≤ bs.length) : i + free bs i ≤ bs.length := by
  have := List.takeWhile_prefix (fun b => !b) (l := bs.drop i)
  have := this.length_le
  rw [List.length_drop] at this
  unfold free; omega
theorem free_drop (bs : List Bool) (i k : Nat) : free (bs.drop i) k = free bs (i + k) := by unfold free; rw [List.drop_drop]
def freeOk (bs : List Bool) (i : Int) : Bool := decide (bs.length ≤ 100) && inB i 0 ((bs.length : Int) - 1)
def freeFrom (bs : List Bool) (i : Int) : Int := if freeOk bs i = true then (free bs i.toNat : Int) else 0
/-- What the signal ahead of block i shows. -/
def asp (bs : List Bool) (y : Int) (i : Nat) : Int := min 3 ((free bs i : Int) + if i + free bs i = bs.length then y else 0)
def asps (bs : List Bool) (y : Int) (n : Nat) : List Int := (List.range n).map (asp bs y)
def aspOk (bs : List Bool) (y : Int) : Bool := decide (bs.length ≤ 100) && inB y 0 3
def aspects (bs : List Bool) (y : Int) : List Int := if aspOk bs y = true then asps bs y bs.length else []
theorem asps_len (bs : List Bool) (y : Int) (n : Nat) : (asps bs y n).length = n := by simp [asps]
theorem asps_succ (bs : List Bool) (y : Int) (n : Nat) : asps bs y (n + 1) = asps bs y n ++ [asp bs y n] := by simp [asps, List.range_succ]
theorem aspects_no {bs : List Bool} {y : Int} (h : aspOk bs y = false) : aspects bs y = [] := by unfold aspects; rw [h]; rfl
theorem aspects_yes {bs : List Bool} {y : Int} (h1 : bs.length ≤ 100) (h2 : inB y 0 3 = true) : aspects bs y = asps bs y bs.length := by
  unfold aspects aspOk; rw [decide_eq_true h1, h2]; rfl
theorem aspects_len (bs : List Bool) (y : Int) : (aspects bs y).length ≤ 100 := by
  unfold aspects
  split
  · rename_i h
    unfold aspOk at h
    simp only [Bool.and_eq_true, decide_eq_true_eq] at h
    rw [asps_len]; exact h.1
  · simp
theorem asp_end {bs : List Bool} {y : Int} (h0 : 0 ≤ y) (h3 : y ≤ 3) : asp bs y bs.length = y := by
  unfold asp; rw [free_end (Nat.le_refl _)]; simp; omega
theorem asp_no {bs : List Bool} {y : Int} {i : Nat} (h : i < bs.length) (hb : bs[i] = true) : asp bs y i = 0 := by
  unfold asp; rw [free_no h hb, if_neg (by omega)]; rfl
theorem asp_yes {bs : List Bool} {y : Int} {i : Nat} (h : i < bs.length) (hb : bs[i] = false) : asp bs y i = min 3 (asp bs y (i + 1) + 1) := by
  unfold asp
  have e : i + free bs i = i + 1 + free bs (i + 1) := by rw [free_yes h hb]; omega
  rw [e, free_yes h hb]
  generalize (if i + 1 + free bs (i + 1) = bs.length then y else 0) = z
  omega
theorem asp_in {bs : List Bool} {y : Int} {i : Nat} (h0 : 0 ≤ y) : 0 ≤ asp bs y i ∧ asp bs y i ≤ 3 := by
  unfold asp
  have : 0 ≤ (if i + free bs i = bs.length then y else 0) := by split <;> omega
  omega
theorem freeFrom_no {bs : List Bool} {i : Int} (h : freeOk bs i = false) : freeFrom bs i = 0 := by unfold freeFrom; rw [h]; rfl
theorem freeFrom_yes {bs : List Bool} {i : Nat} (h1 : bs.length ≤ 100) (h2 : i < bs.length) : freeFrom bs (i : Int) = free bs i := by
  unfold freeFrom freeOk; rw [decide_eq_true h1, inB_yes (by omega) (by omega)]; rfl
theorem freeOk_out {bs : List Bool} {i : Int} (h : inB i 0 ((bs.length : Int) - 1) = false) : freeOk bs i = false := by unfold freeOk; rw [h]; simp
theorem freeOk_long {bs : List Bool} {i : Int} (h : 100 < bs.length) : freeOk bs i = false := by unfold freeOk; rw [decide_eq_false (by omega)]; rfl
theorem aspOk_long {bs : List Bool} {y : Int} (h : 100 < bs.length) : aspOk bs y = false := by unfold aspOk; rw [decide_eq_false (by omega)]; rfl
theorem aspOk_out {bs : List Bool} {y : Int} (h : inB y 0 3 = false) : aspOk bs y = false := by unfold aspOk; rw [h]; simp

set_option maxHeartbeats 800000 in
theorem cFreeS (a : Option Addr) (cap : Nat) (bs : List Bool) (i : Int) (w : World) (hz : Bools w a bs) (hl : bs.length ≤ 1048576) :
    Calls Tryd.prog 52 #[.slice a bs.length cap, .int .i64 i] w fun e w' => e = .returned (.int .i64 (freeFrom bs i)) ∧ w' = w := by
  by_cases hn : 100 < bs.length
  · have R := hide (freeFrom_no (freeOk_long (i := i) hn))
    generalize freeFrom bs i = r at *
    go_enter Tryd.func52, Tryd.ntmps52
    go_wp2
    go_ret
    exact ⟨ret_int R.out.symm, rfl⟩
  cases h1 : inB i 0 ((bs.length : Int) - 1)
  · have R := hide (freeFrom_no (freeOk_out h1))
    generalize freeFrom bs i = r at *
    go_enter Tryd.func52, Tryd.ntmps52
    go_wp2_with fail
    refine (cIn _ _ _ _).mono ?_
    rintro e w1 ⟨rfl, hw⟩
    subst hw
    rw [h1]
    go_wp2
    go_ret
    exact ⟨ret_int R.out.symm, rfl⟩
  obtain ⟨h2, h3⟩ := inB_true h1
  obtain ⟨q, rfl⟩ := Int.eq_ofNat_of_zero_le h2
  have hq : q < bs.length := by omega
  have R := hide (freeFrom_yes (i := q) (by omega) hq)
  have F0 : ∀ n, q + n = bs.length → free bs (q + n) = 0 := fun n h => free_end (by omega)
  have F1 : ∀ n (h : q + n < bs.length), bs[q + n] = true → free bs (q + n) = 0 := fun n h hb => free_no h hb
  have F2 : ∀ n (h : q + n < bs.length), bs[q + n] = false → free bs (q + n) = free bs (q + n + 1) + 1 := fun n h hb => free_yes h hb
  generalize freeFrom bs (q : Int) = r at *
  generalize hf : free bs = f at *
  clear hf
  go_enter Tryd.func52, Tryd.ntmps52
  go_wp2_with fail
  refine (cIn _ _ _ _).mono ?_
  rintro e w1 ⟨rfl, hw⟩
  subst hw
  rw [h1]
  go_wp2
  go_loop [5] (fun x => ∃ n : Nat, q + n ≤ bs.length ∧ f q = n + f (q + n) ∧ x = .int .i64 n) (fun x => bs.length - (intOf x).toNat)
  case atStart => exact ⟨0, by omega, by simp, rfl⟩
  case round =>
    obtain ⟨n, hn1, hn2, rfl⟩ := hrel
    by_cases hlt : q + n < bs.length
    · rcases hz with hz | ⟨b, off, rfl, hc⟩
      · simp [hz] at hlt
      have hck := hc (q + n) hlt
      have e0 : bs.getD (q + n) false = bs[q + n] := by simp [List.getD, hlt]
      rw [e0] at hck
      have G1 := F1 n hlt
      have G2 := F2 n hlt
      clear hc e0 F0 F1 F2
      have hlt2 : (q : Int) + (n : Int) < (bs.length : Int) := by omega
      have e1 : ((q : Int) + (n : Int)).toNat = q + n := by omega
      cases hb : bs[q + n]
      · rw [hb] at hck
        have G := G2 hb
        clear G1 G2 hb
        go_wp2
        go_round
        case rel => exact ⟨n + 1, by omega, by rw [show q + (n + 1) = q + n + 1 by omega]; omega, by go_num⟩
        case measure => simp [intOf]; omega
      · rw [hb] at hck
        have G := G1 hb
        clear G1 G2 hb
        go_wp2
        go_ret
        exact ⟨ret_int (by rw [R.out, hn2, G]; omega), rfl⟩
    · have G := F0 n (by omega)
      clear F0 F1 F2
      have hlt2 : ¬ ((q : Int) + (n : Int) < (bs.length : Int)) := by omega
      go_wp2
      go_ret
      exact ⟨ret_int (by rw [R.out, hn2, G]; omega), rfl⟩

set_option maxHeartbeats 400000 in
theorem cBefore (x : Int) (b : Bool) (w : World) (h0 : 0 ≤ x) (h3 : x ≤ 3) :
    Calls Tryd.prog 64 #[.int .i64 x, .bool b] w fun e w' => e = .returned (.int .i64 (if b = true then 0 else min 3 (x + 1))) ∧ w' = w := by
  cases b
  · have R : Hid ((if false = true then 0 else min 3 (x + 1)) = min 3 (x + 1)) := rfl
    generalize (if false = true then 0 else min 3 (x + 1)) = r at *
    go_enter Tryd.func64, Tryd.ntmps64
    go_wp2
    all_goals go_ret
    all_goals exact ⟨ret_int (by rw [R.out]; omega), rfl⟩
  · go_enter Tryd.func64, Tryd.ntmps64
    go_wp2
    go_ret
    exact ⟨rfl, rfl⟩
end Go.Proofs.YtnbfkkmjehhihaaDoor
