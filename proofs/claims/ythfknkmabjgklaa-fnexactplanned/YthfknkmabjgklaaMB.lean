/- The mathematics of clashes: right uses, which two clash. -/
import Derived.Test.YthfknkmabjgklaaSU
namespace Go.Proofs.Ythfknkmabjgklaa
open Go.RowKit
/-- Is the use right? -/
def rideB (u : RideV) : Bool := inB u.e 0 59 && (inB u.d 0 1 && (inB u.p 0 23 && (decide (0 ≤ u.f) && (decide (u.f < u.t) && decide (u.t ≤ 100000)))))
def leadB (a b : RideV) (h : Int) : Bool := decide (a.f + h ≤ b.f) && decide (a.t + h ≤ b.t)
/-- Do two uses clash at this headway? -/
def clashB (a b : RideV) (h : Int) : Bool := rideB a && (rideB b && (inB h 0 60 && (decide (a.e = b.e) &&
  (if a.d = b.d then !leadB a b h && !leadB b a h else decide (a.f < b.t) && decide (b.f < a.t)))))
theorem rB_e {u : RideV} (h : inB u.e 0 59 = false) : rideB u = false := by simp only [rideB, h, Bool.false_and]
theorem rB_d {u : RideV} (h : inB u.d 0 1 = false) : rideB u = false := by simp only [rideB, h, Bool.false_and, Bool.and_false]
theorem rB_p {u : RideV} (h : inB u.p 0 23 = false) : rideB u = false := by simp only [rideB, h, Bool.false_and, Bool.and_false]
theorem rB_0 {u : RideV} (h : ¬ 0 ≤ u.f) : rideB u = false := by simp only [rideB, h, decide_false, Bool.false_and, Bool.and_false]
theorem rB_f {u : RideV} (h : ¬ u.f < u.t) : rideB u = false := by simp only [rideB, h, decide_false, Bool.false_and, Bool.and_false]
theorem rB_t {u : RideV} (h : ¬ u.t ≤ 100000) : rideB u = false := by simp only [rideB, h, decide_false, Bool.and_false]
theorem rB_all {u : RideV} (h1 : inB u.e 0 59 = true) (h2 : inB u.d 0 1 = true) (h3 : inB u.p 0 23 = true) (h4 : 0 ≤ u.f) (h5 : u.f < u.t) (h6 : u.t ≤ 100000) : rideB u = true := by
  simp only [rideB, h1, h2, h3, h4, h5, h6, decide_true, Bool.and_true]
theorem rideB_iff {u : RideV} : rideB u = true ↔ (0 ≤ u.e ∧ u.e ≤ 59) ∧ (0 ≤ u.d ∧ u.d ≤ 1) ∧ (0 ≤ u.p ∧ u.p ≤ 23) ∧ 0 ≤ u.f ∧ u.f < u.t ∧ u.t ≤ 100000 := by
  simp [rideB, inB, and_assoc]
theorem cB_a {a b : RideV} {h : Int} (q : rideB a = false) : clashB a b h = false := by simp only [clashB, q, Bool.false_and]
theorem cB_b {a b : RideV} {h : Int} (q : rideB b = false) : clashB a b h = false := by simp only [clashB, q, Bool.false_and, Bool.and_false]
theorem cB_h {a b : RideV} {h : Int} (q : inB h 0 60 = false) : clashB a b h = false := by simp only [clashB, q, Bool.false_and, Bool.and_false]
theorem cB_e {a b : RideV} {h : Int} (q : ¬ a.e = b.e) : clashB a b h = false := by simp only [clashB, q, decide_false, Bool.false_and, Bool.and_false]
theorem cB_ne {a b : RideV} {h : Int} (h1 : rideB a = true) (h2 : rideB b = true) (h3 : inB h 0 60 = true) (h4 : a.e = b.e) (h5 : ¬ a.d = b.d) : clashB a b h = (decide (a.f < b.t) && decide (b.f < a.t)) := by
  simp only [clashB, h1, h2, h3, h4, h5, decide_true, Bool.true_and, if_false]
theorem cB_eq {a b : RideV} {h : Int} (h1 : rideB a = true) (h2 : rideB b = true) (h3 : inB h 0 60 = true) (h4 : a.e = b.e) (h5 : a.d = b.d) : clashB a b h = (!leadB a b h && !leadB b a h) := by
  simp only [clashB, h1, h2, h3, h4, h5, decide_true, Bool.true_and, if_true]
theorem rideB_in {u : RideV} (h : rideB u = true) : -100001 ≤ u.f ∧ u.f ≤ 100001 ∧ -100001 ≤ u.t ∧ u.t ≤ 100001 := by
  have := rideB_iff.1 h; omega
end Go.Proofs.Ythfknkmabjgklaa
