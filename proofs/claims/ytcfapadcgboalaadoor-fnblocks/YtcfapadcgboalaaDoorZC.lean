/- Drive of the program; a train put at a place, in the model. -/
import Derived.Test.YtcfapadcgboalaaDoorZB
namespace Go.Proofs.YtcfapadcgboalaaDoor
open Go.RowKit

/-- The trains with another one at place k, or without it where it is gone: the first m. -/
def putStep (ts : List SpanV) (k : Int) (t : SpanV) (gone : Bool) (i : Nat) : List SpanV := if (i : Int) = k then (if gone = true then [] else [t]) else [ts.getD i SpanV.zero]
def putTo (ts : List SpanV) (k : Int) (t : SpanV) (gone : Bool) (m : Nat) : List SpanV := (List.range m).flatMap (putStep ts k t gone)
theorem putTo_succ (ts : List SpanV) (k : Int) (t : SpanV) (gone : Bool) (m : Nat) : putTo ts k t gone (m + 1) = putTo ts k t gone m ++ putStep ts k t gone m := by simp [putTo, List.range_succ]
theorem putTo_len (ts : List SpanV) (k : Int) (t : SpanV) (gone : Bool) (m : Nat) : (putTo ts k t gone m).length ≤ m := by
  induction m with
  | zero => simp [putTo]
  | succ m ih =>
    rw [putTo_succ, List.length_append]
    have : (putStep ts k t gone m).length ≤ 1 := by
      unfold putStep
      split
      · split <;> simp
      · simp
    omega
theorem putTo_same {ts : List SpanV} {k : Int} {t : SpanV} {gone : Bool} : ∀ m, m ≤ ts.length → (∀ i : Nat, i < m → (i : Int) ≠ k) → putTo ts k t gone m = ts.take m
  | 0, _, _ => by simp [putTo]
  | m + 1, hm, h => by
    rw [putTo_succ, putTo_same m (by omega) (fun i hi => h i (by omega)), List.take_succ_eq_append_getElem (by omega)]
    unfold putStep
    rw [if_neg (h m (by omega))]
    simp [List.getD, show m < ts.length by omega]
theorem putTo_set {ts : List SpanV} {q : Nat} {t : SpanV} (hq : q < ts.length) : ∀ m, m ≤ ts.length → putTo ts (q : Int) t false m = (ts.set q t).take m
  | 0, _ => by simp [putTo]
  | m + 1, hm => by
    rw [putTo_succ, putTo_set hq m (by omega), List.take_succ_eq_append_getElem (by simp; omega)]
    congr 1
    unfold putStep
    by_cases e : m = q
    · subst e; rw [if_pos rfl]; simp
    · rw [if_neg (by omega)]
      have : q ≠ m := fun x => e x.symm
      simp [List.getD, show m < ts.length by omega, List.getElem_set_ne this]
theorem putTo_gone {ts : List SpanV} {q : Nat} {t : SpanV} (hq : q + 1 = ts.length) : putTo ts (q : Int) t true ts.length = ts.take q := by
  rw [← hq, putTo_succ, putTo_same q (by omega) (fun i hi => by omega)]
  unfold putStep
  rw [if_pos rfl, if_pos rfl, List.append_nil]

end Go.Proofs.YtcfapadcgboalaaDoor
