/- What the law on signals wants: forward at red beyond. -/
import Derived.Test.YtcfapadcgboalaaDoorDR
namespace Go.Proofs.YtcfapadcgboalaaDoor
open Go.RowKit

/-- At red beyond a train goes forward just when there is a block ahead and its signal is not red. -/
theorem fwd_iff {n : Int} {ts : List SpanV} (h : trainsOk n ts = true) {q : Nat} (hq : q < ts.length) :
    (¬ (fAt ts q + 1 < n) → fwd n ts (q : Int) 0 = none) ∧
    (fAt ts q + 1 < n → asp (takens ts n.toNat) 0 (fAt ts q + 1).toNat = 0 → fwd n ts (q : Int) 0 = none) ∧
    (fAt ts q + 1 < n → asp (takens ts n.toNat) 0 (fAt ts q + 1).toNat ≠ 0 → fwd n ts (q : Int) 0 = some (ts.set q ⟨rAt ts q, fAt ts q + 1⟩)) := by
  have hk := ok_at h hq
  have hp : placeB ts (q : Int) = true := inB_yes (by omega) (by omega)
  refine ⟨fun hn => fwd_red (ahead_end (by omega) (by omega) (by omega)), fun _ h0 => fwd_red h0, fun hn h0 => ?_⟩
  rw [fwd_go hp (by decide) h0]
  unfold moved
  rw [if_neg (by omega)]
theorem set_at {ts : List SpanV} {q : Nat} (hq : q < ts.length) (r f : Int) : rAt (ts.set q ⟨r, f⟩) q = r ∧ fAt (ts.set q ⟨r, f⟩) q = f := by
  unfold rAt fAt
  rw [getD_set, if_pos ⟨rfl, hq⟩]
  exact ⟨rfl, rfl⟩
theorem shr_after {n : Int} {ts : List SpanV} (h : trainsOk n ts = true) {q : Nat} (hq : q < ts.length) : shr (ts.set q ⟨rAt ts q, fAt ts q + 1⟩) (q : Int) = some (ts.set q ⟨rAt ts q + 1, fAt ts q + 1⟩) := by
  have hk := ok_at h hq
  have hp : placeB (ts.set q ⟨rAt ts q, fAt ts q + 1⟩) (q : Int) = true := inB_yes (by omega) (by simp; omega)
  obtain ⟨e1, e2⟩ := set_at hq (rAt ts q) (fAt ts q + 1)
  rw [shr_go hp (by rw [e1, e2]; omega)]
  unfold drawn
  rw [e1, e2, List.set_set]
end Go.Proofs.YtcfapadcgboalaaDoor
