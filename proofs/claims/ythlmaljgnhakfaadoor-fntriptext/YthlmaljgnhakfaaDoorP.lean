/- One trip marked, and held against its marks. -/
import Derived.Test.YthlmaljgnhakfaaDoorI
namespace Go.Proofs.YthlmaljgnhakfaaDoor
open Go.RowKit
theorem gofr {w w' : World} (r : Option Nat) (hb : Below w.heap.size w w') : w.grownBy w' r := ⟨hb.os, hb.tape, hb.output, hb.size, fun k hk _ => hb.block k hk⟩
theorem far_blk {w w' : World} {r : Option Nat} (hgr : w.grownBy w' r) {b : Nat} {o : Obj} (h : w.heap[b]? = some o) (hne : ∀ j, r = some j → j ≠ b) : w'.heap[b]? = some o :=
  (hgr.block b (lt_of_block h) (fun e => hne b e.symm rfl)).trans h
set_option maxHeartbeats 800000 in
theorem cMarkTrip (B n : Nat) (s : ByteArray) (v : Value) (es : List HaltV) (w : World) (ho : Rw w B 36 3 v n (flatHalts es)) (hl : n ≤ 1048576) :
    Calls Tryd.prog 16 #[.agg #[.string s, v], .int .i64 1] w fun e w' => e = .returned (.int .i64 (1 + 3 * n)) ∧
      Rw w' B 36 3 v n (flatHalts (marksHalts 1 n)) ∧ ∃ r, w.grownBy w' r ∧ ∀ j, r = some j → v.ownBlock = some j := by
  obtain ⟨a, c, rfl⟩ := ho.form
  have hb := balloc w (.cells #[.string s, .slice a n c] 26)
  go_enter Tryd.func16, Tryd.ntmps16
  go_wp2_with fail
  refine (cMarkHalts B n _ es 1 _ (ho.keep hb) hl (by omega) (by omega)).mono ?_
  rintro e w1 ⟨rfl, h1, r, hgr, hr⟩
  go_wp2
  go_ret
  exact ⟨rfl, h1, r, gtrans (gofr r hb) hgr, fun j hj => (hr j hj).2⟩
set_option maxHeartbeats 800000 in
theorem cHeldTrip (B n : Nat) (s : ByteArray) (v : Value) (w : World) (ho : Rw w B 36 3 v n (flatHalts (marksHalts 1 n))) (hl : n ≤ 1048576) :
    Calls Tryd.prog 17 #[.agg #[.string s, v], .int .i64 1] w fun e w' => e = .returned (.int .i64 (1 + 3 * n)) ∧ Below w.heap.size w w' := by
  obtain ⟨a, c, rfl⟩ := ho.form
  have hb := balloc w (.cells #[.string s, .slice a n c] 26)
  have hn : ¬ ((1 : Int) + 3 * (n : Int) < 0) := by omega
  go_enter Tryd.func17, Tryd.ntmps17
  go_wp2_with fail
  refine (cHeldHalts B n _ 1 _ (ho.keep hb) hl (by omega) (by omega)).mono ?_
  rintro e w1 ⟨rfl, hw⟩
  subst w1
  go_wp2
  go_ret
  exact ⟨rfl, hb⟩
end Go.Proofs.YthlmaljgnhakfaaDoor
