/- The walk of the law on the fleet. -/
import Derived.Test.YtbnhkkaiohmllaaFT
import Derived.Deep.RegionHeld3
namespace Go.Proofs.Ytbnhkkaiohmllaa
open Go.RowKit
set_option maxRecDepth 20000 in
set_option maxHeartbeats 12800000 in
theorem walkFleet (ea : Option Addr) (ec : Nat) (es : List TaskV) (x : Int) (w : World) (he : Tasks w ea es) (ne : es.length ≤ maxLen) :
    Calls Try.prog 11 #[.slice ea es.length ec, .int .i64 x] w fun e w' => e = .returned (.bool true) ∧ Below w.heap.size w w' := by
  have HB := Below.refl w.heap.size w
  go_enter Try.func11, Try.ntmps11
  go_wp2_with fail
  refine (cSzTasks ea _ ec 1048576 _ (by omega) (by omega) ne).mono ?_
  rintro e w1 ⟨r1, rfl, hr, hw⟩
  subst w1
  rcases hr with rfl | ⟨hr, hr0⟩
  · go_wp2
    go_ret
    exact ⟨rfl, HB⟩
  have le : es.length ≤ 1048576 := by omega
  have hr51 : ¬ r1 < 0 := by omega
  have hr61 : r1 ≤ 1048576 := by omega
  have hr71 := hr0
  clear hr hr0
  go_wp2_with fail
  refine (cToTasks ea ec es _ (he.below HB) le).mono ?_
  rintro e w2 ⟨ge0, rfl, Oe0, hge0, hb⟩
  clear hge0
  replace HB := btrans HB hb
  clear hb
  go_wp2_with fail
  refine (cFleetS _ _ es x _ (Tasks.of_owns Oe0) le).mono ?_
  rintro e w3 ⟨zW, rfl, hiW, hb⟩
  clear Oe0
  replace HB := btrans HB hb
  clear hb
  go_wp2_with fail
  have Se := HB.size
  refine (cToTasks ea ec es _ (he.below HB) le).mono ?_
  rintro e w4 ⟨ge1, rfl, Oe1, hge1, hb⟩
  clear hge1
  replace HB := btrans HB hb
  clear hb
  go_wp2_with fail
  refine (cFleetI _ _ es x _ (Tasks.of_owns Oe1) le).mono ?_
  rintro e w5 ⟨zG, rfl, hiG, hb⟩
  have hbe : zG = zW := hiG.same hiW
  subst zG
  clear hiG hiW
  replace HB := btrans HB hb
  replace Oe1 := own_keep Oe1 hb
  clear hb
  go_wp2_with fail
  refine (cToTasks ea ec es _ (he.below HB) le).mono ?_
  rintro e w6 ⟨g5, rfl, O5, hg5, hb⟩
  clear hg5
  replace HB := btrans HB hb
  replace Oe1 := own_keep Oe1 hb
  clear hb
  go_wp2_with fail
  refine (cEqTasks _ _ _ _ es _ (Tasks.of_owns Oe1) (Tasks.of_owns O5) le).mono ?_
  rintro e w7 ⟨rfl, hb⟩
  clear O5
  replace HB := btrans HB hb
  replace Oe1 := own_keep Oe1 hb
  clear hb
  go_wp2
  go_ret
  exact ⟨rfl, HB⟩

end Go.Proofs.Ytbnhkkaiohmllaa
