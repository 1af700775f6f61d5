/- The walks of the laws on what is driven and stretched. -/
import Derived.Test.YtdmdoknkkfhheaaSC
import Derived.Deep.RegionHeld3
namespace Go.Proofs.Ytdmdoknkkfhheaa
open Go.RowKit
set_option maxRecDepth 20000 in
set_option maxHeartbeats 12800000 in
theorem walkDriven (ea : Option Addr) (ec : Nat) (es : List TaskV) (za : Option Addr) (zc : Nat) (zs : List Int) (w : World) (he : Tasks w ea es) (ne : es.length ≤ maxLen) (hz : Ints w za zs) (_ : zs.length ≤ maxLen) :
    Calls Try.prog 6 #[.slice ea es.length ec, .slice za zs.length zc] w fun e w' => e = .returned (.bool true) ∧ Below w.heap.size w w' := by
  have HB := Below.refl w.heap.size w
  by_cases hlz : (1048576 : Int) < zs.length
  · go_enter Try.func6, Try.ntmps6
    go_wp2
    go_ret
    exact ⟨rfl, HB⟩
  have lz : zs.length ≤ 1048576 := by omega
  replace hlz : ¬ (1048576 : Int) < zs.length := hlz
  go_enter Try.func6, Try.ntmps6
  go_wp2_with fail
  refine (cSzTasks ea _ ec 1048576 _ (by omega) (by omega) ne).mono ?_
  rintro e w1 ⟨r1, rfl, hr, hw⟩
  subst w1
  rcases hr with rfl | ⟨hr, hr0⟩
  · go_wp2
    go_ret
    exact ⟨rfl, HB⟩
  have le : es.length ≤ 1048576 := by omega
  have hr51 : ¬ r1 < 0 := by omega
  have hr61 : r1 ≤ 1048576 := by omega
  have hr71 := hr0
  clear hr hr0
  go_wp2_with fail
  refine (cToTasks ea ec es _ (he.below HB) le).mono ?_
  rintro e w2 ⟨ge0, rfl, Oe0, hge0, hb⟩
  clear hge0
  replace HB := btrans HB hb
  clear hb
  go_wp2_with fail
  refine (cToInts za zc zs _ (hz.below HB) lz).mono ?_
  rintro e w3 ⟨gz0, rfl, Oz0, hgz0, hb⟩
  clear hgz0
  replace HB := btrans HB hb
  replace Oe0 := own_keep Oe0 hb
  clear hb
  go_wp2_with fail
  refine (cDrivenS _ _ es _ _ zs _ (Tasks.of_owns Oe0) (Ints.of_owns Oz0) le (Nat.le_refl _)).mono ?_
  rintro e w4 ⟨rfl, hb⟩
  clear Oe0 Oz0
  replace HB := btrans HB hb
  clear hb
  go_wp2_with fail
  have Se := HB.size
  refine (cToTasks ea ec es _ (he.below HB) le).mono ?_
  rintro e w5 ⟨ge1, rfl, Oe1, hge1, hb⟩
  clear hge1
  replace HB := btrans HB hb
  clear hb
  go_wp2_with fail
  have Sz := HB.size
  refine (cToInts za zc zs _ (hz.below HB) lz).mono ?_
  rintro e w6 ⟨gz1, rfl, Oz1, hgz1, hb⟩
  clear hgz1
  replace HB := btrans HB hb
  replace Oe1 := own_keep Oe1 hb
  clear hb
  go_wp2_with fail
  refine (cDrivenI _ _ es _ _ zs _ (Tasks.of_owns Oe1) (Ints.of_owns Oz1) le (Nat.le_refl _)).mono ?_
  rintro e w7 ⟨rfl, hb⟩
  replace HB := btrans HB hb
  replace Oe1 := own_keep Oe1 hb
  replace Oz1 := own_keep Oz1 hb
  clear hb
  go_wp2_with fail
  refine (cToTasks ea ec es _ (he.below HB) le).mono ?_
  rintro e w8 ⟨g5, rfl, O5, hg5, hb⟩
  clear hg5
  replace HB := btrans HB hb
  replace Oe1 := own_keep Oe1 hb
  replace Oz1 := own_keep Oz1 hb
  clear hb
  go_wp2_with fail
  refine (cEqTasks _ _ _ _ es _ (Tasks.of_owns Oe1) (Tasks.of_owns O5) le).mono ?_
  rintro e w9 ⟨rfl, hb⟩
  clear O5
  replace HB := btrans HB hb
  replace Oe1 := own_keep Oe1 hb
  replace Oz1 := own_keep Oz1 hb
  clear hb
  go_wp2_with fail
  refine (cToInts za zc zs _ (hz.below HB) lz).mono ?_
  rintro e w10 ⟨g5, rfl, O5, hg5, hb⟩
  clear hg5
  replace HB := btrans HB hb
  replace Oe1 := own_keep Oe1 hb
  replace Oz1 := own_keep Oz1 hb
  clear hb
  go_wp2_with fail
  refine (cEqInts _ _ _ _ zs _ (Ints.of_owns Oz1) (Ints.of_owns O5) (by unfold maxLen; omega)).mono ?_
  rintro e w11 ⟨rfl, hb⟩
  clear O5
  replace HB := btrans HB hb
  replace Oe1 := own_keep Oe1 hb
  replace Oz1 := own_keep Oz1 hb
  clear hb
  go_wp2
  go_ret
  exact ⟨rfl, HB⟩

set_option maxRecDepth 20000 in
set_option maxHeartbeats 12800000 in
theorem walkStretched (ea : Option Addr) (ec : Nat) (es : List TaskV) (za : Option Addr) (zc : Nat) (zs : List Int) (x : Int) (w : World) (he : Tasks w ea es) (ne : es.length ≤ maxLen) (hz : Ints w za zs) (_ : zs.length ≤ maxLen) :
    Calls Try.prog 7 #[.slice ea es.length ec, .slice za zs.length zc, .int .i64 x] w fun e w' => e = .returned (.bool true) ∧ Below w.heap.size w w' := by
  have HB := Below.refl w.heap.size w
  by_cases hlz : (1048576 : Int) < zs.length
  · go_enter Try.func7, Try.ntmps7
    go_wp2
    go_ret
    exact ⟨rfl, HB⟩
  have lz : zs.length ≤ 1048576 := by omega
  replace hlz : ¬ (1048576 : Int) < zs.length := hlz
  go_enter Try.func7, Try.ntmps7
  go_wp2_with fail
  refine (cSzTasks ea _ ec 1048576 _ (by omega) (by omega) ne).mono ?_
  rintro e w1 ⟨r1, rfl, hr, hw⟩
  subst w1
  rcases hr with rfl | ⟨hr, hr0⟩
  · go_wp2
    go_ret
    exact ⟨rfl, HB⟩
  have le : es.length ≤ 1048576 := by omega
  have hr51 : ¬ r1 < 0 := by omega
  have hr61 : r1 ≤ 1048576 := by omega
  have hr71 := hr0
  clear hr hr0
  go_wp2_with fail
  refine (cToTasks ea ec es _ (he.below HB) le).mono ?_
  rintro e w2 ⟨ge0, rfl, Oe0, hge0, hb⟩
  clear hge0
  replace HB := btrans HB hb
  clear hb
  go_wp2_with fail
  refine (cToInts za zc zs _ (hz.below HB) lz).mono ?_
  rintro e w3 ⟨gz0, rfl, Oz0, hgz0, hb⟩
  clear hgz0
  replace HB := btrans HB hb
  replace Oe0 := own_keep Oe0 hb
  clear hb
  go_wp2_with fail
  refine (cStretchedS _ _ es _ _ zs x _ (Tasks.of_owns Oe0) (Ints.of_owns Oz0) le (Nat.le_refl _)).mono ?_
  rintro e w4 ⟨rfl, hb⟩
  clear Oe0 Oz0
  replace HB := btrans HB hb
  clear hb
  go_wp2_with fail
  have Se := HB.size
  refine (cToTasks ea ec es _ (he.below HB) le).mono ?_
  rintro e w5 ⟨ge1, rfl, Oe1, hge1, hb⟩
  clear hge1
  replace HB := btrans HB hb
  clear hb
  go_wp2_with fail
  have Sz := HB.size
  refine (cToInts za zc zs _ (hz.below HB) lz).mono ?_
  rintro e w6 ⟨gz1, rfl, Oz1, hgz1, hb⟩
  clear hgz1
  replace HB := btrans HB hb
  replace Oe1 := own_keep Oe1 hb
  clear hb
  go_wp2_with fail
  refine (cStretchedI _ _ es _ _ zs x _ (Tasks.of_owns Oe1) (Ints.of_owns Oz1) le (Nat.le_refl _)).mono ?_
  rintro e w7 ⟨rfl, hb⟩
  replace HB := btrans HB hb
  replace Oe1 := own_keep Oe1 hb
  replace Oz1 := own_keep Oz1 hb
  clear hb
  go_wp2_with fail
  refine (cToTasks ea ec es _ (he.below HB) le).mono ?_
  rintro e w8 ⟨g5, rfl, O5, hg5, hb⟩
  clear hg5
  replace HB := btrans HB hb
  replace Oe1 := own_keep Oe1 hb
  replace Oz1 := own_keep Oz1 hb
  clear hb
  go_wp2_with fail
  refine (cEqTasks _ _ _ _ es _ (Tasks.of_owns Oe1) (Tasks.of_owns O5) le).mono ?_
  rintro e w9 ⟨rfl, hb⟩
  clear O5
  replace HB := btrans HB hb
  replace Oe1 := own_keep Oe1 hb
  replace Oz1 := own_keep Oz1 hb
  clear hb
  go_wp2_with fail
  refine (cToInts za zc zs _ (hz.below HB) lz).mono ?_
  rintro e w10 ⟨g5, rfl, O5, hg5, hb⟩
  clear hg5
  replace HB := btrans HB hb
  replace Oe1 := own_keep Oe1 hb
  replace Oz1 := own_keep Oz1 hb
  clear hb
  go_wp2_with fail
  refine (cEqInts _ _ _ _ zs _ (Ints.of_owns Oz1) (Ints.of_owns O5) (by unfold maxLen; omega)).mono ?_
  rintro e w11 ⟨rfl, hb⟩
  clear O5
  replace HB := btrans HB hb
  replace Oe1 := own_keep Oe1 hb
  replace Oz1 := own_keep Oz1 hb
  clear hb
  go_wp2
  go_ret
  exact ⟨rfl, HB⟩

end Go.Proofs.Ytdmdoknkkfhheaa
