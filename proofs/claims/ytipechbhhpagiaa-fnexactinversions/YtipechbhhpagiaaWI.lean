/- The walk of the law on inversions. -/
import Derived.Test.YtipechbhhpagiaaCA
import Derived.Deep.RegionHeld3
namespace Go.Proofs.Ytipechbhhpagiaa
open Go.RowKit
theorem cInvIB (a : Option Addr) (cap : Nat) (zs : List Int) (w : World) (hz : Ints w a zs) (hcap : zs.length ≤ cap) (hl : zs.length ≤ 1048576) :
    Calls Try.prog 24 #[.slice a zs.length cap] w fun e w' => e = .returned (.int .i64 (invV zs)) ∧ Below w.heap.size w w' := by
  refine (cInvI a cap zs w hz hcap hl).mono ?_
  rintro e w1 ⟨rfl, hw⟩
  subst w1
  exact ⟨rfl, Below.refl _ _⟩
set_option maxRecDepth 20000 in
set_option maxHeartbeats 12800000 in
theorem walkInversions (za : Option Addr) (zc : Nat) (zs : List Int) (w : World) (hz : Ints w za zs) (_ : zs.length ≤ maxLen) :
    Calls Try.prog 11 #[.slice za zs.length zc] w fun e w' => e = .returned (.bool true) ∧ Below w.heap.size w w' := by
  have HB := Below.refl w.heap.size w
  by_cases hlz : (1048576 : Int) < zs.length
  · go_enter Try.func11, Try.ntmps11
    go_wp2
    go_ret
    exact ⟨rfl, HB⟩
  have lz : zs.length ≤ 1048576 := by omega
  replace hlz : ¬ (1048576 : Int) < zs.length := hlz
  go_enter Try.func11, Try.ntmps11
  go_wp2_with fail
  refine (cToInts za zc zs _ (hz.below HB) lz).mono ?_
  rintro e w1 ⟨gz0, rfl, Oz0, hgz0, hb⟩
  clear hgz0
  replace HB := btrans HB hb
  clear hb
  go_wp2_with fail
  refine (cInvS _ _ zs _ (Ints.of_owns Oz0) lz).mono ?_
  rintro e w2 ⟨rfl, hb⟩
  clear Oz0
  replace HB := btrans HB hb
  clear hb
  go_wp2_with fail
  have Sz := HB.size
  refine (cToInts za zc zs _ (hz.below HB) lz).mono ?_
  rintro e w3 ⟨gz1, rfl, Oz1, hgz1, hb⟩
  clear hgz1
  replace HB := btrans HB hb
  clear hb
  go_wp2_with fail
  refine (cInvIB _ _ zs _ (Ints.of_owns Oz1) (Nat.le_refl _) lz).mono ?_
  rintro e w4 ⟨rfl, hb⟩
  replace HB := btrans HB hb
  replace Oz1 := own_keep Oz1 hb
  clear hb
  go_wp2_with fail
  refine (cToInts za zc zs _ (hz.below HB) lz).mono ?_
  rintro e w5 ⟨g5, rfl, O5, hg5, hb⟩
  clear hg5
  replace HB := btrans HB hb
  replace Oz1 := own_keep Oz1 hb
  clear hb
  go_wp2_with fail
  refine (cEqInts _ _ _ _ zs _ (Ints.of_owns Oz1) (Ints.of_owns O5) (by unfold maxLen; omega)).mono ?_
  rintro e w6 ⟨rfl, hb⟩
  clear O5
  replace HB := btrans HB hb
  replace Oz1 := own_keep Oz1 hb
  clear hb
  go_wp2
  go_ret
  exact ⟨rfl, HB⟩

end Go.Proofs.Ytipechbhhpagiaa
