/- The walks of the laws on FreeFrom and Passed. -/
import Derived.Test.YtnbfkkmjehhihaaH
namespace Go.Proofs.Ytnbfkkmjehhihaa
open Go.RowKit

set_option maxHeartbeats 1600000 in
theorem walkFree (a : Option Addr) (cap : Nat) (bs : List Bool) (i : Int) (w : World) (hz : Bools w a bs) (hm : bs.length ≤ maxLen) :
    Calls Try.prog 4 #[.slice a bs.length cap, .int .i64 i] w fun e w' => e = .returned (.bool true) ∧ Below w.heap.size w w' := by
  have hm' := hm
  unfold maxLen at hm'
  by_cases hl2 : 1048576 < bs.length
  · have hl2' : (1048576 : Int) < (bs.length : Int) := by omega
    go_enter Try.func4, Try.ntmps4
    go_wp2
    go_ret
    exact ⟨rfl, Below.refl _ _⟩
  have hl2' : ¬ ((1048576 : Int) < (bs.length : Int)) := by omega
  have hl : bs.length ≤ 1048576 := by omega
  go_enter Try.func4, Try.ntmps4
  go_wp2_with fail
  refine (cToBools a cap bs _ hz hl).mono ?_
  rintro e w1_ ⟨g1, rfl, o1, hg, hb⟩
  clear hg
  have HB1 := btrans (Below.refl _ _) hb
  clear hb 
  go_wp2_with fail
  refine (cFreeS _ _ bs i _ (Bools.of_owns o1) hl).mono ?_
  rintro e w2_ ⟨rfl, hw⟩
  subst w2_
  generalize hr : freeFrom bs i = r
  replace hr := hide hr
  clear o1
  go_wp2_with fail
  refine (cToBools a cap bs _ (hz.below HB1) hl).mono ?_
  rintro e w3_ ⟨g2, rfl, o2, hg, hb⟩
  clear hg
  have HB3 := btrans HB1 hb
  clear hb HB1
  go_wp2_with fail
  refine (cFreeI _ bs i _ (Bools.of_owns o2) hl).mono ?_
  rintro e w4_ ⟨rfl, hw⟩
  subst w4_
  rw [hr.out]
  go_wp2_with fail
  refine (cToBools a cap bs _ (hz.below HB3) hl).mono ?_
  rintro e w5_ ⟨g3, rfl, o3, hg, hb⟩
  clear hg
  have HB5 := btrans HB3 hb
  have o2_5 := own_keep o2 hb
  clear hb HB3 o2
  go_wp2_with fail
  refine (cEqBools _ _ _ _ bs _ (Bools.of_owns o2_5) (Bools.of_owns o3) hm).mono ?_
  rintro e w6_ ⟨rfl, hb⟩
  have HB6 := btrans HB5 hb
  have o2_6 := own_keep o2_5 hb
  clear hb HB5 o2_5
  go_wp2
  go_ret
  exact ⟨rfl, HB6⟩

set_option maxHeartbeats 1600000 in
theorem walkPass (a b : Option Addr) (ca cb : Nat) (xs ys : List Int) (w : World) (hx : Ints w a xs) (hmx : xs.length ≤ maxLen) (hy : Ints w b ys) (hmy : ys.length ≤ maxLen) :
    Calls Try.prog 5 #[.slice a xs.length ca, .slice b ys.length cb] w fun e w' => e = .returned (.bool true) ∧ Below w.heap.size w w' := by
  have hmx' := hmx
  have hmy' := hmy
  unfold maxLen at hmx' hmy'
  by_cases hl2 : 1048576 < xs.length
  · have hl2' : (1048576 : Int) < (xs.length : Int) := by omega
    go_enter Try.func5, Try.ntmps5
    go_wp2
    go_ret
    exact ⟨rfl, Below.refl _ _⟩
  have hl2' : ¬ ((1048576 : Int) < (xs.length : Int)) := by omega
  by_cases hl3 : 1048576 < ys.length
  · have hl3' : (1048576 : Int) < (ys.length : Int) := by omega
    go_enter Try.func5, Try.ntmps5
    go_wp2
    go_ret
    exact ⟨rfl, Below.refl _ _⟩
  have hl3' : ¬ ((1048576 : Int) < (ys.length : Int)) := by omega
  have hlx : xs.length ≤ 1048576 := by omega
  have hly : ys.length ≤ 1048576 := by omega
  go_enter Try.func5, Try.ntmps5
  go_wp2_with fail
  refine (cToInts a ca xs _ hx hlx).mono ?_
  rintro e w1_ ⟨g1, rfl, o1, hg, hb⟩
  clear hg
  have HB1 := btrans (Below.refl _ _) hb
  clear hb 
  go_wp2_with fail
  refine (cToInts b cb ys _ (hy.below HB1) hly).mono ?_
  rintro e w2_ ⟨g2, rfl, o2, hg, hb⟩
  clear hg
  have HB2 := btrans HB1 hb
  have o1_2 := own_keep o1 hb
  clear hb HB1 o1
  go_wp2_with fail
  refine (cPassS _ _ _ _ xs ys _ (Ints.of_owns o1_2) (Ints.of_owns o2) hlx).mono ?_
  rintro e w3_ ⟨rfl, hb⟩
  have HB3 := btrans HB2 hb
  have o1_3 := own_keep o1_2 hb
  clear hb HB2 o1_2
  generalize hr : passed xs ys = r
  replace hr := hide hr
  clear o2 o1_3
  go_wp2_with fail
  refine (cToInts a ca xs _ (hx.below HB3) hlx).mono ?_
  rintro e w4_ ⟨g3, rfl, o3, hg, hb⟩
  clear hg
  have HB4 := btrans HB3 hb
  clear hb HB3
  go_wp2_with fail
  refine (cToInts b cb ys _ (hy.below HB4) hly).mono ?_
  rintro e w5_ ⟨g4, rfl, o4, hg, hb⟩
  clear hg
  have HB5 := btrans HB4 hb
  have o3_5 := own_keep o3 hb
  clear hb HB4 o3
  go_wp2_with fail
  refine (cPassI _ _ _ _ xs ys _ (Ints.of_owns o3_5) (Ints.of_owns o4) hlx).mono ?_
  rintro e w6_ ⟨rfl, hw⟩
  subst w6_
  rw [hr.out]
  go_wp2_with fail
  refine (cToInts a ca xs _ (hx.below HB5) hlx).mono ?_
  rintro e w7_ ⟨g5, rfl, o5, hg, hb⟩
  clear hg
  have HB7 := btrans HB5 hb
  have o3_7 := own_keep o3_5 hb
  have o4_7 := own_keep o4 hb
  clear hb HB5 o3_5 o4
  go_wp2_with fail
  refine (cEqInts _ _ _ _ xs _ (Ints.of_owns o3_7) (Ints.of_owns o5) hmx).mono ?_
  rintro e w8_ ⟨rfl, hb⟩
  have HB8 := btrans HB7 hb
  have o3_8 := own_keep o3_7 hb
  have o4_8 := own_keep o4_7 hb
  clear hb HB7 o3_7 o4_7
  go_wp2_with fail
  refine (cToInts b cb ys _ (hy.below HB8) hly).mono ?_
  rintro e w9_ ⟨g6, rfl, o6, hg, hb⟩
  clear hg
  have HB9 := btrans HB8 hb
  have o3_9 := own_keep o3_8 hb
  have o4_9 := own_keep o4_8 hb
  clear hb HB8 o3_8 o4_8
  go_wp2_with fail
  refine (cEqInts _ _ _ _ ys _ (Ints.of_owns o4_9) (Ints.of_owns o6) hmy).mono ?_
  rintro e w10_ ⟨rfl, hb⟩
  have HB10 := btrans HB9 hb
  have o3_10 := own_keep o3_9 hb
  have o4_10 := own_keep o4_9 hb
  clear hb HB9 o3_9 o4_9
  go_wp2
  go_ret
  exact ⟨rfl, HB10⟩
end Go.Proofs.Ytnbfkkmjehhihaa
