/- The walk of the law on Peak. -/
import Derived.Test.YteklmeekapegpaaPC
namespace Go.Proofs.Yteklmeekapegpaa
open Go.RowKit

set_option maxHeartbeats 1600000 in
theorem walkPeak (a0 : Option Addr) (c0 : Nat) (z0 : List StayV) (g1 : Int) (w : World) (hz0 : Stays w a0 z0) (hm0 : z0.length ≤ maxLen) :
    Calls Try.prog 7 #[.slice a0 z0.length c0, .int .i64 g1] w fun e w' => e = .returned (.bool true) ∧ Below w.heap.size w w' := by
  go_enter Try.func7, Try.ntmps7
  go_wp2_with fail
  refine (cSzStays a0 z0.length c0 1048576 _ (by omega) (by omega) hm0).mono ?_
  rintro e w0 ⟨r, rfl, hr, hw⟩
  subst w0
  rcases hr with rfl | ⟨rfl, hr⟩
  · go_wp2
    go_ret
    exact ⟨rfl, Below.refl _ _⟩
  have hl0 : z0.length ≤ 1048576 := by omega
  have hr' : ¬ (1048576 - (z0.length : Int) < 0) := by omega
  clear hm0 hr
  go_wp2_with fail
  refine (cToStays a0 c0 z0 _ (hz0.below (Below.refl _ _)) hl0).mono ?_
  rintro e w1_ ⟨gqp0, rfl, p0, hgq, hb⟩
  clear hgq
  have HB1 := btrans (Below.refl _ _) hb
  clear hb 
  go_wp2_with fail
  refine (cPeakS _ _ z0 g1 _ (Stays.of_owns p0) hl0).mono ?_
  rintro e w2_ ⟨rfl, hb⟩
  have HB2 := btrans HB1 hb
  have p0_2 := own_keep p0 hb
  clear hb HB1 p0
  generalize hr : peakV z0 g1 = r
  replace hr := hide hr
  clear p0_2
  go_wp2_with fail
  refine (cToStays a0 c0 z0 _ (hz0.below HB2) hl0).mono ?_
  rintro e w3_ ⟨gqx0, rfl, x0, hgq, hb⟩
  clear hgq
  have HB3 := btrans HB2 hb
  clear hb HB2
  go_wp2_with fail
  refine (cPeakI _ _ z0 g1 _ (Stays.of_owns x0) hl0).mono ?_
  rintro e w4_ ⟨rfl, hb⟩
  have HB4 := btrans HB3 hb
  have x0_4 := own_keep x0 hb
  clear hb HB3 x0
  rw [hr.out]
  go_wp2_with fail
  refine (cToStays a0 c0 z0 _ (hz0.below HB4) hl0).mono ?_
  rintro e w5_ ⟨gqy0, rfl, y0, hgq, hb⟩
  clear hgq
  have HB5 := btrans HB4 hb
  have x0_5 := own_keep x0_4 hb
  clear hb HB4 x0_4
  go_wp2_with fail
  refine (cEqStays _ _ _ _ z0 _ (Stays.of_owns x0_5) (Stays.of_owns y0) hl0).mono ?_
  rintro e w6_ ⟨rfl, hb⟩
  have HB6 := btrans HB5 hb
  have x0_6 := own_keep x0_5 hb
  have y0_6 := own_keep y0 hb
  clear hb HB5 x0_5 y0
  clear y0_6
  go_wp2
  go_ret
  exact ⟨rfl, HB6⟩
end Go.Proofs.Yteklmeekapegpaa
