/- The walk of the law on JourneyText. -/
import Derived.Test.YtpfnnpgielnaeaaDoorJU
namespace Go.Proofs.YtpfnnpgielnaeaaDoor
open Go.RowKit

set_option maxHeartbeats 1600000 in
theorem walkJourneyText (a : Option Addr) (cap : Nat) (ts : List TripV) (la : Option Addr) (lc : Nat) (es : List LegV) (ch : Int) (w : World) (ht : Tab w) (hz : Trips w a ts) (hB : Big ts) (he : Legs w la es) (hel : es.length ≤ maxLen) :
    Calls Tryd.prog 3 #[.slice a ts.length cap, .slice la es.length lc, .int .i64 ch] w fun e w' => e = .returned (.bool true) ∧ Below w.heap.size w w' := by
  go_enter Tryd.func3, Tryd.ntmps3
  go_wp2_with fail
  refine (cSzTrips a cap ts 1048576 _ hz (by omega) (by omega) hB).mono ?_
  rintro e w1 ⟨r, rfl, hr, hb⟩
  have HB := btrans (Below.refl _ _) hb
  clear hb
  rcases hr with rfl | ⟨hr0, hr1, hS⟩
  · go_wp2
    go_ret
    exact ⟨rfl, HB⟩
  have hr0' : ¬ (r < 0) := by omega
  clear hB
  go_wp2_with fail
  refine (cSzLegs la es.length lc r _ hr0 hr1 hel).mono ?_
  rintro e w2 ⟨r', rfl, hr, hw⟩
  subst w2
  rcases hr with rfl | ⟨hr, hr2⟩
  · go_wp2
    go_ret
    exact ⟨rfl, HB⟩
  have hl : es.length ≤ 1048576 := by omega
  have hr2' : ¬ (r' < 0) := by omega
  clear hr hr1 hel
  go_wp2_with fail
  refine (cToTrips a cap ts _ (hz.below HB) hS).mono ?_
  rintro e w3 ⟨rfl, o1, hb⟩
  replace HB := btrans HB hb
  clear hb
  go_wp2_with fail
  refine (cToLegs la lc es _ (he.below HB) hl).mono ?_
  rintro e w4 ⟨g4, rfl, L1, -, hb⟩
  replace HB := btrans HB hb
  replace o1 := o1.below hb
  clear hb
  go_wp2_with fail
  refine (cJtS _ _ ts _ _ es ch _ o1.read hS (Legs.of_owns L1)).mono ?_
  rintro e w5 ⟨r1, rfl, hr1, hb⟩
  replace HB := btrans HB hb
  replace hr1 := hide hr1
  clear hb o1 L1
  go_wp2_with fail
  refine (cToTrips a cap ts _ (hz.below HB) hS).mono ?_
  rintro e w6 ⟨rfl, o2, hb⟩
  replace HB := btrans HB hb
  clear hb
  go_wp2_with fail
  refine (cToLegs la lc es _ (he.below HB) hl).mono ?_
  rintro e w7 ⟨g7, rfl, L2, -, hb⟩
  replace HB := btrans HB hb
  replace o2 := o2.below hb
  clear hb
  go_wp2_with fail
  refine (cJtI _ _ ts _ _ es ch _ (ht.below HB) o2.read hS (Legs.of_owns L2) hl).mono ?_
  rintro e w8 ⟨r2, rfl, hr2, hb⟩
  replace HB := btrans HB hb
  replace o2 := o2.below hb
  replace L2 := own_keep L2 hb
  have hrr : r2 = r1 := hr2.unique hr1.out
  subst hrr
  clear hb hr1 hr2
  go_wp2_with fail
  refine (cToTrips a cap ts _ (hz.below HB) hS).mono ?_
  rintro e w9 ⟨rfl, o3, hb⟩
  replace HB := btrans HB hb
  replace o2 := o2.below hb
  replace L2 := own_keep L2 hb
  clear hb
  go_wp2_with fail
  refine (cEqTrips _ _ _ _ ts _ o2.read o3.read hS).mono ?_
  rintro e w10 ⟨rfl, hb⟩
  replace HB := btrans HB hb
  replace L2 := own_keep L2 hb
  clear hb o2 o3
  go_wp2_with fail
  refine (cToLegs la lc es _ (he.below HB) hl).mono ?_
  rintro e w11 ⟨g11, rfl, L3, -, hb⟩
  replace HB := btrans HB hb
  replace L2 := own_keep L2 hb
  clear hb
  go_wp2_with fail
  refine (cEqLegs _ _ _ _ es _ (Legs.of_owns L2) (Legs.of_owns L3) hl).mono ?_
  rintro e w12 ⟨rfl, hb⟩
  replace HB := btrans HB hb
  go_wp2
  go_ret
  exact ⟨rfl, HB⟩
end Go.Proofs.YtpfnnpgielnaeaaDoor
