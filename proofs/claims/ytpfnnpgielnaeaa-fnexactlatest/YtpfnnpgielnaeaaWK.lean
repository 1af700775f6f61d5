/- The walk of the law on Latest. -/
import Derived.Test.YtpfnnpgielnaeaaLU
namespace Go.Proofs.Ytpfnnpgielnaeaa
open Go.RowKit

set_option maxHeartbeats 1600000 in
theorem walkLatest (a : Option Addr) (cap : Nat) (ts : List TripV) (f u m ch h : Int) (w : World) (hz : Trips w a ts) (hB : Big ts) :
    Calls Try.prog 9 #[.slice a ts.length cap, .int .i64 f, .int .i64 u, .int .i64 m, .int .i64 ch, .int .i64 h] w fun e w' => e = .returned (.bool true) ∧ Below w.heap.size w w' := by
  go_enter Try.func9, Try.ntmps9
  go_wp2_with fail
  refine (cSzTrips a cap ts 1048576 _ hz (by omega) (by omega) hB).mono ?_
  rintro e w1 ⟨r, rfl, hr, hb⟩
  have HB := btrans (Below.refl _ _) hb
  clear hb
  rcases hr with rfl | ⟨hr0, hr1, hS⟩
  · go_wp2
    go_ret
    exact ⟨rfl, HB⟩
  have hr0' : ¬ (r < 0) := by omega
  clear hr1 hB
  go_wp2_with fail
  refine (cToTrips a cap ts _ (hz.below HB) hS).mono ?_
  rintro e w2 ⟨rfl, o1, hb⟩
  replace HB := btrans HB hb
  clear hb
  go_wp2_with fail
  refine (cLateS _ _ ts f u m ch h _ o1.read hS).mono ?_
  rintro e w3 ⟨r1, rfl, hr1, hb⟩
  replace HB := btrans HB hb
  replace hr1 := hide hr1
  clear hb o1
  go_wp2_with fail
  refine (cToTrips a cap ts _ (hz.below HB) hS).mono ?_
  rintro e w4 ⟨rfl, o2, hb⟩
  replace HB := btrans HB hb
  clear hb
  go_wp2_with fail
  refine (cLateI _ _ ts f u m ch h _ o2.read hS).mono ?_
  rintro e w5 ⟨r2, rfl, hr2, hb⟩
  replace HB := btrans HB hb
  replace o2 := o2.below hb
  obtain rfl : r2 = r1 := LateAns.uniq hr2 hr1.out
  clear hb hr1 hr2
  go_wp2_with fail
  refine (cToTrips a cap ts _ (hz.below HB) hS).mono ?_
  rintro e w6 ⟨rfl, o3, hb⟩
  replace HB := btrans HB hb
  replace o2 := o2.below hb
  clear hb
  go_wp2_with fail
  refine (cEqTrips _ _ _ _ ts _ o2.read o3.read hS).mono ?_
  rintro e w7 ⟨rfl, hb⟩
  replace HB := btrans HB hb
  go_wp2
  go_ret
  exact ⟨rfl, HB⟩
end Go.Proofs.Ytpfnnpgielnaeaa
