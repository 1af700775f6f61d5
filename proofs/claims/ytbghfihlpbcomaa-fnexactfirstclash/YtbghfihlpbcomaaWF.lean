/- The walk of the law on FirstClash. -/
import Derived.Test.YtbghfihlpbcomaaKH
import Derived.Test.YtbghfihlpbcomaaSU
namespace Go.Proofs.Ytbghfihlpbcomaa
open Go.RowKit
set_option maxRecDepth 20000 in
set_option maxHeartbeats 1600000 in
theorem walkFirstClash (a : Option Addr) (p : Nat) (us : List RideV) (h : Int) (w : World) (hz : Rides w a us) (hn : us.length ≤ maxLen) :
    Calls Try.prog 8 #[.slice a us.length p, .int .i64 h] w fun e w' => e = .returned (.bool true) ∧ Below w.heap.size w w' := by
  go_enter Try.func8, Try.ntmps8
  go_wp2_with fail
  refine (cSzRides a us.length p 1048576 _ (by omega) (by omega) hn).mono ?_
  rintro e w1 ⟨r, rfl, hr, hw⟩
  subst w1
  rcases hr with rfl | ⟨hr, hr0⟩
  · go_wp2
    go_ret
    exact ⟨rfl, Below.refl _ _⟩
  have hl : us.length ≤ 1048576 := by omega
  have hr2 : ¬ r < 0 := by omega
  clear hr
  go_wp2_with fail
  refine (cToRides a p us _ hz hl).mono ?_
  rintro e w1 ⟨g1, rfl, O1, -, HB⟩
  go_wp2_with fail
  refine (cFirstS _ _ us h _ (Rides.own O1) hl).mono ?_
  rintro e w2 ⟨x, y, rfl, hA1, hb⟩
  replace HB := btrans HB hb
  replace hA1 := hide hA1
  clear hb O1
  go_wp2_with fail
  refine (cToRides a p us _ (hz.below HB) hl).mono ?_
  rintro e w3 ⟨g2, rfl, O2, -, hb⟩
  replace HB := btrans HB hb
  clear hb
  go_wp2_with fail
  refine (cFirstI _ _ us h _ (Rides.own O2) hl).mono ?_
  rintro e w4 ⟨x', y', rfl, hA2, hb⟩
  replace HB := btrans HB hb
  replace O2 := own_keep O2 hb
  obtain ⟨rfl, rfl⟩ := hA1.out.uniq hA2
  clear hb hA1 hA2
  go_wp2_with fail
  refine (cToRides a p us _ (hz.below HB) hl).mono ?_
  rintro e w5 ⟨g3, rfl, O3, -, hb⟩
  replace HB := btrans HB hb
  replace O2 := own_keep O2 hb
  clear hb
  go_wp2_with fail
  refine (cEqRides _ _ _ _ us _ (Rides.own O2) (Rides.own O3) hl).mono ?_
  rintro e w6 ⟨rfl, hb⟩
  replace HB := btrans HB hb
  go_wp2
  go_ret
  exact ⟨rfl, HB⟩
end Go.Proofs.Ytbghfihlpbcomaa
