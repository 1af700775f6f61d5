/- The walk of the law on TrainsOk. -/
import Derived.Test.YtnbfkkmjehhihaaDoorU
namespace Go.Proofs.YtnbfkkmjehhihaaDoor
open Go.RowKit

set_option maxHeartbeats 1600000 in
theorem walkTrains (a : Option Addr) (cap : Nat) (n : Int) (ts : List SpanV) (w : World) (he : Spans w a ts) (hm : ts.length ≤ maxLen) (hg : Glob w) :
    Calls Tryd.prog 3 #[.int .i64 n, .slice a ts.length cap] w fun e w' => e = .returned (.bool true) ∧ Below w.heap.size w w' := by
  go_enter Tryd.func3, Tryd.ntmps3
  go_wp2_with fail
  refine (cSzSpans a ts.length cap 1048576 _ (by omega) (by omega) hm).mono ?_
  rintro e w0 ⟨r, rfl, hr, hw⟩
  subst w0
  rcases hr with rfl | ⟨rfl, hr⟩
  · go_wp2
    go_ret
    exact ⟨rfl, Below.refl _ _⟩
  have hl : ts.length ≤ 1048576 := by omega
  have hr' : ¬ (1048576 - (ts.length : Int) < 0) := by omega
  clear hm hr
  go_wp2_with fail
  refine (cToSpans a cap ts _ he hl).mono ?_
  rintro e w1_ ⟨g1, rfl, o1, hg1, hb⟩
  clear hg1
  have HB1 := btrans (Below.refl _ _) hb
  clear hb 
  go_wp2_with fail
  refine (cTrainsS _ _ n ts _ (Spans.of_owns o1) hl).mono ?_
  rintro e w2_ ⟨rfl, hb⟩
  clear o1
  have HB2 := btrans HB1 hb
  clear hb HB1
  generalize hr : trainsOk n ts = r
  replace hr := hide hr
  go_wp2_with fail
  refine (cToSpans a cap ts _ (he.below HB2) hl).mono ?_
  rintro e w3_ ⟨g2, rfl, o2, hg1, hb⟩
  clear hg1
  have HB3 := btrans HB2 hb
  clear hb HB2
  go_wp2_with fail
  refine (cTrainsI _ _ n ts _ (Spans.of_owns o2) (fun h => by cases h) (fun x h => by cases h; rfl) hl (hg.below HB3)).mono ?_
  rintro e w4_ ⟨rfl, hb⟩
  have HB4 := btrans HB3 hb
  have o2_4 := own_keep o2 hb
  clear hb HB3 o2
  rw [hr.out]
  go_wp2_with fail
  refine (cToSpans a cap ts _ (he.below HB4) hl).mono ?_
  rintro e w5_ ⟨g3, rfl, o3, hg1, hb⟩
  clear hg1
  have HB5 := btrans HB4 hb
  have o2_5 := own_keep o2_4 hb
  clear hb HB4 o2_4
  go_wp2_with fail
  refine (cEqSpans _ _ _ _ ts _ (Spans.of_owns o2_5) (Spans.of_owns o3) hl).mono ?_
  rintro e w6_ ⟨rfl, hb⟩
  have HB6 := btrans HB5 hb
  have o2_6 := own_keep o2_5 hb
  clear hb HB5 o2_5
  go_wp2
  go_ret
  exact ⟨rfl, HB6⟩
end Go.Proofs.YtnbfkkmjehhihaaDoor
