/- The law of Fed. -/
import Derived.Test.YtapnidhokpkmdaaZI
namespace Go.Proofs.Ytapnidhokpkmdaa
open Go.RowKit Fl
set_option maxRecDepth 20000 in
set_option maxHeartbeats 12800000 in
theorem walkFed (va : Option Addr) (vc : Nat) (vs : List ZV) (l : Nat) (w : World) (hv : Zs w va vs) (nv : vs.length ≤ maxLen) :
    Calls Try.prog 14 #[.slice va vs.length vc, .float .f64 l] w fun e w' => e = .returned (.bool true) ∧ Below w.heap.size w w' := by
  have HB := Below.refl w.heap.size w
  go_enter Try.func14, Try.ntmps14
  go_wp2_with fail
  refine (cSzZs va _ vc 1048576 _ (by omega) (by omega) nv).mono ?_
  rintro e w1 ⟨r1, rfl, hr, hw⟩
  subst w1
  rcases hr with rfl | ⟨hr, hr0⟩
  · go_wp2
    go_ret
    exact ⟨rfl, HB⟩
  have lv : vs.length ≤ 1048576 := by omega
  have hr51 : ¬ r1 < 0 := by omega
  have hr61 : r1 ≤ 1048576 := by omega
  have hr71 := hr0
  clear hr hr0
  go_wp2_with fail
  refine (cToZs va vc vs _ (hv.below HB) lv).mono ?_
  rintro e w2 ⟨gv0, rfl, Ov0, hgv0, hb⟩
  clear hgv0
  replace HB := btrans HB hb
  clear hb
  go_wp2_with fail
  refine (cFedS _ _ vs l _ (Zs.of_owns Ov0) (by unfold maxLen; omega)).mono ?_
  rintro e w3 ⟨rfl, hb⟩
  clear Ov0
  replace HB := btrans HB hb
  clear hb
  go_wp2_with fail
  refine (cToZs va vc vs _ (hv.below HB) lv).mono ?_
  rintro e w4 ⟨gv1, rfl, Ov1, hgv1, hb⟩
  clear hgv1
  replace HB := btrans HB hb
  clear hb
  go_wp2_with fail
  refine (cFedI _ _ vs l _ (Zs.of_owns Ov1) (by unfold maxLen; omega)).mono ?_
  rintro e w5 ⟨rfl, hb⟩
  replace HB := btrans HB hb
  replace Ov1 := own_keep Ov1 hb
  clear hb
  go_wp2_with fail
  refine (cToZs va vc vs _ (hv.below HB) lv).mono ?_
  rintro e w6 ⟨g5, rfl, O5, hg5, hb⟩
  clear hg5
  replace HB := btrans HB hb
  replace Ov1 := own_keep Ov1 hb
  clear hb
  go_wp2_with fail
  refine (cEqZs _ _ _ _ vs vs _ (Zs.of_owns Ov1) (Zs.of_owns O5) lv rfl).mono ?_
  rintro e w7 ⟨rfl, hb⟩
  clear O5
  replace HB := btrans HB hb
  replace Ov1 := own_keep Ov1 hb
  clear hb
  go_wp2
  go_ret
  exact ⟨rfl, HB⟩

end Go.Proofs.Ytapnidhokpkmdaa
