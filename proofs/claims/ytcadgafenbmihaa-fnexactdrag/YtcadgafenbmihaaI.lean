/- The walks of the laws on mass and drag. -/
import Derived.Test.YtcadgafenbmihaaH
namespace Go.Proofs.Ytcadgafenbmihaa
open Go.RowKit Fl

attribute [local go_sem] run_store_float

set_option maxHeartbeats 1600000 in
theorem walk8 (a : Option Addr) (cap : Nat) (es : List CarV) (w : World) (he : Cars w a es) (hm : es.length ≤ maxLen) (h64 : ∀ c ∈ es, c.m < 2 ^ 64) :
    Calls Try.prog 8 #[.slice a es.length cap] w fun e w' => e = .returned (.bool true) ∧ Below w.heap.size w w' := by
  go_enter Try.func8, Try.ntmps8
  go_wp2_with fail
  refine (c28 a es.length cap 1048576 _ (by omega) (by omega) hm).mono ?_
  rintro e w1 ⟨r, rfl, hr, rfl⟩
  rcases hr with rfl | ⟨rfl, hr⟩
  · go_wp2
    go_ret
    exact ⟨rfl, Below.refl _ _⟩
  have hl : es.length ≤ 1048576 := by omega
  have hr' : ¬ (1048576 - (es.length : Int) < 0) := by omega
  clear hm hr
  go_wp2_with fail
  refine (c30 a cap es _ he hl).mono ?_
  rintro e w2 ⟨g1, rfl, oz, hg, hb⟩
  clear hg
  have HB2 := hb
  clear hb
  go_wp2_with fail
  refine (c29 _ _ es _ (Cars.of_owns oz) hl h64).mono ?_
  rintro e w3 ⟨rfl, hb⟩
  have HB3 := btrans HB2 hb
  clear hb HB2 oz
  go_wp2_with fail
  refine (c30 a cap es _ (he.below HB3) hl).mono ?_
  rintro e w4 ⟨g2, rfl, ox, hg, hb⟩
  clear hg
  have HB4 := btrans HB3 hb
  clear hb HB3
  go_wp2_with fail
  refine (c31 _ _ es _ (Cars.of_owns ox) hl).mono ?_
  rintro e w5 ⟨rfl, hb⟩
  have HB5 := btrans HB4 hb
  have ox5 := owns_below ox hb
  clear hb HB4 ox
  go_wp2_with fail
  refine (c25 _ _).mono ?_
  rintro e w6 ⟨rfl, hw⟩
  subst hw
  go_wp2_with fail
  refine (c30 a cap es _ (he.below HB5) hl).mono ?_
  rintro e w7 ⟨g3, rfl, oy, hg, hb⟩
  clear hg
  have HB7 := btrans HB5 hb
  have ox7 := owns_below ox5 hb
  clear hb HB5 ox5
  go_wp2_with fail
  refine (c32 _ _ _ _ es _ (Cars.of_owns ox7) (Cars.of_owns oy) hl).mono ?_
  rintro e w8 ⟨rfl, hb⟩
  have HB8 := btrans HB7 hb
  clear hb HB7
  go_wp2
  go_ret
  exact ⟨rfl, HB8⟩

set_option maxHeartbeats 1600000 in
theorem walk9 (a : Option Addr) (cap : Nat) (es : List CarV) (v : Nat) (sl : Nat) (w : World) (he : Cars w a es) (hm : es.length ≤ maxLen) :
    Calls Try.prog 9 #[.slice a es.length cap, .float .f64 v, .float .f64 sl] w fun e w' => e = .returned (.bool true) ∧ Below w.heap.size w w' := by
  go_enter Try.func9, Try.ntmps9
  go_wp2_with fail
  refine (c28 a es.length cap 1048576 _ (by omega) (by omega) hm).mono ?_
  rintro e w1 ⟨r, rfl, hr, rfl⟩
  rcases hr with rfl | ⟨rfl, hr⟩
  · go_wp2
    go_ret
    exact ⟨rfl, Below.refl _ _⟩
  have hl : es.length ≤ 1048576 := by omega
  have hr' : ¬ (1048576 - (es.length : Int) < 0) := by omega
  clear hm hr
  go_wp2_with fail
  refine (c30 a cap es _ he hl).mono ?_
  rintro e w2 ⟨g1, rfl, oz, hg, hb⟩
  clear hg
  have HB2 := hb
  clear hb
  go_wp2_with fail
  refine (c33 _ _ es v sl _ (Cars.of_owns oz) hl).mono ?_
  rintro e w3 ⟨rfl, hb⟩
  have HB3 := btrans HB2 hb
  clear hb HB2 oz
  go_wp2_with fail
  refine (c30 a cap es _ (he.below HB3) hl).mono ?_
  rintro e w4 ⟨g2, rfl, ox, hg, hb⟩
  clear hg
  have HB4 := btrans HB3 hb
  clear hb HB3
  go_wp2_with fail
  refine (c34 _ _ es v sl _ (Cars.of_owns ox) hl).mono ?_
  rintro e w5 ⟨rfl, hb⟩
  have HB5 := btrans HB4 hb
  have ox5 := owns_below ox hb
  clear hb HB4 ox
  go_wp2_with fail
  refine (c25 _ _).mono ?_
  rintro e w6 ⟨rfl, hw⟩
  subst hw
  go_wp2_with fail
  refine (c30 a cap es _ (he.below HB5) hl).mono ?_
  rintro e w7 ⟨g3, rfl, oy, hg, hb⟩
  clear hg
  have HB7 := btrans HB5 hb
  have ox7 := owns_below ox5 hb
  clear hb HB5 ox5
  go_wp2_with fail
  refine (c32 _ _ _ _ es _ (Cars.of_owns ox7) (Cars.of_owns oy) hl).mono ?_
  rintro e w8 ⟨rfl, hb⟩
  have HB8 := btrans HB7 hb
  clear hb HB7
  go_wp2
  go_ret
  exact ⟨rfl, HB8⟩

end Go.Proofs.Ytcadgafenbmihaa
