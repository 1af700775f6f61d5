/- The walk of the law on Pull. -/
import Derived.Test.YtcadgafenbmihaaK
namespace Go.Proofs.Ytcadgafenbmihaa
open Go.RowKit Fl

attribute [local go_sem] run_store_float

set_option maxHeartbeats 3200000 in
theorem walk10 (l : LocoV) (a : Option Addr) (cap : Nat) (es : List CarV) (v : Nat) (sl : Nat) (sp : Nat) (w : World) (he : Cars w a es) (hm : es.length ≤ maxLen) (h64 : ∀ c ∈ es, c.m < 2 ^ 64) :
    Calls Try.prog 10 #[LocoV.val l, .slice a es.length cap, .float .f64 v, .float .f64 sl, .float .f64 sp] w fun e w' => e = .returned (.bool true) ∧ Below w.heap.size w w' := by
  have CS := fun a cap w hz hl => c35 l a cap v sl sp es w hz hl h64
  have CI := fun a cap w hz hl => c36 l a cap v sl sp es w hz hl
  obtain ⟨p, g⟩ := l
  unfold LocoV.val at *
  go_enter Try.func10, Try.ntmps10
  go_wp2_with fail
  refine (c28 a es.length cap 1048576 _ (by omega) (by omega) hm).mono ?_
  rintro e w1 ⟨r, rfl, hr, rfl⟩
  rcases hr with rfl | ⟨rfl, hr⟩
  · go_wp2
    go_ret
    exact ⟨rfl, balloc _ _⟩
  have hl : es.length ≤ 1048576 := by omega
  have hr' : ¬ (1048576 - (es.length : Int) < 0) := by omega
  clear hm hr
  go_wp2_with fail
  refine (c21 ⟨p, g⟩ _).mono ?_
  rintro e w2 ⟨rfl, hb⟩
  have HB2 := btrans (balloc w (.cells #[.float .f64 p, .float .f64 g] 31)) hb
  have X2 := Bx2.mk hb
  clear hb
  go_wp2_with fail
  refine (c30 a cap es _ (he.below HB2) hl).mono ?_
  rintro e w3 ⟨g1, rfl, oz, hg, hb⟩
  clear hg
  have HB3 := btrans HB2 hb
  have X3 := X2.below hb
  clear hb HB2 X2
  unfold LocoV.val
  go_wp2_with fail
  refine (CS _ _ _ (Cars.of_owns oz) hl).mono ?_
  rintro e w4 ⟨rfl, hb⟩
  have HB4 := btrans HB3 hb
  have X4 := X3.below hb
  clear hb HB3 X3 oz CS
  go_wp2_with fail
  refine (c30 a cap es _ (he.below HB4) hl).mono ?_
  rintro e w5 ⟨g2, rfl, ox, hg, hb⟩
  clear hg
  have HB5 := btrans HB4 hb
  have X5 := X4.below hb
  clear hb HB4 X4
  obtain ⟨b0, b1⟩ := id X5
  dsimp only at b0 b1
  go_wp2_with fail
  clear b0 b1
  refine (c21 ⟨p, g⟩ _).mono ?_
  rintro e w6 ⟨rfl, hb⟩
  have HB6 := btrans HB5 hb
  have ox6 := owns_below ox hb
  clear hb HB5 ox X5
  unfold LocoV.val
  go_wp2_with fail
  refine (CI _ _ _ (Cars.of_owns ox6) hl).mono ?_
  rintro e w7 ⟨rfl, hb⟩
  have HB7 := btrans HB6 hb
  have ox7 := owns_below ox6 hb
  clear hb HB6 ox6 CI
  go_wp2_with fail
  refine (c25 _ _).mono ?_
  rintro e w8 ⟨rfl, hw⟩
  subst hw
  go_wp2_with fail
  refine (c30 a cap es _ (he.below HB7) hl).mono ?_
  rintro e w9 ⟨g3, rfl, oy, hg, hb⟩
  clear hg
  have HB9 := btrans HB7 hb
  have ox9 := owns_below ox7 hb
  clear hb HB7 ox7
  go_wp2_with fail
  refine (c32 _ _ _ _ es _ (Cars.of_owns ox9) (Cars.of_owns oy) hl).mono ?_
  rintro e w10 ⟨rfl, hb⟩
  have HB10 := btrans HB9 hb
  clear hb HB9
  go_wp2
  go_ret
  exact ⟨rfl, HB10⟩

end Go.Proofs.Ytcadgafenbmihaa
