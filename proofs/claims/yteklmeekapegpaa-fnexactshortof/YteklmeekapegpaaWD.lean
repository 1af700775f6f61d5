/- The walk of the law on ShortOf. -/
import Derived.Test.YteklmeekapegpaaSH
namespace Go.Proofs.Yteklmeekapegpaa
open Go.RowKit
theorem shortOf {zs : List Int} {ss : List StayV} {g : Int} {L : List Int} {r : Int} (hL : IsList zs ss g L) (hR : ShortAns ss L r) {P : Program} {f : FuncId} {args : Array Value} {w : World} (h : Calls P f args w (ShortPost zs ss g w)) : Calls P f args w fun e w' => e = .returned (.int .i64 r) ∧ Below w.heap.size w w' :=
  h.mono (fun e w' ⟨⟨ls, r', h1, h2, h3⟩, h4⟩ => by obtain rfl := IsList.unique h1 hL; obtain rfl := ShortAns.unique h2 hR; exact ⟨h3, h4⟩)

set_option maxHeartbeats 1600000 in
theorem walkShort (a0 : Option Addr) (c0 : Nat) (z0 : List Int) (a1 : Option Addr) (c1 : Nat) (z1 : List StayV) (g2 : Int) (w : World) (hz0 : Ints w a0 z0) (hm0 : z0.length ≤ maxLen) (hz1 : Stays w a1 z1) (hm1 : z1.length ≤ maxLen) :
    Calls Try.prog 11 #[.slice a0 z0.length c0, .slice a1 z1.length c1, .int .i64 g2] w fun e w' => e = .returned (.bool true) ∧ Below w.heap.size w w' := by
  have hm0' := hm0
  unfold maxLen at hm0'
  by_cases hh0 : 1048576 < z0.length
  · have hh0' : (1048576 : Int) < (z0.length : Int) := by omega
    go_enter Try.func11, Try.ntmps11
    go_wp2
    go_ret
    exact ⟨rfl, Below.refl _ _⟩
  have hh0' : ¬ ((1048576 : Int) < (z0.length : Int)) := by omega
  have hl0 : z0.length ≤ 1048576 := by omega
  go_enter Try.func11, Try.ntmps11
  go_wp2_with fail
  refine (cSzStays a1 z1.length c1 1048576 _ (by omega) (by omega) hm1).mono ?_
  rintro e w0 ⟨r, rfl, hr, hw⟩
  subst w0
  rcases hr with rfl | ⟨rfl, hr⟩
  · go_wp2
    go_ret
    exact ⟨rfl, Below.refl _ _⟩
  have hl1 : z1.length ≤ 1048576 := by omega
  have hr' : ¬ (1048576 - (z1.length : Int) < 0) := by omega
  clear hm1 hr
  go_wp2_with fail
  refine (cToInts a0 c0 z0 _ (hz0.below (Below.refl _ _)) hl0).mono ?_
  rintro e w1_ ⟨gqp0, rfl, p0, hgq, hb⟩
  clear hgq
  have HB1 := btrans (Below.refl _ _) hb
  clear hb 
  go_wp2_with fail
  refine (cToStays a1 c1 z1 _ (hz1.below HB1) hl1).mono ?_
  rintro e w2_ ⟨gqp1, rfl, p1, hgq, hb⟩
  clear hgq
  have HB2 := btrans HB1 hb
  have p0_2 := own_keep p0 hb
  clear hb HB1 p0
  go_wp2_with fail
  refine (cShortS _ _ z0 _ _ z1 g2 _ (Ints.of_owns p0_2) hl0 (Stays.of_owns p1) hl1).mono ?_
  rintro e w3_ ⟨⟨L, r, hL, hR, rfl⟩, hb⟩
  have HB3 := btrans HB2 hb
  have p0_3 := own_keep p0_2 hb
  have p1_3 := own_keep p1 hb
  clear hb HB2 p0_2 p1
  clear p0_3 p1_3
  go_wp2_with fail
  refine (cToInts a0 c0 z0 _ (hz0.below HB3) hl0).mono ?_
  rintro e w4_ ⟨gqx0, rfl, x0, hgq, hb⟩
  clear hgq
  have HB4 := btrans HB3 hb
  clear hb HB3
  go_wp2_with fail
  refine (cToStays a1 c1 z1 _ (hz1.below HB4) hl1).mono ?_
  rintro e w5_ ⟨gqx1, rfl, x1, hgq, hb⟩
  clear hgq
  have HB5 := btrans HB4 hb
  have x0_5 := own_keep x0 hb
  clear hb HB4 x0
  go_wp2_with fail
  refine (shortOf hL hR (cShortI _ _ z0 _ _ z1 g2 _ (Ints.of_owns x0_5) hl0 (Stays.of_owns x1) hl1)).mono ?_
  rintro e w6_ ⟨rfl, hb⟩
  have HB6 := btrans HB5 hb
  have x0_6 := own_keep x0_5 hb
  have x1_6 := own_keep x1 hb
  clear hb HB5 x0_5 x1
  go_wp2_with fail
  refine (cToInts a0 c0 z0 _ (hz0.below HB6) hl0).mono ?_
  rintro e w7_ ⟨gqy0, rfl, y0, hgq, hb⟩
  clear hgq
  have HB7 := btrans HB6 hb
  have x0_7 := own_keep x0_6 hb
  have x1_7 := own_keep x1_6 hb
  clear hb HB6 x0_6 x1_6
  go_wp2_with fail
  refine (cEqInts _ _ _ _ z0 _ (Ints.of_owns x0_7) (Ints.of_owns y0) hm0).mono ?_
  rintro e w8_ ⟨rfl, hb⟩
  have HB8 := btrans HB7 hb
  have x0_8 := own_keep x0_7 hb
  have x1_8 := own_keep x1_7 hb
  have y0_8 := own_keep y0 hb
  clear hb HB7 x0_7 x1_7 y0
  clear y0_8
  go_wp2_with fail
  refine (cToStays a1 c1 z1 _ (hz1.below HB8) hl1).mono ?_
  rintro e w9_ ⟨gqy1, rfl, y1, hgq, hb⟩
  clear hgq
  have HB9 := btrans HB8 hb
  have x0_9 := own_keep x0_8 hb
  have x1_9 := own_keep x1_8 hb
  clear hb HB8 x0_8 x1_8
  go_wp2_with fail
  refine (cEqStays _ _ _ _ z1 _ (Stays.of_owns x1_9) (Stays.of_owns y1) hl1).mono ?_
  rintro e w10_ ⟨rfl, hb⟩
  have HB10 := btrans HB9 hb
  have x0_10 := own_keep x0_9 hb
  have x1_10 := own_keep x1_9 hb
  have y1_10 := own_keep y1 hb
  clear hb HB9 x0_9 x1_9 y1
  clear y1_10
  go_wp2
  go_ret
  exact ⟨rfl, HB10⟩
end Go.Proofs.Yteklmeekapegpaa
