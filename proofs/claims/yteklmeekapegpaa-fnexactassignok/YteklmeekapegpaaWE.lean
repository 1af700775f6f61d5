/- The walk of the law on AssignOk. -/
import Derived.Test.YteklmeekapegpaaMO
namespace Go.Proofs.Yteklmeekapegpaa
open Go.RowKit
theorem okOf {zs : List Int} {ss : List StayV} {g : Int} {ls : List Int} {r : Bool} (hR : r = true ↔ AOk zs ss g ls) {P : Program} {f : FuncId} {args : Array Value} {w : World} (h : Calls P f args w (OkPost zs ss g ls w)) : Calls P f args w fun e w' => e = .returned (.bool r) ∧ Below w.heap.size w w' :=
  h.mono (fun e w' ⟨⟨r', h1, h2⟩, h3⟩ => by
    have : r' = r := by cases r <;> cases r' <;> simp_all
    subst this; exact ⟨h1, h3⟩)

set_option maxHeartbeats 1600000 in
theorem walkAssignOk (a0 : Option Addr) (c0 : Nat) (z0 : List Int) (a1 : Option Addr) (c1 : Nat) (z1 : List StayV) (g2 : Int) (a3 : Option Addr) (c3 : Nat) (z3 : List Int) (w : World) (hz0 : Ints w a0 z0) (hm0 : z0.length ≤ maxLen) (hz1 : Stays w a1 z1) (hm1 : z1.length ≤ maxLen) (hz3 : Ints w a3 z3) (hm3 : z3.length ≤ maxLen) :
    Calls Try.prog 9 #[.slice a0 z0.length c0, .slice a1 z1.length c1, .int .i64 g2, .slice a3 z3.length c3] w fun e w' => e = .returned (.bool true) ∧ Below w.heap.size w w' := by
  have hm0' := hm0
  unfold maxLen at hm0'
  by_cases hh0 : 1048576 < z0.length
  · have hh0' : (1048576 : Int) < (z0.length : Int) := by omega
    go_enter Try.func9, Try.ntmps9
    go_wp2
    go_ret
    exact ⟨rfl, Below.refl _ _⟩
  have hh0' : ¬ ((1048576 : Int) < (z0.length : Int)) := by omega
  have hl0 : z0.length ≤ 1048576 := by omega
  have hm3' := hm3
  unfold maxLen at hm3'
  by_cases hh3 : 1048576 < z3.length
  · have hh3' : (1048576 : Int) < (z3.length : Int) := by omega
    go_enter Try.func9, Try.ntmps9
    go_wp2
    go_ret
    exact ⟨rfl, Below.refl _ _⟩
  have hh3' : ¬ ((1048576 : Int) < (z3.length : Int)) := by omega
  have hl3 : z3.length ≤ 1048576 := by omega
  go_enter Try.func9, Try.ntmps9
  go_wp2_with fail
  refine (cSzStays a1 z1.length c1 1048576 _ (by omega) (by omega) hm1).mono ?_
  rintro e w0 ⟨r, rfl, hr, hw⟩
  subst w0
  rcases hr with rfl | ⟨rfl, hr⟩
  · go_wp2
    go_ret
    exact ⟨rfl, Below.refl _ _⟩
  have hl1 : z1.length ≤ 1048576 := by omega
  have hr' : ¬ (1048576 - (z1.length : Int) < 0) := by omega
  clear hm1 hr
  go_wp2_with fail
  refine (cToInts a0 c0 z0 _ (hz0.below (Below.refl _ _)) hl0).mono ?_
  rintro e w1_ ⟨gqp0, rfl, p0, hgq, hb⟩
  clear hgq
  have HB1 := btrans (Below.refl _ _) hb
  clear hb 
  go_wp2_with fail
  refine (cToStays a1 c1 z1 _ (hz1.below HB1) hl1).mono ?_
  rintro e w2_ ⟨gqp1, rfl, p1, hgq, hb⟩
  clear hgq
  have HB2 := btrans HB1 hb
  have p0_2 := own_keep p0 hb
  clear hb HB1 p0
  go_wp2_with fail
  refine (cToInts a3 c3 z3 _ (hz3.below HB2) hl3).mono ?_
  rintro e w3_ ⟨gqp3, rfl, p3, hgq, hb⟩
  clear hgq
  have HB3 := btrans HB2 hb
  have p0_3 := own_keep p0_2 hb
  have p1_3 := own_keep p1 hb
  clear hb HB2 p0_2 p1
  go_wp2_with fail
  refine (cAssignOkS _ _ z0 _ _ z1 g2 _ _ z3 _ (Ints.of_owns p0_3) hl0 (Stays.of_owns p1_3) hl1 (Ints.of_owns p3)).mono ?_
  rintro e w4_ ⟨⟨r, rfl, hR⟩, hb⟩
  have HB4 := btrans HB3 hb
  have p0_4 := own_keep p0_3 hb
  have p1_4 := own_keep p1_3 hb
  have p3_4 := own_keep p3 hb
  clear hb HB3 p0_3 p1_3 p3
  clear p0_4 p1_4 p3_4
  go_wp2_with fail
  refine (cToInts a0 c0 z0 _ (hz0.below HB4) hl0).mono ?_
  rintro e w5_ ⟨gqx0, rfl, x0, hgq, hb⟩
  clear hgq
  have HB5 := btrans HB4 hb
  clear hb HB4
  go_wp2_with fail
  refine (cToStays a1 c1 z1 _ (hz1.below HB5) hl1).mono ?_
  rintro e w6_ ⟨gqx1, rfl, x1, hgq, hb⟩
  clear hgq
  have HB6 := btrans HB5 hb
  have x0_6 := own_keep x0 hb
  clear hb HB5 x0
  go_wp2_with fail
  refine (cToInts a3 c3 z3 _ (hz3.below HB6) hl3).mono ?_
  rintro e w7_ ⟨gqx3, rfl, x3, hgq, hb⟩
  clear hgq
  have HB7 := btrans HB6 hb
  have x0_7 := own_keep x0_6 hb
  have x1_7 := own_keep x1 hb
  clear hb HB6 x0_6 x1
  go_wp2_with fail
  refine (okOf hR (cAssignOkI _ _ z0 _ _ z1 g2 _ _ z3 _ (Ints.of_owns x0_7) hl0 (Stays.of_owns x1_7) hl1 (Ints.of_owns x3))).mono ?_
  rintro e w8_ ⟨rfl, hb⟩
  have HB8 := btrans HB7 hb
  have x0_8 := own_keep x0_7 hb
  have x1_8 := own_keep x1_7 hb
  have x3_8 := own_keep x3 hb
  clear hb HB7 x0_7 x1_7 x3
  go_wp2_with fail
  refine (cToInts a0 c0 z0 _ (hz0.below HB8) hl0).mono ?_
  rintro e w9_ ⟨gqy0, rfl, y0, hgq, hb⟩
  clear hgq
  have HB9 := btrans HB8 hb
  have x0_9 := own_keep x0_8 hb
  have x1_9 := own_keep x1_8 hb
  have x3_9 := own_keep x3_8 hb
  clear hb HB8 x0_8 x1_8 x3_8
  go_wp2_with fail
  refine (cEqInts _ _ _ _ z0 _ (Ints.of_owns x0_9) (Ints.of_owns y0) hm0).mono ?_
  rintro e w10_ ⟨rfl, hb⟩
  have HB10 := btrans HB9 hb
  have x0_10 := own_keep x0_9 hb
  have x1_10 := own_keep x1_9 hb
  have x3_10 := own_keep x3_9 hb
  have y0_10 := own_keep y0 hb
  clear hb HB9 x0_9 x1_9 x3_9 y0
  clear y0_10
  go_wp2_with fail
  refine (cToStays a1 c1 z1 _ (hz1.below HB10) hl1).mono ?_
  rintro e w11_ ⟨gqy1, rfl, y1, hgq, hb⟩
  clear hgq
  have HB11 := btrans HB10 hb
  have x0_11 := own_keep x0_10 hb
  have x1_11 := own_keep x1_10 hb
  have x3_11 := own_keep x3_10 hb
  clear hb HB10 x0_10 x1_10 x3_10
  go_wp2_with fail
  refine (cEqStays _ _ _ _ z1 _ (Stays.of_owns x1_11) (Stays.of_owns y1) hl1).mono ?_
  rintro e w12_ ⟨rfl, hb⟩
  have HB12 := btrans HB11 hb
  have x0_12 := own_keep x0_11 hb
  have x1_12 := own_keep x1_11 hb
  have x3_12 := own_keep x3_11 hb
  have y1_12 := own_keep y1 hb
  clear hb HB11 x0_11 x1_11 x3_11 y1
  clear y1_12
  go_wp2_with fail
  refine (cToInts a3 c3 z3 _ (hz3.below HB12) hl3).mono ?_
  rintro e w13_ ⟨gqy3, rfl, y3, hgq, hb⟩
  clear hgq
  have HB13 := btrans HB12 hb
  have x0_13 := own_keep x0_12 hb
  have x1_13 := own_keep x1_12 hb
  have x3_13 := own_keep x3_12 hb
  clear hb HB12 x0_12 x1_12 x3_12
  go_wp2_with fail
  refine (cEqInts _ _ _ _ z3 _ (Ints.of_owns x3_13) (Ints.of_owns y3) hm3).mono ?_
  rintro e w14_ ⟨rfl, hb⟩
  have HB14 := btrans HB13 hb
  have x0_14 := own_keep x0_13 hb
  have x1_14 := own_keep x1_13 hb
  have x3_14 := own_keep x3_13 hb
  have y3_14 := own_keep y3 hb
  clear hb HB13 x0_13 x1_13 x3_13 y3
  clear y3_14
  go_wp2
  go_ret
  exact ⟨rfl, HB14⟩
end Go.Proofs.Yteklmeekapegpaa
