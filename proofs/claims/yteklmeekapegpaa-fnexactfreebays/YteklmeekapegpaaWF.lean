/- The walk of the law on FreeBays. -/
import Derived.Test.YteklmeekapegpaaFB
namespace Go.Proofs.Yteklmeekapegpaa
open Go.RowKit
theorem FreeIs_le {zs : List Int} {ss : List StayV} {g : Int} {ls : List Int} {M : Int} {L : List Int} (h : FreeIs zs ss g ls M L) : L.length ≤ 60 := by
  rcases h with ⟨_, rfl⟩ | ⟨h1, rfl⟩
  · simp
  · have hq := h1.ok
    simp only [assignOk, Bool.and_eq_true] at hq
    have h2 := (bays_len hq.1).2
    have h3 := freeL_len ss g ls M zs.length
    simp only [intsOf, List.length_map]; omega
theorem ansFree {zs : List Int} {ss : List StayV} {g : Int} {ls : List Int} {M : Int} {L : List Int} (hL : FreeIs zs ss g ls M L) {P : Program} {f : FuncId} {args : Array Value} {w : World} (h : Calls P f args w fun e w' => ∃ ls', FreeIs zs ss g ls M ls' ∧ AnsList w w' e ls') : Calls P f args w fun e w' => ∃ v, e = .returned v ∧ w'.ownsRow w.heap.size 3 1 v L.length (L.map (Value.int .i64)) ∧ Below w.heap.size w w' :=
  h.mono (fun e w' ⟨ls', h1, ⟨v, h2, h3⟩, h4⟩ => by obtain rfl := FreeIs.unique h1 hL; exact ⟨v, h2, h3, h4⟩)

set_option maxHeartbeats 6400000 in
theorem walkFree (a0 : Option Addr) (c0 : Nat) (z0 : List Int) (a1 : Option Addr) (c1 : Nat) (z1 : List StayV) (g2 : Int) (a3 : Option Addr) (c3 : Nat) (z3 : List Int) (g4 : Int) (w : World) (hz0 : Ints w a0 z0) (hm0 : z0.length ≤ maxLen) (hz1 : Stays w a1 z1) (hm1 : z1.length ≤ maxLen) (hz3 : Ints w a3 z3) (hm3 : z3.length ≤ maxLen) :
    Calls Try.prog 10 #[.slice a0 z0.length c0, .slice a1 z1.length c1, .int .i64 g2, .slice a3 z3.length c3, .int .i64 g4] w fun e w' => e = .returned (.bool true) ∧ Below w.heap.size w w' := by
  have hm0' := hm0
  unfold maxLen at hm0'
  by_cases hh0 : 1048576 < z0.length
  · have hh0' : (1048576 : Int) < (z0.length : Int) := by omega
    go_enter Try.func10, Try.ntmps10
    go_wp2
    go_ret
    exact ⟨rfl, Below.refl _ _⟩
  have hh0' : ¬ ((1048576 : Int) < (z0.length : Int)) := by omega
  have hl0 : z0.length ≤ 1048576 := by omega
  have hm3' := hm3
  unfold maxLen at hm3'
  by_cases hh3 : 1048576 < z3.length
  · have hh3' : (1048576 : Int) < (z3.length : Int) := by omega
    go_enter Try.func10, Try.ntmps10
    go_wp2
    go_ret
    exact ⟨rfl, Below.refl _ _⟩
  have hh3' : ¬ ((1048576 : Int) < (z3.length : Int)) := by omega
  have hl3 : z3.length ≤ 1048576 := by omega
  go_enter Try.func10, Try.ntmps10
  go_wp2_with fail
  refine (cSzStays a1 z1.length c1 1048576 _ (by omega) (by omega) hm1).mono ?_
  rintro e w0 ⟨r, rfl, hr, hw⟩
  subst w0
  rcases hr with rfl | ⟨rfl, hr⟩
  · go_wp2
    go_ret
    exact ⟨rfl, Below.refl _ _⟩
  have hl1 : z1.length ≤ 1048576 := by omega
  have hr' : ¬ (1048576 - (z1.length : Int) < 0) := by omega
  clear hm1 hr
  go_wp2_with fail
  refine (cToInts a0 c0 z0 _ (hz0.below (Below.refl _ _)) hl0).mono ?_
  rintro e w1_ ⟨gqp0, rfl, p0, hgq, hb⟩
  clear hgq
  have HB1 := btrans (Below.refl _ _) hb
  clear hb 
  go_wp2_with fail
  refine (cToStays a1 c1 z1 _ (hz1.below HB1) hl1).mono ?_
  rintro e w2_ ⟨gqp1, rfl, p1, hgq, hb⟩
  clear hgq
  have HB2 := btrans HB1 hb
  have p0_2 := own_keep p0 hb
  clear hb HB1 p0
  go_wp2_with fail
  refine (cToInts a3 c3 z3 _ (hz3.below HB2) hl3).mono ?_
  rintro e w3_ ⟨gqp3, rfl, p3, hgq, hb⟩
  clear hgq
  have HB3 := btrans HB2 hb
  have p0_3 := own_keep p0_2 hb
  have p1_3 := own_keep p1 hb
  clear hb HB2 p0_2 p1
  go_wp2_with fail
  refine (cFreeS _ _ z0 _ _ z1 g2 _ _ z3 g4 _ (Ints.of_owns p0_3) hl0 (Stays.of_owns p1_3) hl1 (Ints.of_owns p3)).mono ?_
  rintro e w4_ ⟨L, hL, ⟨v0, rfl, o0⟩, hb⟩
  have HB4 := btrans HB3 hb
  have p0_4 := own_keep p0_3 hb
  have p1_4 := own_keep p1_3 hb
  have p3_4 := own_keep p3 hb
  clear hb HB3 p0_3 p1_3 p3
  clear p0_4 p1_4 p3_4
  have hN : L.length ≤ 60 := FreeIs_le hL
  have hLn : L.length = L.length := rfl
  generalize hNN : L.length = N at *
  replace hLn := hNN
  clear hNN
  have hNm : N ≤ maxLen := by unfold maxLen; omega
  have hN6 : N ≤ 1048576 := by omega
  have L0 := own_blk_lt o0
  go_wp2_with fail
  refine (cToInts a0 c0 z0 _ (hz0.below HB4) hl0).mono ?_
  rintro e w5_ ⟨g0x, rfl, x0, hgx, hb⟩
  have L0 : ∀ k, v0.ownBlock = some k → k < g0x := fun k hk => by rw [hgx]; exact L0 k hk
  have hwg : w.heap.size ≤ g0x := by rw [hgx]; exact HB4.size
  clear hgx
  have HB5 := btrans HB4 hb
  have o0_5 := own_keep o0 hb
  clear hb HB4 o0
  have hgl := owns_lt x0
  go_wp2_with fail
  refine (cToStays a1 c1 z1 _ (hz1.below HB5) hl1).mono ?_
  rintro e w6_ ⟨g1x, rfl, x1, hgx, hb⟩
  have hg1 : g0x < g1x := by rw [hgx]; exact hgl
  clear hgx hgl
  have HB6 := btrans HB5 hb
  have o0_6 := own_keep o0_5 hb
  have x0_6 := own_keep x0 hb
  clear hb HB5 o0_5 x0
  have hgl := owns_lt x1
  go_wp2_with fail
  refine (cToInts a3 c3 z3 _ (hz3.below HB6) hl3).mono ?_
  rintro e w7_ ⟨g3x, rfl, x3, hgx, hb⟩
  have hg3 : g1x < g3x := by rw [hgx]; exact hgl
  clear hgx hgl
  have HB7 := btrans HB6 hb
  have o0_7 := own_keep o0_6 hb
  have x0_7 := own_keep x0_6 hb
  have x1_7 := own_keep x1 hb
  clear hb HB6 o0_6 x0_6 x1
  have hgl := owns_lt x3
  go_wp2_with fail
  refine (ansFree hL (cFreeI _ _ z0 _ _ z1 g2 _ _ z3 g4 _ (Ints.of_owns x0_7) hl0 (Stays.of_owns x1_7) hl1 (Ints.of_owns x3))).mono ?_
  rintro e w8_ ⟨v1, rfl, o1, hb⟩
  have L1 : ∀ k, v1.ownBlock = some k → g3x < k := fun k hk => by have := own_from o1 (Nat.le_refl _) k hk; omega
  clear hgl
  have HB8 := btrans HB7 hb
  have o0_8 := own_keep o0_7 hb
  have x0_8 := own_keep x0_7 hb
  have x1_8 := own_keep x1_7 hb
  have x3_8 := own_keep x3 hb
  clear hb HB7 o0_7 x0_7 x1_7 x3
  rw [hLn] at o1
  go_wp2_with fail
  refine (cEqIntsn _ _ N _ _ L _ hLn o1 o0_8 hNm).mono ?_
  rintro e w9_ ⟨rfl, hb⟩
  have HB9 := btrans HB8 hb
  have o0_9 := own_keep o0_8 hb
  have x0_9 := own_keep x0_8 hb
  have x1_9 := own_keep x1_8 hb
  have x3_9 := own_keep x3_8 hb
  have o1_9 := own_keep o1 hb
  clear hb HB8 o0_8 x0_8 x1_8 x3_8 o1
  go_wp2_with fail
  refine (cToInts a0 c0 z0 _ (hz0.below HB9) hl0).mono ?_
  rintro e w10_ ⟨gqy0, rfl, y0, hgq, hb⟩
  clear hgq
  have HB10 := btrans HB9 hb
  have o0_10 := own_keep o0_9 hb
  have x0_10 := own_keep x0_9 hb
  have x1_10 := own_keep x1_9 hb
  have x3_10 := own_keep x3_9 hb
  have o1_10 := own_keep o1_9 hb
  clear hb HB9 o0_9 x0_9 x1_9 x3_9 o1_9
  go_wp2_with fail
  refine (cEqInts _ _ _ _ z0 _ (Ints.of_owns x0_10) (Ints.of_owns y0) hm0).mono ?_
  rintro e w11_ ⟨rfl, hb⟩
  have HB11 := btrans HB10 hb
  have o0_11 := own_keep o0_10 hb
  have x0_11 := own_keep x0_10 hb
  have x1_11 := own_keep x1_10 hb
  have x3_11 := own_keep x3_10 hb
  have o1_11 := own_keep o1_10 hb
  have y0_11 := own_keep y0 hb
  clear hb HB10 o0_10 x0_10 x1_10 x3_10 o1_10 y0
  clear y0_11
  go_wp2_with fail
  refine (cToStays a1 c1 z1 _ (hz1.below HB11) hl1).mono ?_
  rintro e w12_ ⟨gqy1, rfl, y1, hgq, hb⟩
  clear hgq
  have HB12 := btrans HB11 hb
  have o0_12 := own_keep o0_11 hb
  have x0_12 := own_keep x0_11 hb
  have x1_12 := own_keep x1_11 hb
  have x3_12 := own_keep x3_11 hb
  have o1_12 := own_keep o1_11 hb
  clear hb HB11 o0_11 x0_11 x1_11 x3_11 o1_11
  go_wp2_with fail
  refine (cEqStays _ _ _ _ z1 _ (Stays.of_owns x1_12) (Stays.of_owns y1) hl1).mono ?_
  rintro e w13_ ⟨rfl, hb⟩
  have HB13 := btrans HB12 hb
  have o0_13 := own_keep o0_12 hb
  have x0_13 := own_keep x0_12 hb
  have x1_13 := own_keep x1_12 hb
  have x3_13 := own_keep x3_12 hb
  have o1_13 := own_keep o1_12 hb
  have y1_13 := own_keep y1 hb
  clear hb HB12 o0_12 x0_12 x1_12 x3_12 o1_12 y1
  clear y1_13
  go_wp2_with fail
  refine (cToInts a3 c3 z3 _ (hz3.below HB13) hl3).mono ?_
  rintro e w14_ ⟨gqy3, rfl, y3, hgq, hb⟩
  clear hgq
  have HB14 := btrans HB13 hb
  have o0_14 := own_keep o0_13 hb
  have x0_14 := own_keep x0_13 hb
  have x1_14 := own_keep x1_13 hb
  have x3_14 := own_keep x3_13 hb
  have o1_14 := own_keep o1_13 hb
  clear hb HB13 o0_13 x0_13 x1_13 x3_13 o1_13
  go_wp2_with fail
  refine (cEqInts _ _ _ _ z3 _ (Ints.of_owns x3_14) (Ints.of_owns y3) hm3).mono ?_
  rintro e w15_ ⟨rfl, hb⟩
  have HB15 := btrans HB14 hb
  have o0_15 := own_keep o0_14 hb
  have x0_15 := own_keep x0_14 hb
  have x1_15 := own_keep x1_14 hb
  have x3_15 := own_keep x3_14 hb
  have o1_15 := own_keep o1_14 hb
  have y3_15 := own_keep y3 hb
  clear hb HB14 o0_14 x0_14 x1_14 x3_14 o1_14 y3
  clear y3_15
  go_wp2_with fail
  refine (cMarkInts _ z0.length _ z0 (1) _ rfl x0_15 hl0 (by omega) (by omega)).mono ?_
  rintro e w16_ ⟨rfl, -, hgr⟩
  replace hgr : World.grownBy _ _ (some g0x) := hgr
  have HB16 : Below w.heap.size w w16_ := HB15.grown hgr HB15.size (fun k hk => by cases hk; omega)
  have o0_16 := own_far o0_15 hgr (fun k hk h => by have := L0 k hk; cases h; omega)
  have x1_16 := own_far x1_15 hgr (fun k hk h => by simp [Value.ownBlock] at hk; cases h; omega)
  have x3_16 := own_far x3_15 hgr (fun k hk h => by simp [Value.ownBlock] at hk; cases h; omega)
  have o1_16 := own_far o1_15 hgr (fun k hk h => by have := L1 k hk; cases h; omega)
  clear hgr HB15 o0_15 x0_15 x1_15 x3_15 o1_15
  go_wp2_with fail
  refine (cMarkStaysg _ g1x _ z1 (1 + (z0.length : Int)) _ x1_16 hl1 (by omega) (by omega)).mono ?_
  rintro e w17_ ⟨rfl, -, hgr⟩
  have HB17 : Below w.heap.size w w17_ := HB16.grown hgr HB16.size (fun k hk => by cases hk; omega)
  have o0_17 := own_far o0_16 hgr (fun k hk h => by have := L0 k hk; cases h; omega)
  have x3_17 := own_far x3_16 hgr (fun k hk h => by simp [Value.ownBlock] at hk; cases h; omega)
  have o1_17 := own_far o1_16 hgr (fun k hk h => by have := L1 k hk; cases h; omega)
  clear hgr HB16 o0_16 x1_16 x3_16 o1_16
  go_wp2_with fail
  refine (cMarkInts _ z3.length _ z3 (1 + (z0.length : Int) + 3 * (z1.length : Int)) _ rfl x3_17 hl3 (by omega) (by omega)).mono ?_
  rintro e w18_ ⟨rfl, -, hgr⟩
  replace hgr : World.grownBy _ _ (some g3x) := hgr
  have HB18 : Below w.heap.size w w18_ := HB17.grown hgr HB17.size (fun k hk => by cases hk; omega)
  have o0_18 := own_far o0_17 hgr (fun k hk h => by have := L0 k hk; cases h; omega)
  have o1_18 := own_far o1_17 hgr (fun k hk h => by have := L1 k hk; cases h; omega)
  clear hgr HB17 o0_17 x3_17 o1_17
  have hpos : ¬ (1 + (z0.length : Int) + 3 * (z1.length : Int) + (z3.length : Int) < 0) := by omega
  go_wp2_with fail
  refine (cEqIntsn _ _ N _ _ L _ hLn o1_18 o0_18 hNm).mono ?_
  rintro e w19_ ⟨rfl, hb⟩
  have HB19 := btrans HB18 hb
  have o0_19 := own_keep o0_18 hb
  have o1_19 := own_keep o1_18 hb
  clear hb HB18 o0_18 o1_18
  go_wp2_with fail
  refine (cMarkInts _ N _ L 1 _ hLn o1_19 hN6 (by omega) (by omega)).mono ?_
  rintro e w20_ ⟨rfl, om, hgr⟩
  have HB20 : Below w.heap.size w w20_ := HB19.grown hgr HB19.size (fun k hk => by have := L1 k hk; omega)
  have o0_20 := own_far o0_19 hgr (fun k hk h => by have := L0 k hk; have := L1 k h.symm; omega)
  clear hgr HB19 o0_19 o1_19
  go_wp2_with fail
  refine (cHeldInts _ N _ 1 _ om hN6 (by omega) (by omega)).mono ?_
  rintro e w21_ ⟨rfl, hw⟩
  subst w21_
  have hpos2 : ¬ (1 + (N : Int) < 0) := by omega
  go_wp2_with fail
  refine (cToInts a0 c0 z0 _ (hz0.below HB20) hl0).mono ?_
  rintro e w22_ ⟨gqq0, rfl, q0, hgq, hb⟩
  clear hgq
  have HB22 := btrans HB20 hb
  have o0_22 := own_keep o0_20 hb
  have om_22 := own_keep om hb
  clear hb HB20 o0_20 om
  go_wp2_with fail
  refine (cToStays a1 c1 z1 _ (hz1.below HB22) hl1).mono ?_
  rintro e w23_ ⟨gqq1, rfl, q1, hgq, hb⟩
  clear hgq
  have HB23 := btrans HB22 hb
  have o0_23 := own_keep o0_22 hb
  have om_23 := own_keep om_22 hb
  have q0_23 := own_keep q0 hb
  clear hb HB22 o0_22 om_22 q0
  go_wp2_with fail
  refine (cToInts a3 c3 z3 _ (hz3.below HB23) hl3).mono ?_
  rintro e w24_ ⟨gqq3, rfl, q3, hgq, hb⟩
  clear hgq
  have HB24 := btrans HB23 hb
  have o0_24 := own_keep o0_23 hb
  have om_24 := own_keep om_23 hb
  have q0_24 := own_keep q0_23 hb
  have q1_24 := own_keep q1 hb
  clear hb HB23 o0_23 om_23 q0_23 q1
  go_wp2_with fail
  refine (ansFree hL (cFreeI _ _ z0 _ _ z1 g2 _ _ z3 g4 _ (Ints.of_owns q0_24) hl0 (Stays.of_owns q1_24) hl1 (Ints.of_owns q3))).mono ?_
  rintro e w25_ ⟨v2, rfl, o2, hb⟩
  rw [hLn] at o2
  have HB25 := btrans HB24 hb
  have o0_25 := own_keep o0_24 hb
  have om_25 := own_keep om_24 hb
  have q0_25 := own_keep q0_24 hb
  have q1_25 := own_keep q1_24 hb
  have q3_25 := own_keep q3 hb
  clear hb HB24 o0_24 om_24 q0_24 q1_24 q3
  clear q0_25 q1_25 q3_25
  go_wp2_with fail
  refine (cEqIntsn _ _ N _ _ L _ hLn o2 o0_25 hNm).mono ?_
  rintro e w26_ ⟨rfl, hb⟩
  have HB26 := btrans HB25 hb
  have o0_26 := own_keep o0_25 hb
  have om_26 := own_keep om_25 hb
  clear hb HB25 o0_25 om_25
  go_wp2_with fail
  refine (cHeldInts _ N _ 1 _ om_26 hN6 (by omega) (by omega)).mono ?_
  rintro e w27_ ⟨rfl, hw⟩
  subst w27_
  go_wp2
  go_ret
  exact ⟨rfl, HB26⟩
end Go.Proofs.Yteklmeekapegpaa
