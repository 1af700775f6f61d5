/- The walk of the law on Assign. -/
import Derived.Test.YteklmeekapegpaaSA
namespace Go.Proofs.Yteklmeekapegpaa
open Go.RowKit
theorem IsList_le {zs : List Int} {ss : List StayV} {g : Int} {L : List Int} (h : IsList zs ss g L) : L.length ≤ 60 := by
  rcases h with ⟨_, rfl⟩ | ⟨h1, h2, _⟩
  · simp
  · simp only [assignOk, Bool.and_eq_true] at h1
    rw [h2]; exact stays_len h1.2.1
theorem ansOf {zs : List Int} {ss : List StayV} {g : Int} {L : List Int} (hL : IsList zs ss g L) {P : Program} {f : FuncId} {args : Array Value} {w : World} (h : Calls P f args w fun e w' => ∃ ls, IsList zs ss g ls ∧ AnsList w w' e ls) : Calls P f args w fun e w' => ∃ v, e = .returned v ∧ w'.ownsRow w.heap.size 3 1 v L.length (L.map (Value.int .i64)) ∧ Below w.heap.size w w' :=
  h.mono (fun e w' ⟨ls, h1, ⟨v, h2, h3⟩, h4⟩ => by obtain rfl := IsList.unique h1 hL; exact ⟨v, h2, h3, h4⟩)

set_option maxHeartbeats 6400000 in
theorem walkAssign (a0 : Option Addr) (c0 : Nat) (z0 : List Int) (a1 : Option Addr) (c1 : Nat) (z1 : List StayV) (g2 : Int) (w : World) (hz0 : Ints w a0 z0) (hm0 : z0.length ≤ maxLen) (hz1 : Stays w a1 z1) (hm1 : z1.length ≤ maxLen) :
    Calls Try.prog 8 #[.slice a0 z0.length c0, .slice a1 z1.length c1, .int .i64 g2] w fun e w' => e = .returned (.bool true) ∧ Below w.heap.size w w' := by
  have hm0' := hm0
  unfold maxLen at hm0'
  by_cases hh0 : 1048576 < z0.length
  · have hh0' : (1048576 : Int) < (z0.length : Int) := by omega
    go_enter Try.func8, Try.ntmps8
    go_wp2
    go_ret
    exact ⟨rfl, Below.refl _ _⟩
  have hh0' : ¬ ((1048576 : Int) < (z0.length : Int)) := by omega
  have hl0 : z0.length ≤ 1048576 := by omega
  go_enter Try.func8, Try.ntmps8
  go_wp2_with fail
  refine (cSzStays a1 z1.length c1 1048576 _ (by omega) (by omega) hm1).mono ?_
  rintro e w0 ⟨r, rfl, hr, hw⟩
  subst w0
  rcases hr with rfl | ⟨rfl, hr⟩
  · go_wp2
    go_ret
    exact ⟨rfl, Below.refl _ _⟩
  have hl1 : z1.length ≤ 1048576 := by omega
  have hr' : ¬ (1048576 - (z1.length : Int) < 0) := by omega
  clear hm1 hr
  go_wp2_with fail
  refine (cToInts a0 c0 z0 _ (hz0.below (Below.refl _ _)) hl0).mono ?_
  rintro e w1_ ⟨gqp0, rfl, p0, hgq, hb⟩
  clear hgq
  have HB1 := btrans (Below.refl _ _) hb
  clear hb 
  go_wp2_with fail
  refine (cToStays a1 c1 z1 _ (hz1.below HB1) hl1).mono ?_
  rintro e w2_ ⟨gqp1, rfl, p1, hgq, hb⟩
  clear hgq
  have HB2 := btrans HB1 hb
  have p0_2 := own_keep p0 hb
  clear hb HB1 p0
  go_wp2_with fail
  refine (cAssignS _ _ z0 _ _ z1 g2 _ (Ints.of_owns p0_2) hl0 (Stays.of_owns p1) hl1).mono ?_
  rintro e w3_ ⟨L, hL, ⟨v0, rfl, o0⟩, hb⟩
  have HB3 := btrans HB2 hb
  have p0_3 := own_keep p0_2 hb
  have p1_3 := own_keep p1 hb
  clear hb HB2 p0_2 p1
  clear p0_3 p1_3
  have hN : L.length ≤ 60 := IsList_le hL
  have hLn : L.length = L.length := rfl
  generalize hNN : L.length = N at *
  replace hLn := hNN
  clear hNN
  have hNm : N ≤ maxLen := by unfold maxLen; omega
  have hN6 : N ≤ 1048576 := by omega
  have L0 := own_blk_lt o0
  go_wp2_with fail
  refine (cToInts a0 c0 z0 _ (hz0.below HB3) hl0).mono ?_
  rintro e w4_ ⟨g0x, rfl, x0, hgx, hb⟩
  have L0 : ∀ k, v0.ownBlock = some k → k < g0x := fun k hk => by rw [hgx]; exact L0 k hk
  have hwg : w.heap.size ≤ g0x := by rw [hgx]; exact HB3.size
  clear hgx
  have HB4 := btrans HB3 hb
  have o0_4 := own_keep o0 hb
  clear hb HB3 o0
  have hgl := owns_lt x0
  go_wp2_with fail
  refine (cToStays a1 c1 z1 _ (hz1.below HB4) hl1).mono ?_
  rintro e w5_ ⟨g1x, rfl, x1, hgx, hb⟩
  have hg1 : g0x < g1x := by rw [hgx]; exact hgl
  clear hgx hgl
  have HB5 := btrans HB4 hb
  have o0_5 := own_keep o0_4 hb
  have x0_5 := own_keep x0 hb
  clear hb HB4 o0_4 x0
  have hgl := owns_lt x1
  go_wp2_with fail
  refine (ansOf hL (cAssignI _ _ z0 _ _ z1 g2 _ (Ints.of_owns x0_5) hl0 (Stays.of_owns x1) hl1)).mono ?_
  rintro e w6_ ⟨v1, rfl, o1, hb⟩
  have L1 : ∀ k, v1.ownBlock = some k → g1x < k := fun k hk => by have := own_from o1 (Nat.le_refl _) k hk; omega
  clear hgl
  have HB6 := btrans HB5 hb
  have o0_6 := own_keep o0_5 hb
  have x0_6 := own_keep x0_5 hb
  have x1_6 := own_keep x1 hb
  clear hb HB5 o0_5 x0_5 x1
  rw [hLn] at o1
  go_wp2_with fail
  refine (cEqIntsn _ _ N _ _ L _ hLn o1 o0_6 hNm).mono ?_
  rintro e w7_ ⟨rfl, hb⟩
  have HB7 := btrans HB6 hb
  have o0_7 := own_keep o0_6 hb
  have x0_7 := own_keep x0_6 hb
  have x1_7 := own_keep x1_6 hb
  have o1_7 := own_keep o1 hb
  clear hb HB6 o0_6 x0_6 x1_6 o1
  go_wp2_with fail
  refine (cToInts a0 c0 z0 _ (hz0.below HB7) hl0).mono ?_
  rintro e w8_ ⟨gqy0, rfl, y0, hgq, hb⟩
  clear hgq
  have HB8 := btrans HB7 hb
  have o0_8 := own_keep o0_7 hb
  have x0_8 := own_keep x0_7 hb
  have x1_8 := own_keep x1_7 hb
  have o1_8 := own_keep o1_7 hb
  clear hb HB7 o0_7 x0_7 x1_7 o1_7
  go_wp2_with fail
  refine (cEqInts _ _ _ _ z0 _ (Ints.of_owns x0_8) (Ints.of_owns y0) hm0).mono ?_
  rintro e w9_ ⟨rfl, hb⟩
  have HB9 := btrans HB8 hb
  have o0_9 := own_keep o0_8 hb
  have x0_9 := own_keep x0_8 hb
  have x1_9 := own_keep x1_8 hb
  have o1_9 := own_keep o1_8 hb
  have y0_9 := own_keep y0 hb
  clear hb HB8 o0_8 x0_8 x1_8 o1_8 y0
  clear y0_9
  go_wp2_with fail
  refine (cToStays a1 c1 z1 _ (hz1.below HB9) hl1).mono ?_
  rintro e w10_ ⟨gqy1, rfl, y1, hgq, hb⟩
  clear hgq
  have HB10 := btrans HB9 hb
  have o0_10 := own_keep o0_9 hb
  have x0_10 := own_keep x0_9 hb
  have x1_10 := own_keep x1_9 hb
  have o1_10 := own_keep o1_9 hb
  clear hb HB9 o0_9 x0_9 x1_9 o1_9
  go_wp2_with fail
  refine (cEqStays _ _ _ _ z1 _ (Stays.of_owns x1_10) (Stays.of_owns y1) hl1).mono ?_
  rintro e w11_ ⟨rfl, hb⟩
  have HB11 := btrans HB10 hb
  have o0_11 := own_keep o0_10 hb
  have x0_11 := own_keep x0_10 hb
  have x1_11 := own_keep x1_10 hb
  have o1_11 := own_keep o1_10 hb
  have y1_11 := own_keep y1 hb
  clear hb HB10 o0_10 x0_10 x1_10 o1_10 y1
  clear y1_11
  go_wp2_with fail
  refine (cMarkInts _ z0.length _ z0 (1) _ rfl x0_11 hl0 (by omega) (by omega)).mono ?_
  rintro e w12_ ⟨rfl, -, hgr⟩
  replace hgr : World.grownBy _ _ (some g0x) := hgr
  have HB12 : Below w.heap.size w w12_ := HB11.grown hgr HB11.size (fun k hk => by cases hk; omega)
  have o0_12 := own_far o0_11 hgr (fun k hk h => by have := L0 k hk; cases h; omega)
  have x1_12 := own_far x1_11 hgr (fun k hk h => by simp [Value.ownBlock] at hk; cases h; omega)
  have o1_12 := own_far o1_11 hgr (fun k hk h => by have := L1 k hk; cases h; omega)
  clear hgr HB11 o0_11 x0_11 x1_11 o1_11
  go_wp2_with fail
  refine (cMarkStaysg _ g1x _ z1 (1 + (z0.length : Int)) _ x1_12 hl1 (by omega) (by omega)).mono ?_
  rintro e w13_ ⟨rfl, -, hgr⟩
  have HB13 : Below w.heap.size w w13_ := HB12.grown hgr HB12.size (fun k hk => by cases hk; omega)
  have o0_13 := own_far o0_12 hgr (fun k hk h => by have := L0 k hk; cases h; omega)
  have o1_13 := own_far o1_12 hgr (fun k hk h => by have := L1 k hk; cases h; omega)
  clear hgr HB12 o0_12 x1_12 o1_12
  have hpos : ¬ (1 + (z0.length : Int) + 3 * (z1.length : Int) < 0) := by omega
  go_wp2_with fail
  refine (cEqIntsn _ _ N _ _ L _ hLn o1_13 o0_13 hNm).mono ?_
  rintro e w14_ ⟨rfl, hb⟩
  have HB14 := btrans HB13 hb
  have o0_14 := own_keep o0_13 hb
  have o1_14 := own_keep o1_13 hb
  clear hb HB13 o0_13 o1_13
  go_wp2_with fail
  refine (cMarkInts _ N _ L 1 _ hLn o1_14 hN6 (by omega) (by omega)).mono ?_
  rintro e w15_ ⟨rfl, om, hgr⟩
  have HB15 : Below w.heap.size w w15_ := HB14.grown hgr HB14.size (fun k hk => by have := L1 k hk; omega)
  have o0_15 := own_far o0_14 hgr (fun k hk h => by have := L0 k hk; have := L1 k h.symm; omega)
  clear hgr HB14 o0_14 o1_14
  go_wp2_with fail
  refine (cHeldInts _ N _ 1 _ om hN6 (by omega) (by omega)).mono ?_
  rintro e w16_ ⟨rfl, hw⟩
  subst w16_
  have hpos2 : ¬ (1 + (N : Int) < 0) := by omega
  go_wp2_with fail
  refine (cToInts a0 c0 z0 _ (hz0.below HB15) hl0).mono ?_
  rintro e w17_ ⟨gqq0, rfl, q0, hgq, hb⟩
  clear hgq
  have HB17 := btrans HB15 hb
  have o0_17 := own_keep o0_15 hb
  have om_17 := own_keep om hb
  clear hb HB15 o0_15 om
  go_wp2_with fail
  refine (cToStays a1 c1 z1 _ (hz1.below HB17) hl1).mono ?_
  rintro e w18_ ⟨gqq1, rfl, q1, hgq, hb⟩
  clear hgq
  have HB18 := btrans HB17 hb
  have o0_18 := own_keep o0_17 hb
  have om_18 := own_keep om_17 hb
  have q0_18 := own_keep q0 hb
  clear hb HB17 o0_17 om_17 q0
  go_wp2_with fail
  refine (ansOf hL (cAssignI _ _ z0 _ _ z1 g2 _ (Ints.of_owns q0_18) hl0 (Stays.of_owns q1) hl1)).mono ?_
  rintro e w19_ ⟨v2, rfl, o2, hb⟩
  rw [hLn] at o2
  have HB19 := btrans HB18 hb
  have o0_19 := own_keep o0_18 hb
  have om_19 := own_keep om_18 hb
  have q0_19 := own_keep q0_18 hb
  have q1_19 := own_keep q1 hb
  clear hb HB18 o0_18 om_18 q0_18 q1
  clear q0_19 q1_19
  go_wp2_with fail
  refine (cEqIntsn _ _ N _ _ L _ hLn o2 o0_19 hNm).mono ?_
  rintro e w20_ ⟨rfl, hb⟩
  have HB20 := btrans HB19 hb
  have o0_20 := own_keep o0_19 hb
  have om_20 := own_keep om_19 hb
  clear hb HB19 o0_19 om_19
  go_wp2_with fail
  refine (cHeldInts _ N _ 1 _ om_20 hN6 (by omega) (by omega)).mono ?_
  rintro e w21_ ⟨rfl, hw⟩
  subst w21_
  go_wp2
  go_ret
  exact ⟨rfl, HB20⟩
end Go.Proofs.Yteklmeekapegpaa
