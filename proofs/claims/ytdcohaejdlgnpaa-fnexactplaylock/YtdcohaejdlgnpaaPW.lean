/- The walk of the law on PlayLock. -/
import Derived.Test.YtdcohaejdlgnpaaWA
import Derived.Test.YtdcohaejdlgnpaaPD
namespace Go.Proofs.Ytdcohaejdlgnpaa
open Go.RowKit

set_option maxRecDepth 20000 in
set_option maxHeartbeats 12800000 in
theorem walkPlay (a b q : Option Addr) (ca cb cq : Nat) (p : PlantV) (os : List OpV) (w : World) (hP : PlantIn w a b p) (hB : Big p) (hO : Ops w q os) (hn : os.length ≤ maxLen) :
    Calls Try.prog 11 #[plantVal a ca b cb p, .slice q os.length cq] w fun e w' => e = .returned (.bool true) ∧ Below w.heap.size w w' := by
  have CZ := fun w hP => cSzPlant a b ca cb p w hP hB
  have CY := fun r w h0 h1 => cSzOps q os.length cq r w h0 h1 hn
  have CT := fun w hP hS => cToPlant a b ca cb p w hP hS
  have CV := fun w hO hl => cToOps q cq os w hO hl
  have CE := fun a1 b1 a2 b2 p1 q1 p2 q2 w h1 h2 hS => cEqPlant a1 b1 a2 b2 p1 q1 p2 q2 p w h1 h2 hS
  have CF := fun a1 a2 p1 p2 w h1 h2 hl => cEqOps a1 a2 p1 p2 os w h1 h2 hl
  have CG := fun a1 b1 c1 a2 b2 c2 p1 q1 r1 p2 q2 r2 w h1 h2 hS => cEqLock a1 b1 c1 a2 b2 c2 p1 q1 r1 p2 q2 r2 (playL p os) w h1 h2 hS
  have CJ := fun a1 a2 c1 c2 w h1 h2 hl => cEqInts a1 a2 c1 c2 (playC p os) w h1 h2 hl
  have CS := fun a b q ca cb cq w hP hO hS => cPlayS a b q ca cb cq p os w hP hO hS
  have CI := fun a b q ca cb cq w hP hO hS => cPlayI a b q ca cb cq p os w hP hO hS
  have CM := fun lo hi ca cb a b w h hS hs => cMarkPlant2 lo hi ca cb a b p w h hS hs
  have CN := fun B g cap k w ho hl h0 h1 => cMarkOpsF B g cap os k w ho hl h0 h1
  have CO := fun lo hi ca cb cc a b c w h hS => cMarkLock lo hi ca cb cc a b c (playL p os) 1 w h hS (by omega) (by omega)
  have CL := fun lo hi c a k w h hl h0 h1 => zMarkFar lo hi c a (playC p os) k w h hl h0 h1
  have CH := fun ca cb cc a b c w h hS => cHeldLock ca cb cc a b c (playL p os) 1 w h hS (by omega) (by omega)
  have CK := fun a c k w h hl h0 h1 => cHeldIntsa a c (playC p os).length k w h hl h0 h1
  have hT' : Small p → LSmall (playL p os) := play_small
  have hc' := play_len p os
  unfold Played at CI
  unfold PlayedS at CS
  generalize playL p os = l' at *
  generalize playC p os = c' at *
  have hc2 : c'.length ≤ maxLen := by unfold maxLen; omega
  have hc3 : c'.length ≤ 1048576 := by omega
  unfold plantVal lockVal at *
  have HB := balloc w (.cells #[.slice a p.under.length ca, .int .i64 p.blocks, .slice b p.routes.length cb] 25)
  have A0 : (w.alloc (.cells #[.slice a p.under.length ca, .int .i64 p.blocks, .slice b p.routes.length cb] 25)).heap[w.heap.size]? = some (.cells #[.slice a p.under.length ca, .int .i64 p.blocks, .slice b p.routes.length cb] 25 (0, 0)) := new1
  go_enter Try.func11, Try.ntmps11
  go_wp2_with fail
  refine (CZ _ (hP.below HB)).mono ?_
  rintro e w1 ⟨r, rfl, hr, hb⟩
  replace A0 := blk_keep hb A0
  replace HB := btrans HB hb
  have s1 := hb.size
  try simp only [sz1] at s1
  clear hb
  rcases hr with rfl | ⟨hr0, hr1, hS⟩
  · go_wp2
    go_ret
    exact ⟨rfl, HB⟩
  have hr2 : ¬ (r < 0) := by omega
  clear CZ
  replace hT' := hT' hS
  go_wp2_with fail
  refine (CY r _ hr0 hr1).mono ?_
  rintro e wq ⟨r2, rfl, hr, hwq⟩
  subst wq
  rcases hr with rfl | ⟨hre, hr3⟩
  · go_wp2
    go_ret
    exact ⟨rfl, HB⟩
  have hr4 : ¬ (r2 < 0) := by omega
  have hl : os.length ≤ 1048576 := by omega
  clear CY hre hr2
  obtain ⟨⟨x1_0, x1_1, x1_2⟩, -⟩ := blk3 A0
  go_wp2_with fail
  clear x1_0 x1_1 x1_2
  refine (CT _ (hP.below HB) hS).mono ?_
  rintro e w2 ⟨a1, c1, b1, d1, rfl, P1, hb⟩
  replace A0 := blk_keep hb A0
  replace HB := btrans HB hb
  have s2 := hb.size
  try simp only [sz1] at s2
  clear hb
  go_wp2_with fail
  refine (CV _ (hO.below HB) hl).mono ?_
  rintro e w3 ⟨g1, rfl, Q1, -, hb⟩
  replace A0 := blk_keep hb A0
  replace P1 := P1.below hb
  replace HB := btrans HB hb
  have s3 := hb.size
  try simp only [sz1] at s3
  clear hb
  go_wp2_with fail
  refine (CS _ _ _ _ _ _ _ P1.read (Ops.own Q1) hS).mono ?_
  rintro e w4 ⟨x8, cx8, y8, cy8, z8, cz8, g8, cg8, rfl, O8, R8, hb⟩
  replace A0 := blk_keep hb A0
  replace P1 := P1.below hb
  replace HB := btrans HB hb
  have s4 := hb.size
  try simp only [sz1] at s4
  clear hb
  clear Q1 CS
  clear P1
  have hb := balloc w4 (.cells #[.slice x8 l'.pos.length cx8, .slice y8 l'.set.length cy8, .slice z8 l'.taken.length cz8] 38)
  have W0 : (w4.alloc (.cells #[.slice x8 l'.pos.length cx8, .slice y8 l'.set.length cy8, .slice z8 l'.taken.length cz8] 38)).heap[w4.heap.size]? = some (.cells #[.slice x8 l'.pos.length cx8, .slice y8 l'.set.length cy8, .slice z8 l'.taken.length cz8] 38 (0, 0)) := blk1
  replace A0 := blk_keep hb A0
  replace O8 := O8.below hb
  replace R8 := R8.below hb
  replace HB := btrans HB hb
  clear hb
  obtain ⟨⟨x2_0, x2_1, x2_2⟩, -⟩ := blk3 A0
  go_wp2_with fail
  clear x2_0 x2_1 x2_2
  refine (CT _ (hP.below HB) hS).mono ?_
  rintro e w5 ⟨a2, c2, b2, d2, rfl, P2, hb⟩
  replace A0 := blk_keep hb A0
  replace O8 := O8.below hb
  replace R8 := R8.below hb
  replace W0 := blk_keep hb W0
  replace HB := btrans HB hb
  have s5 := hb.size
  try simp only [sz1] at s5
  clear hb
  try rw [sz1] at P2
  have hb := balloc w5 (.cells #[.slice a2 p.under.length c2, .int .i64 p.blocks, .slice b2 p.routes.length d2] 30)
  have X0 : (w5.alloc (.cells #[.slice a2 p.under.length c2, .int .i64 p.blocks, .slice b2 p.routes.length d2] 30)).heap[w5.heap.size]? = some (.cells #[.slice a2 p.under.length c2, .int .i64 p.blocks, .slice b2 p.routes.length d2] 30 (0, 0)) := blk1
  replace A0 := blk_keep hb A0
  replace O8 := O8.below hb
  replace R8 := R8.below hb
  replace W0 := blk_keep hb W0
  replace P2 := P2.below hb
  replace HB := btrans HB hb
  clear hb
  go_wp2_with fail
  refine (CV _ (hO.below HB) hl).mono ?_
  rintro e w6 ⟨g2, rfl, Q2, hg2, hb⟩
  replace A0 := blk_keep hb A0
  replace O8 := O8.below hb
  replace R8 := R8.below hb
  replace W0 := blk_keep hb W0
  replace P2 := P2.below hb
  replace X0 := blk_keep hb X0
  replace HB := btrans HB hb
  have s6 := hb.size
  try simp only [sz1] at s6
  clear hb
  try rw [sz1] at Q2
  try rw [sz1] at hg2
  have hg2a := Nat.le_of_eq hg2
  have hg2b := Nat.le_of_eq hg2.symm
  clear hg2
  have hg2c := own_blk_lt Q2 g2 rfl
  obtain ⟨⟨x3_0, x3_1, x3_2⟩, -⟩ := blk3 X0
  go_wp2_with fail
  clear x3_0 x3_1 x3_2
  refine (CI _ _ _ _ _ _ _ P2.read (Ops.own Q2) hS).mono ?_
  rintro e w7 ⟨x7, cx7, y7, cy7, z7, cz7, g7, cg7, lo7, hi7, cl7, ch7, rfl, O7, R7, hd1, hd2, hd3, hd4, hd5, hb⟩
  replace A0 := blk_keep hb A0
  replace O8 := O8.below hb
  replace R8 := R8.below hb
  replace W0 := blk_keep hb W0
  replace P2 := P2.below hb
  replace X0 := blk_keep hb X0
  replace Q2 := own_keep Q2 hb
  replace HB := btrans HB hb
  have s7 := hb.size
  try simp only [sz1] at s7
  clear hb
  have hb := balloc w7 (.cells #[.slice x7 l'.pos.length cx7, .slice y7 l'.set.length cy7, .slice z7 l'.taken.length cz7] 38)
  have G0 : (w7.alloc (.cells #[.slice x7 l'.pos.length cx7, .slice y7 l'.set.length cy7, .slice z7 l'.taken.length cz7] 38)).heap[w7.heap.size]? = some (.cells #[.slice x7 l'.pos.length cx7, .slice y7 l'.set.length cy7, .slice z7 l'.taken.length cz7] 38 (0, 0)) := blk1
  replace A0 := blk_keep hb A0
  replace O8 := O8.below hb
  replace R8 := R8.below hb
  replace W0 := blk_keep hb W0
  replace P2 := P2.below hb
  replace X0 := blk_keep hb X0
  replace Q2 := own_keep Q2 hb
  replace O7 := O7.below hb
  replace R7 := R7.below hb
  replace HB := btrans HB hb
  clear hb
  obtain ⟨⟨x4_0, x4_1, x4_2⟩, -⟩ := blk3 G0
  obtain ⟨⟨x5_0, x5_1, x5_2⟩, -⟩ := blk3 W0
  go_wp2_with fail
  clear x4_0 x4_1 x4_2 x5_0 x5_1 x5_2
  refine (CG _ _ _ _ _ _ _ _ _ _ _ _ _ O7.read O8.read hT').mono ?_
  rintro e w8 ⟨rfl, hb⟩
  replace A0 := blk_keep hb A0
  replace O8 := O8.below hb
  replace R8 := R8.below hb
  replace W0 := blk_keep hb W0
  replace P2 := P2.below hb
  replace X0 := blk_keep hb X0
  replace Q2 := own_keep Q2 hb
  replace O7 := O7.below hb
  replace R7 := R7.below hb
  replace G0 := blk_keep hb G0
  replace HB := btrans HB hb
  have s8 := hb.size
  try simp only [sz1] at s8
  clear hb
  go_wp2_with fail
  refine (CJ _ _ _ _ _ R7.ints R8.ints hc2).mono ?_
  rintro e w9 ⟨rfl, hb⟩
  replace A0 := blk_keep hb A0
  replace O8 := O8.below hb
  replace R8 := R8.below hb
  replace W0 := blk_keep hb W0
  replace P2 := P2.below hb
  replace X0 := blk_keep hb X0
  replace Q2 := own_keep Q2 hb
  replace O7 := O7.below hb
  replace R7 := R7.below hb
  replace G0 := blk_keep hb G0
  replace HB := btrans HB hb
  have s9 := hb.size
  try simp only [sz1] at s9
  clear hb
  obtain ⟨⟨x6_0, x6_1, x6_2⟩, -⟩ := blk3 A0
  obtain ⟨⟨x7_0, x7_1, x7_2⟩, -⟩ := blk3 X0
  go_wp2_with fail
  go_region_held3 (fun w' => w'.cell? ⟨w5.heap.size, 0, none⟩ = some (.slice a2 p.under.length c2) ∧ w'.cell? ⟨w5.heap.size, 1, none⟩ = some (.int .i64 p.blocks) ∧ w'.cell? ⟨w5.heap.size, 2, none⟩ = some (.slice b2 p.routes.length d2) ∧ w'.cell? ⟨w.heap.size, 0, none⟩ = some (.slice a p.under.length ca) ∧ w'.cell? ⟨w.heap.size, 1, none⟩ = some (.int .i64 p.blocks) ∧ w'.cell? ⟨w.heap.size, 2, none⟩ = some (.slice b p.routes.length cb)) (go_keep) (first
    | (go_at_call 16; with_reducible refine (CE _ _ _ _ _ _ _ _ _ P2b P3r hS).mono ?_; rintro e wb ⟨rfl, hbb⟩; have Bb := btrans Bp hbb; clear hbb; obtain ⟨⟨u0, u1, u2⟩, -⟩ := blk3 (blk_keep Bb X0); obtain ⟨⟨u3, u4, u5⟩, -⟩ := blk3 (blk_keep Bb A0))
    | (go_at_call 14; with_reducible refine (CT _ (hP.below HB.drew) hS).mono ?_; rintro e wp ⟨a4, c4, b4, d4, rfl, P3, hbp⟩; have Bp := undrew hbp; have P2b := P2.read.below Bp; have P3r := P3.read; clear hbp; obtain ⟨⟨u0, u1, u2⟩, -⟩ := blk3 (blk_keep Bp X0); obtain ⟨⟨u3, u4, u5⟩, -⟩ := blk3 (blk_keep Bp A0)))
  clear P3 P3r P2b Bp u0 u1 u2 u3 u4 u5 x6_0 x6_1 x6_2 x7_0 x7_1 x7_2
  have hb := Bb
  clear Bb
  replace A0 := blk_keep hb A0
  replace O8 := O8.below hb
  replace R8 := R8.below hb
  replace W0 := blk_keep hb W0
  replace P2 := P2.below hb
  replace X0 := blk_keep hb X0
  replace Q2 := own_keep Q2 hb
  replace O7 := O7.below hb
  replace R7 := R7.below hb
  replace G0 := blk_keep hb G0
  replace HB := btrans HB hb
  have s10 := hb.size
  try simp only [sz1] at s10
  clear hb
  go_wp2_with fail
  refine (CV _ (hO.below HB) hl).mono ?_
  rintro e w11 ⟨g3, rfl, Q3, -, hb⟩
  replace A0 := blk_keep hb A0
  replace O8 := O8.below hb
  replace R8 := R8.below hb
  replace W0 := blk_keep hb W0
  replace P2 := P2.below hb
  replace X0 := blk_keep hb X0
  replace Q2 := own_keep Q2 hb
  replace O7 := O7.below hb
  replace R7 := R7.below hb
  replace G0 := blk_keep hb G0
  replace HB := btrans HB hb
  have s11 := hb.size
  try simp only [sz1] at s11
  clear hb
  go_wp2_with fail
  refine (CF _ _ _ _ _ (Ops.own Q2) (Ops.own Q3) hl).mono ?_
  rintro e w12 ⟨rfl, hb⟩
  replace A0 := blk_keep hb A0
  replace O8 := O8.below hb
  replace R8 := R8.below hb
  replace W0 := blk_keep hb W0
  replace P2 := P2.below hb
  replace X0 := blk_keep hb X0
  replace Q2 := own_keep Q2 hb
  replace O7 := O7.below hb
  replace R7 := R7.below hb
  replace G0 := blk_keep hb G0
  replace HB := btrans HB hb
  have s12 := hb.size
  try simp only [sz1] at s12
  clear hb
  clear Q3
  obtain ⟨⟨x8_0, x8_1, x8_2⟩, -⟩ := blk3 X0
  go_wp2_with fail
  clear x8_0 x8_1 x8_2
  refine (CM _ _ _ _ _ _ _ P2 hS (by omega)).mono ?_
  rintro e w13 ⟨q1, rfl, hq0, hq1, hf⟩
  clear P2
  replace A0 := blk_far hf A0 (by omega)
  replace O8 := O8.far hf (by omega)
  replace R8 := R8.far hf (by omega)
  replace W0 := blk_far hf W0 (by omega)
  replace X0 := blk_far hf X0 (by omega)
  replace Q2 := own_faz Q2 hf (fun j hj => by simp [Value.ownBlock] at hj; omega)
  replace O7 := O7.far hf (by omega)
  replace R7 := R7.far hf (by omega)
  replace G0 := blk_far hf G0 (by omega)
  replace HB := hf.under HB (by omega)
  have s13 := hf.size
  clear hf
  go_wp2_with fail
  refine (CN _ _ _ q1 _ Q2 hl hq0 (by omega)).mono ?_
  rintro e w14 ⟨q2, rfl, hq2, hf⟩
  clear Q2
  replace A0 := blk_far hf A0 (by omega)
  replace O8 := O8.far hf (by omega)
  replace R8 := R8.far hf (by omega)
  replace W0 := blk_far hf W0 (by omega)
  replace X0 := blk_far hf X0 (by omega)
  replace O7 := O7.far hf (by omega)
  replace R7 := R7.far hf (by omega)
  replace G0 := blk_far hf G0 (by omega)
  replace HB := hf.under HB (by omega)
  have s14 := hf.size
  clear hf
  have hq3 : ¬ (q2 < 0) := by omega
  clear X0
  obtain ⟨⟨x9_0, x9_1, x9_2⟩, -⟩ := blk3 G0
  obtain ⟨⟨x10_0, x10_1, x10_2⟩, -⟩ := blk3 W0
  go_wp2_with fail
  clear x9_0 x9_1 x9_2 x10_0 x10_1 x10_2
  refine (CG _ _ _ _ _ _ _ _ _ _ _ _ _ O7.read O8.read hT').mono ?_
  rintro e w15 ⟨rfl, hb⟩
  replace A0 := blk_keep hb A0
  replace O8 := O8.below hb
  replace R8 := R8.below hb
  replace W0 := blk_keep hb W0
  replace O7 := O7.below hb
  replace R7 := R7.below hb
  replace G0 := blk_keep hb G0
  replace HB := btrans HB hb
  have s15 := hb.size
  try simp only [sz1] at s15
  clear hb
  go_wp2_with fail
  refine (CJ _ _ _ _ _ R7.ints R8.ints hc2).mono ?_
  rintro e w16 ⟨rfl, hb⟩
  replace A0 := blk_keep hb A0
  replace O8 := O8.below hb
  replace R8 := R8.below hb
  replace W0 := blk_keep hb W0
  replace O7 := O7.below hb
  replace R7 := R7.below hb
  replace G0 := blk_keep hb G0
  replace HB := btrans HB hb
  have s16 := hb.size
  try simp only [sz1] at s16
  clear hb
  obtain ⟨⟨x11_0, x11_1, x11_2⟩, -⟩ := blk3 G0
  go_wp2_with fail
  clear x11_0 x11_1 x11_2
  refine (CO _ _ _ _ _ _ _ _ _ O7 hT').mono ?_
  rintro e w17 ⟨rfl, O6, hf⟩
  clear O7
  replace A0 := blk_far hf A0 (by omega)
  replace O8 := O8.far hf (by omega)
  replace R8 := R8.far hf (by omega)
  replace W0 := blk_far hf W0 (by omega)
  replace R7 := R7.far hf (by omega)
  replace G0 := blk_far hf G0 (by omega)
  replace HB := hf.under HB (by omega)
  have s17 := hf.size
  clear hf
  obtain ⟨ls1, ls2, ls3⟩ := hT'
  have hT' : LSmall l' := ⟨ls1, ls2, ls3⟩
  have hp1 : ¬ (1 + (l'.pos.length : Int) + (l'.set.length : Int) + (l'.taken.length : Int) < 0) := by omega
  have hp2 : ¬ (1 + (l'.pos.length : Int) + (l'.set.length : Int) + (l'.taken.length : Int) + (c'.length : Int) < 0) := by omega
  go_wp2_with fail
  refine (CL _ _ _ _ _ _ R7 hc3 (by omega) (by omega)).mono ?_
  rintro e w18 ⟨rfl, R6, hf⟩
  clear R7
  replace A0 := blk_far hf A0 (by omega)
  replace O8 := O8.far hf (by omega)
  replace R8 := R8.far hf (by omega)
  replace W0 := blk_far hf W0 (by omega)
  replace G0 := blk_far hf G0 (by omega)
  replace O6 := O6.far hf (by omega)
  replace HB := hf.under HB (by omega)
  have s18 := hf.size
  clear hf
  obtain ⟨⟨x12_0, x12_1, x12_2⟩, -⟩ := blk3 G0
  go_wp2_with fail
  clear x12_0 x12_1 x12_2
  refine (CH _ _ _ _ _ _ _ O6.read hT').mono ?_
  rintro e w19 ⟨rfl, hb⟩
  replace A0 := blk_keep hb A0
  replace O8 := O8.below hb
  replace R8 := R8.below hb
  replace W0 := blk_keep hb W0
  replace G0 := blk_keep hb G0
  replace O6 := O6.below hb
  replace R6 := R6.below hb
  replace HB := btrans HB hb
  have s19 := hb.size
  try simp only [sz1] at s19
  clear hb
  go_wp2_with fail
  refine (CK _ _ _ _ (RowZ.ints R6) hc3 (by omega) (by omega)).mono ?_
  rintro e wq ⟨rfl, hwq⟩
  subst wq
  obtain ⟨⟨x13_0, x13_1, x13_2⟩, -⟩ := blk3 A0
  go_wp2_with fail
  clear x13_0 x13_1 x13_2
  refine (CT _ (hP.below HB) hS).mono ?_
  rintro e w20 ⟨a5, c5, b5, d5, rfl, P5, hb⟩
  replace A0 := blk_keep hb A0
  replace O8 := O8.below hb
  replace R8 := R8.below hb
  replace W0 := blk_keep hb W0
  replace G0 := blk_keep hb G0
  replace O6 := O6.below hb
  replace R6 := R6.below hb
  replace HB := btrans HB hb
  have s20 := hb.size
  try simp only [sz1] at s20
  clear hb
  go_wp2_with fail
  refine (CV _ (hO.below HB) hl).mono ?_
  rintro e w21 ⟨g5, rfl, Q5, -, hb⟩
  replace A0 := blk_keep hb A0
  replace O8 := O8.below hb
  replace R8 := R8.below hb
  replace W0 := blk_keep hb W0
  replace G0 := blk_keep hb G0
  replace O6 := O6.below hb
  replace R6 := R6.below hb
  replace P5 := P5.below hb
  replace HB := btrans HB hb
  have s21 := hb.size
  try simp only [sz1] at s21
  clear hb
  go_wp2_with fail
  refine (CI _ _ _ _ _ _ _ P5.read (Ops.own Q5) hS).mono ?_
  rintro e w22 ⟨x5, cx5, y5, cy5, z5, cz5, g5b, cg5, lo5, hi5, cl5, ch5, rfl, O5, R5, -, -, -, -, -, hb⟩
  replace A0 := blk_keep hb A0
  replace O8 := O8.below hb
  replace R8 := R8.below hb
  replace W0 := blk_keep hb W0
  replace G0 := blk_keep hb G0
  replace O6 := O6.below hb
  replace R6 := R6.below hb
  replace P5 := P5.below hb
  replace HB := btrans HB hb
  have s22 := hb.size
  try simp only [sz1] at s22
  clear hb
  clear Q5 CI
  clear P5
  have hb := balloc w22 (.cells #[.slice x5 l'.pos.length cx5, .slice y5 l'.set.length cy5, .slice z5 l'.taken.length cz5] 38)
  have H0 : (w22.alloc (.cells #[.slice x5 l'.pos.length cx5, .slice y5 l'.set.length cy5, .slice z5 l'.taken.length cz5] 38)).heap[w22.heap.size]? = some (.cells #[.slice x5 l'.pos.length cx5, .slice y5 l'.set.length cy5, .slice z5 l'.taken.length cz5] 38 (0, 0)) := blk1
  replace A0 := blk_keep hb A0
  replace O8 := O8.below hb
  replace R8 := R8.below hb
  replace W0 := blk_keep hb W0
  replace G0 := blk_keep hb G0
  replace O6 := O6.below hb
  replace R6 := R6.below hb
  replace O5 := O5.below hb
  replace R5 := R5.below hb
  replace HB := btrans HB hb
  clear hb
  obtain ⟨⟨x14_0, x14_1, x14_2⟩, -⟩ := blk3 H0
  obtain ⟨⟨x15_0, x15_1, x15_2⟩, -⟩ := blk3 W0
  go_wp2_with fail
  clear x14_0 x14_1 x14_2 x15_0 x15_1 x15_2
  refine (CG _ _ _ _ _ _ _ _ _ _ _ _ _ O5.read O8.read hT').mono ?_
  rintro e w23 ⟨rfl, hb⟩
  replace A0 := blk_keep hb A0
  replace O8 := O8.below hb
  replace R8 := R8.below hb
  replace W0 := blk_keep hb W0
  replace G0 := blk_keep hb G0
  replace O6 := O6.below hb
  replace R6 := R6.below hb
  replace O5 := O5.below hb
  replace R5 := R5.below hb
  replace H0 := blk_keep hb H0
  replace HB := btrans HB hb
  have s23 := hb.size
  try simp only [sz1] at s23
  clear hb
  go_wp2_with fail
  refine (CJ _ _ _ _ _ R5.ints R8.ints hc2).mono ?_
  rintro e w24 ⟨rfl, hb⟩
  replace A0 := blk_keep hb A0
  replace O8 := O8.below hb
  replace R8 := R8.below hb
  replace W0 := blk_keep hb W0
  replace G0 := blk_keep hb G0
  replace O6 := O6.below hb
  replace R6 := R6.below hb
  replace O5 := O5.below hb
  replace R5 := R5.below hb
  replace H0 := blk_keep hb H0
  replace HB := btrans HB hb
  have s24 := hb.size
  try simp only [sz1] at s24
  clear hb
  obtain ⟨⟨x16_0, x16_1, x16_2⟩, -⟩ := blk3 G0
  go_wp2_with fail
  clear x16_0 x16_1 x16_2
  refine (CH _ _ _ _ _ _ _ O6.read hT').mono ?_
  rintro e w25 ⟨rfl, hb⟩
  replace A0 := blk_keep hb A0
  replace O8 := O8.below hb
  replace R8 := R8.below hb
  replace W0 := blk_keep hb W0
  replace G0 := blk_keep hb G0
  replace O6 := O6.below hb
  replace R6 := R6.below hb
  replace O5 := O5.below hb
  replace R5 := R5.below hb
  replace H0 := blk_keep hb H0
  replace HB := btrans HB hb
  have s25 := hb.size
  try simp only [sz1] at s25
  clear hb
  go_wp2_with fail
  refine (CK _ _ _ _ (RowZ.ints R6) hc3 (by omega) (by omega)).mono ?_
  rintro e wq ⟨rfl, hwq⟩
  subst wq
  go_wp2
  go_ret
  exact ⟨rfl, HB⟩
end Go.Proofs.Ytdcohaejdlgnpaa
