/- The walk of the law on Bare. -/
import Derived.Test.YtdcohaejdlgnpaaWA
import Derived.Test.YtdcohaejdlgnpaaMW
import Derived.Test.YtdcohaejdlgnpaaIB
import Derived.Test.YtdcohaejdlgnpaaSB
namespace Go.Proofs.Ytdcohaejdlgnpaa
open Go.RowKit
theorem bare_small {p : PlantV} (h : Small p) : LSmall (bareL p) := by
  unfold bareL
  cases hk : plantOk p
  · exact ⟨Nat.zero_le _, Nat.zero_le _, Nat.zero_le _⟩
  · have := (right_of hk).b24
    refine ⟨?_, ?_, ?_⟩
    · simpa [bareOf] using h.under
    · simpa [bareOf] using h.routes
    · simp [bareOf]; omega

set_option maxRecDepth 20000 in
set_option maxHeartbeats 12800000 in
theorem walkBare (a b : Option Addr) (ca cb : Nat) (p : PlantV) (w : World) (hP : PlantIn w a b p) (hB : Big p) :
    Calls Try.prog 5 #[plantVal a ca b cb p] w fun e w' => e = .returned (.bool true) ∧ Below w.heap.size w w' := by
  have CZ := fun w hP => cSzPlant a b ca cb p w hP hB
  have CT := fun w hP hS => cToPlant a b ca cb p w hP hS
  have CE := fun a1 b1 a2 b2 p1 q1 p2 q2 w h1 h2 hS => cEqPlant a1 b1 a2 b2 p1 q1 p2 q2 p w h1 h2 hS
  have CG := fun a1 b1 c1 a2 b2 c2 p1 q1 r1 p2 q2 r2 w h1 h2 hS => cEqLock a1 b1 c1 a2 b2 c2 p1 q1 r1 p2 q2 r2 (bareL p) w h1 h2 hS
  have CS := fun a b ca cb w hP hS => cBareS a b ca cb p w hP hS
  have CI := fun a b ca cb w hP hS => cBareI a b ca cb p w hP hS
  have CM := fun lo hi ca cb a b w h hS hs => cMarkPlant2 lo hi ca cb a b p w h hS hs
  have CO := fun lo hi ca cb cc a b c w h hS => cMarkLock lo hi ca cb cc a b c (bareL p) 1 w h hS (by omega) (by omega)
  have CH := fun ca cb cc a b c w h hS => cHeldLock ca cb cc a b c (bareL p) 1 w h hS (by omega) (by omega)
  have hT' : Small p → LSmall (bareL p) := bare_small
  generalize bareL p = l' at *
  unfold plantVal lockVal at *
  have HB := balloc w (.cells #[.slice a p.under.length ca, .int .i64 p.blocks, .slice b p.routes.length cb] 25)
  have A0 : (w.alloc (.cells #[.slice a p.under.length ca, .int .i64 p.blocks, .slice b p.routes.length cb] 25)).heap[w.heap.size]? = some (.cells #[.slice a p.under.length ca, .int .i64 p.blocks, .slice b p.routes.length cb] 25 (0, 0)) := new1
  go_enter Try.func5, Try.ntmps5
  go_wp2_with fail
  refine (CZ _ (hP.below HB)).mono ?_
  rintro e w1 ⟨r, rfl, hr, hb⟩
  replace A0 := blk_keep hb A0
  replace HB := btrans HB hb
  have s1 := hb.size
  try simp only [sz1] at s1
  clear hb
  rcases hr with rfl | ⟨hr0, hr1, hS⟩
  · go_wp2
    go_ret
    exact ⟨rfl, HB⟩
  have hr2 : ¬ (r < 0) := by omega
  clear CZ
  replace hT' := hT' hS
  obtain ⟨⟨x1_0, x1_1, x1_2⟩, -⟩ := blk3 A0
  go_wp2_with fail
  clear x1_0 x1_1 x1_2
  refine (CT _ (hP.below HB) hS).mono ?_
  rintro e w2 ⟨a1, c1, b1, d1, rfl, P1, hb⟩
  replace A0 := blk_keep hb A0
  replace HB := btrans HB hb
  have s2 := hb.size
  try simp only [sz1] at s2
  clear hb
  go_wp2_with fail
  refine (CS _ _ _ _ _ P1.read hS).mono ?_
  rintro e w3 ⟨x8, cx8, y8, cy8, z8, cz8, rfl, O8, hb⟩
  replace A0 := blk_keep hb A0
  replace HB := btrans HB hb
  have s3 := hb.size
  try simp only [sz1] at s3
  clear hb
  clear P1 CS
  have hb := balloc w3 (.cells #[.slice x8 l'.pos.length cx8, .slice y8 l'.set.length cy8, .slice z8 l'.taken.length cz8] 38)
  have W0 : (w3.alloc (.cells #[.slice x8 l'.pos.length cx8, .slice y8 l'.set.length cy8, .slice z8 l'.taken.length cz8] 38)).heap[w3.heap.size]? = some (.cells #[.slice x8 l'.pos.length cx8, .slice y8 l'.set.length cy8, .slice z8 l'.taken.length cz8] 38 (0, 0)) := blk1
  replace A0 := blk_keep hb A0
  replace O8 := O8.below hb
  replace HB := btrans HB hb
  clear hb
  obtain ⟨⟨x2_0, x2_1, x2_2⟩, -⟩ := blk3 A0
  go_wp2_with fail
  clear x2_0 x2_1 x2_2
  refine (CT _ (hP.below HB) hS).mono ?_
  rintro e w4 ⟨a2, c2, b2, d2, rfl, P2, hb⟩
  replace A0 := blk_keep hb A0
  replace O8 := O8.below hb
  replace W0 := blk_keep hb W0
  replace HB := btrans HB hb
  have s4 := hb.size
  try simp only [sz1] at s4
  clear hb
  try rw [sz1] at P2
  have hb := balloc w4 (.cells #[.slice a2 p.under.length c2, .int .i64 p.blocks, .slice b2 p.routes.length d2] 30)
  have X0 : (w4.alloc (.cells #[.slice a2 p.under.length c2, .int .i64 p.blocks, .slice b2 p.routes.length d2] 30)).heap[w4.heap.size]? = some (.cells #[.slice a2 p.under.length c2, .int .i64 p.blocks, .slice b2 p.routes.length d2] 30 (0, 0)) := blk1
  replace A0 := blk_keep hb A0
  replace O8 := O8.below hb
  replace W0 := blk_keep hb W0
  replace P2 := P2.below hb
  replace HB := btrans HB hb
  clear hb
  go_wp2_with fail
  refine (CI _ _ _ _ _ P2.read hS).mono ?_
  rintro e w5 ⟨x7, cx7, y7, cy7, z7, cz7, rfl, O7, -, -, -, hb⟩
  replace A0 := blk_keep hb A0
  replace O8 := O8.below hb
  replace W0 := blk_keep hb W0
  replace P2 := P2.below hb
  replace X0 := blk_keep hb X0
  replace HB := btrans HB hb
  have s5 := hb.size
  try simp only [sz1] at s5
  clear hb
  try rw [sz1] at O7
  have hb := balloc w5 (.cells #[.slice x7 l'.pos.length cx7, .slice y7 l'.set.length cy7, .slice z7 l'.taken.length cz7] 38)
  have G0 : (w5.alloc (.cells #[.slice x7 l'.pos.length cx7, .slice y7 l'.set.length cy7, .slice z7 l'.taken.length cz7] 38)).heap[w5.heap.size]? = some (.cells #[.slice x7 l'.pos.length cx7, .slice y7 l'.set.length cy7, .slice z7 l'.taken.length cz7] 38 (0, 0)) := blk1
  replace A0 := blk_keep hb A0
  replace O8 := O8.below hb
  replace W0 := blk_keep hb W0
  replace P2 := P2.below hb
  replace X0 := blk_keep hb X0
  replace O7 := O7.below hb
  replace HB := btrans HB hb
  clear hb
  obtain ⟨⟨x3_0, x3_1, x3_2⟩, -⟩ := blk3 G0
  obtain ⟨⟨x4_0, x4_1, x4_2⟩, -⟩ := blk3 W0
  go_wp2_with fail
  clear x3_0 x3_1 x3_2 x4_0 x4_1 x4_2
  refine (CG _ _ _ _ _ _ _ _ _ _ _ _ _ O7.read O8.read hT').mono ?_
  rintro e w6 ⟨rfl, hb⟩
  replace A0 := blk_keep hb A0
  replace O8 := O8.below hb
  replace W0 := blk_keep hb W0
  replace P2 := P2.below hb
  replace X0 := blk_keep hb X0
  replace O7 := O7.below hb
  replace G0 := blk_keep hb G0
  replace HB := btrans HB hb
  have s6 := hb.size
  try simp only [sz1] at s6
  clear hb
  obtain ⟨⟨x5_0, x5_1, x5_2⟩, -⟩ := blk3 A0
  obtain ⟨⟨x6_0, x6_1, x6_2⟩, -⟩ := blk3 X0
  go_wp2_with fail
  go_region_held3 (fun w' => w'.cell? ⟨w4.heap.size, 0, none⟩ = some (.slice a2 p.under.length c2) ∧ w'.cell? ⟨w4.heap.size, 1, none⟩ = some (.int .i64 p.blocks) ∧ w'.cell? ⟨w4.heap.size, 2, none⟩ = some (.slice b2 p.routes.length d2) ∧ w'.cell? ⟨w.heap.size, 0, none⟩ = some (.slice a p.under.length ca) ∧ w'.cell? ⟨w.heap.size, 1, none⟩ = some (.int .i64 p.blocks) ∧ w'.cell? ⟨w.heap.size, 2, none⟩ = some (.slice b p.routes.length cb)) (go_keep) (first
    | (go_at_call 16; with_reducible refine (CE _ _ _ _ _ _ _ _ _ P2b P3r hS).mono ?_; rintro e wb ⟨rfl, hbb⟩; have Bb := btrans Bp hbb; clear hbb; obtain ⟨⟨u0, u1, u2⟩, -⟩ := blk3 (blk_keep Bb X0); obtain ⟨⟨u3, u4, u5⟩, -⟩ := blk3 (blk_keep Bb A0))
    | (go_at_call 14; with_reducible refine (CT _ (hP.below HB.drew) hS).mono ?_; rintro e wp ⟨a4, c4, b4, d4, rfl, P3, hbp⟩; have Bp := undrew hbp; have P2b := P2.read.below Bp; have P3r := P3.read; clear hbp; obtain ⟨⟨u0, u1, u2⟩, -⟩ := blk3 (blk_keep Bp X0); obtain ⟨⟨u3, u4, u5⟩, -⟩ := blk3 (blk_keep Bp A0)))
  clear P3 P3r P2b Bp u0 u1 u2 u3 u4 u5 x5_0 x5_1 x5_2 x6_0 x6_1 x6_2
  have hb := Bb
  clear Bb
  replace A0 := blk_keep hb A0
  replace O8 := O8.below hb
  replace W0 := blk_keep hb W0
  replace P2 := P2.below hb
  replace X0 := blk_keep hb X0
  replace O7 := O7.below hb
  replace G0 := blk_keep hb G0
  replace HB := btrans HB hb
  have s7 := hb.size
  try simp only [sz1] at s7
  clear hb
  obtain ⟨⟨x7_0, x7_1, x7_2⟩, -⟩ := blk3 X0
  go_wp2_with fail
  clear x7_0 x7_1 x7_2
  refine (CM _ _ _ _ _ _ _ P2 hS (by omega)).mono ?_
  rintro e w8 ⟨q1, rfl, hq0, hq1, hf⟩
  clear P2
  replace A0 := blk_far hf A0 (by omega)
  replace O8 := O8.far hf (by omega)
  replace W0 := blk_far hf W0 (by omega)
  replace X0 := blk_far hf X0 (by omega)
  replace O7 := O7.far hf (by omega)
  replace G0 := blk_far hf G0 (by omega)
  replace HB := hf.under HB (by omega)
  have s8 := hf.size
  clear hf
  have hq3 : ¬ (q1 < 0) := by omega
  clear X0
  obtain ⟨⟨x8_0, x8_1, x8_2⟩, -⟩ := blk3 G0
  obtain ⟨⟨x9_0, x9_1, x9_2⟩, -⟩ := blk3 W0
  go_wp2_with fail
  clear x8_0 x8_1 x8_2 x9_0 x9_1 x9_2
  refine (CG _ _ _ _ _ _ _ _ _ _ _ _ _ O7.read O8.read hT').mono ?_
  rintro e w9 ⟨rfl, hb⟩
  replace A0 := blk_keep hb A0
  replace O8 := O8.below hb
  replace W0 := blk_keep hb W0
  replace O7 := O7.below hb
  replace G0 := blk_keep hb G0
  replace HB := btrans HB hb
  have s9 := hb.size
  try simp only [sz1] at s9
  clear hb
  obtain ⟨⟨x10_0, x10_1, x10_2⟩, -⟩ := blk3 G0
  go_wp2_with fail
  clear x10_0 x10_1 x10_2
  refine (CO _ _ _ _ _ _ _ _ _ O7 hT').mono ?_
  rintro e w10 ⟨rfl, O6, hf⟩
  clear O7
  replace A0 := blk_far hf A0 (by omega)
  replace O8 := O8.far hf (by omega)
  replace W0 := blk_far hf W0 (by omega)
  replace G0 := blk_far hf G0 (by omega)
  replace HB := hf.under HB (by omega)
  have s10 := hf.size
  clear hf
  have hp1 : ¬ (1 + (l'.pos.length : Int) + (l'.set.length : Int) + (l'.taken.length : Int) < 0) := by omega
  obtain ⟨⟨x11_0, x11_1, x11_2⟩, -⟩ := blk3 G0
  go_wp2_with fail
  clear x11_0 x11_1 x11_2
  refine (CH _ _ _ _ _ _ _ O6.read hT').mono ?_
  rintro e w11 ⟨rfl, hb⟩
  replace A0 := blk_keep hb A0
  replace O8 := O8.below hb
  replace W0 := blk_keep hb W0
  replace G0 := blk_keep hb G0
  replace O6 := O6.below hb
  replace HB := btrans HB hb
  have s11 := hb.size
  try simp only [sz1] at s11
  clear hb
  obtain ⟨⟨x12_0, x12_1, x12_2⟩, -⟩ := blk3 A0
  go_wp2_with fail
  clear x12_0 x12_1 x12_2
  refine (CT _ (hP.below HB) hS).mono ?_
  rintro e w12 ⟨a5, c5, b5, d5, rfl, P5, hb⟩
  replace A0 := blk_keep hb A0
  replace O8 := O8.below hb
  replace W0 := blk_keep hb W0
  replace G0 := blk_keep hb G0
  replace O6 := O6.below hb
  replace HB := btrans HB hb
  have s12 := hb.size
  try simp only [sz1] at s12
  clear hb
  go_wp2_with fail
  refine (CI _ _ _ _ _ P5.read hS).mono ?_
  rintro e w13 ⟨x5, cx5, y5, cy5, z5, cz5, rfl, O5, -, -, -, hb⟩
  replace A0 := blk_keep hb A0
  replace O8 := O8.below hb
  replace W0 := blk_keep hb W0
  replace G0 := blk_keep hb G0
  replace O6 := O6.below hb
  replace HB := btrans HB hb
  have s13 := hb.size
  try simp only [sz1] at s13
  clear hb
  clear P5 CI
  have hb := balloc w13 (.cells #[.slice x5 l'.pos.length cx5, .slice y5 l'.set.length cy5, .slice z5 l'.taken.length cz5] 38)
  have H0 : (w13.alloc (.cells #[.slice x5 l'.pos.length cx5, .slice y5 l'.set.length cy5, .slice z5 l'.taken.length cz5] 38)).heap[w13.heap.size]? = some (.cells #[.slice x5 l'.pos.length cx5, .slice y5 l'.set.length cy5, .slice z5 l'.taken.length cz5] 38 (0, 0)) := blk1
  replace A0 := blk_keep hb A0
  replace O8 := O8.below hb
  replace W0 := blk_keep hb W0
  replace G0 := blk_keep hb G0
  replace O6 := O6.below hb
  replace O5 := O5.below hb
  replace HB := btrans HB hb
  clear hb
  obtain ⟨⟨x13_0, x13_1, x13_2⟩, -⟩ := blk3 H0
  obtain ⟨⟨x14_0, x14_1, x14_2⟩, -⟩ := blk3 W0
  go_wp2_with fail
  clear x13_0 x13_1 x13_2 x14_0 x14_1 x14_2
  refine (CG _ _ _ _ _ _ _ _ _ _ _ _ _ O5.read O8.read hT').mono ?_
  rintro e w14 ⟨rfl, hb⟩
  replace A0 := blk_keep hb A0
  replace O8 := O8.below hb
  replace W0 := blk_keep hb W0
  replace G0 := blk_keep hb G0
  replace O6 := O6.below hb
  replace O5 := O5.below hb
  replace H0 := blk_keep hb H0
  replace HB := btrans HB hb
  have s14 := hb.size
  try simp only [sz1] at s14
  clear hb
  obtain ⟨⟨x15_0, x15_1, x15_2⟩, -⟩ := blk3 G0
  go_wp2_with fail
  clear x15_0 x15_1 x15_2
  refine (CH _ _ _ _ _ _ _ O6.read hT').mono ?_
  rintro e w15 ⟨rfl, hb⟩
  replace A0 := blk_keep hb A0
  replace O8 := O8.below hb
  replace W0 := blk_keep hb W0
  replace G0 := blk_keep hb G0
  replace O6 := O6.below hb
  replace O5 := O5.below hb
  replace H0 := blk_keep hb H0
  replace HB := btrans HB hb
  have s15 := hb.size
  try simp only [sz1] at s15
  clear hb
  go_wp2
  go_ret
  exact ⟨rfl, HB⟩
end Go.Proofs.Ytdcohaejdlgnpaa
