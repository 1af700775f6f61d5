/- The walk of the law on LockingOk. -/
import Derived.Test.YtdcohaejdlgnpaaWA
import Derived.Test.YtdcohaejdlgnpaaIL
import Derived.Test.YtdcohaejdlgnpaaSL
namespace Go.Proofs.Ytdcohaejdlgnpaa
open Go.RowKit

set_option maxRecDepth 20000 in
set_option maxHeartbeats 3200000 in
theorem walkLockOk (a b x y z : Option Addr) (ca cb cx cy cz : Nat) (p : PlantV) (l : LockV) (w : World) (hP : PlantIn w a b p) (hB : Big p) (hL : LockIn w x y z l) (hC : LBig l) :
    Calls Try.prog 6 #[plantVal a ca b cb p, lockVal x cx y cy z cz l] w fun e w' => e = .returned (.bool true) ∧ Below w.heap.size w w' := by
  have CZ := fun w hP => cSzPlant a b ca cb p w hP hB
  have CY := fun r w h0 h1 => cSzLock x y z cx cy cz l r w hC h0 h1
  have CT := fun w hP hS => cToPlant a b ca cb p w hP hS
  have CU := fun w hL hS => cToLock x y z cx cy cz l w hL hS
  have CE := fun a1 b1 a2 b2 p1 q1 p2 q2 w h1 h2 hS => cEqPlant a1 b1 a2 b2 p1 q1 p2 q2 p w h1 h2 hS
  have CF := fun a1 b1 c1 a2 b2 c2 p1 q1 r1 p2 q2 r2 w h1 h2 hS => cEqLock a1 b1 c1 a2 b2 c2 p1 q1 r1 p2 q2 r2 l w h1 h2 hS
  have CS := fun a b x y z ca cb cx cy cz w hP hL hS hT => cLockOkS a b x y z ca cb cx cy cz p l w hP hL hS hT
  have CI := fun a b x y z ca cb cx cy cz w hP hL hS hT => cLockOkI a b x y z ca cb cx cy cz p l w hP hL hS hT
  unfold plantVal lockVal at *
  have HB := btrans (balloc w (.cells #[.slice a p.under.length ca, .int .i64 p.blocks, .slice b p.routes.length cb] 25)) (balloc _ (.cells #[.slice x l.pos.length cx, .slice y l.set.length cy, .slice z l.taken.length cz] 43))
  have A0 : ((w.alloc (.cells #[.slice a p.under.length ca, .int .i64 p.blocks, .slice b p.routes.length cb] 25)).alloc (.cells #[.slice x l.pos.length cx, .slice y l.set.length cy, .slice z l.taken.length cz] 43)).heap[w.heap.size]? = some (.cells #[.slice a p.under.length ca, .int .i64 p.blocks, .slice b p.routes.length cb] 25 (0, 0)) := two_blocks1 _ _ _
  have A1 : ((w.alloc (.cells #[.slice a p.under.length ca, .int .i64 p.blocks, .slice b p.routes.length cb] 25)).alloc (.cells #[.slice x l.pos.length cx, .slice y l.set.length cy, .slice z l.taken.length cz] 43)).heap[w.heap.size + 1]? = some (.cells #[.slice x l.pos.length cx, .slice y l.set.length cy, .slice z l.taken.length cz] 43 (0, 0)) := two_blocks2 _ _ _
  go_enter Try.func6, Try.ntmps6
  go_wp2_with fail
  refine (CZ _ (hP.below HB)).mono ?_
  rintro e w1 ⟨r, rfl, hr, hb⟩
  replace A0 := blk_keep hb A0
  replace A1 := blk_keep hb A1
  replace HB := btrans HB hb
  have s1 := hb.size
  try simp only [sz1] at s1
  clear hb
  rcases hr with rfl | ⟨hr0, hr1, hS⟩
  · go_wp2
    go_ret
    exact ⟨rfl, HB⟩
  have hr2 : ¬ (r < 0) := by omega
  clear CZ
  obtain ⟨⟨x1_0, x1_1, x1_2⟩, -⟩ := blk3 A1
  go_wp2_with fail
  clear x1_0 x1_1 x1_2
  refine (CY r _ hr0 hr1).mono ?_
  rintro e w2 ⟨r2, rfl, hr, hb⟩
  replace A0 := blk_keep hb A0
  replace A1 := blk_keep hb A1
  replace HB := btrans HB hb
  have s2 := hb.size
  try simp only [sz1] at s2
  clear hb
  rcases hr with rfl | ⟨hr3, hT⟩
  · go_wp2
    go_ret
    exact ⟨rfl, HB⟩
  have hr4 : ¬ (r2 < 0) := by omega
  clear CY hr2
  obtain ⟨⟨x2_0, x2_1, x2_2⟩, -⟩ := blk3 A0
  obtain ⟨⟨x3_0, x3_1, x3_2⟩, -⟩ := blk3 A1
  go_wp2_with fail
  go_region_held3 (fun w' => w'.cell? ⟨w.heap.size, 0, none⟩ = some (.slice a p.under.length ca) ∧ w'.cell? ⟨w.heap.size, 1, none⟩ = some (.int .i64 p.blocks) ∧ w'.cell? ⟨w.heap.size, 2, none⟩ = some (.slice b p.routes.length cb) ∧ w'.cell? ⟨w.heap.size + 1, 0, none⟩ = some (.slice x l.pos.length cx) ∧ w'.cell? ⟨w.heap.size + 1, 1, none⟩ = some (.slice y l.set.length cy) ∧ w'.cell? ⟨w.heap.size + 1, 2, none⟩ = some (.slice z l.taken.length cz)) (go_keep) (first
    | (go_at_call 26; with_reducible refine (CS _ _ _ _ _ _ _ _ _ _ _ P1r L1r hS hT).mono ?_; rintro e wc ⟨rfl, hbc⟩; have Bc := btrans Bb hbc; clear hbc; obtain ⟨⟨u0, u1, u2⟩, -⟩ := blk3 (blk_keep Bc A0); obtain ⟨⟨u3, u4, u5⟩, -⟩ := blk3 (blk_keep Bc A1))
    | (go_at_call 27; with_reducible refine (CU _ (hL.below HBp) hT).mono ?_; rintro e wb ⟨x1, cx1, y1, cy1, z1, cz1, rfl, L1, hbb, -⟩; have Bb := btrans Bp hbb; have P1r := P1.read.below hbb; have L1r := L1.read; clear hbb; obtain ⟨⟨u0, u1, u2⟩, -⟩ := blk3 (blk_keep Bb A0); obtain ⟨⟨u3, u4, u5⟩, -⟩ := blk3 (blk_keep Bb A1))
    | (go_at_call 14; with_reducible refine (CT _ (hP.below HB.drew) hS).mono ?_; rintro e wp ⟨a1, ca1, b1, cb1, rfl, P1, hbp⟩; have Bp := undrew hbp; have HBp := btrans HB Bp; clear hbp; obtain ⟨⟨u0, u1, u2⟩, -⟩ := blk3 (blk_keep Bp A0); obtain ⟨⟨u3, u4, u5⟩, -⟩ := blk3 (blk_keep Bp A1)))
  clear P1 L1 P1r L1r HBp Bp Bb CS u0 u1 u2 u3 u4 u5 x2_0 x2_1 x2_2 x3_0 x3_1 x3_2
  have hb := Bc
  clear Bc
  replace A0 := blk_keep hb A0
  replace A1 := blk_keep hb A1
  replace HB := btrans HB hb
  have s3 := hb.size
  try simp only [sz1] at s3
  clear hb
  try clear s3
  generalize lockOk p l = ok at *
  obtain ⟨⟨x4_0, x4_1, x4_2⟩, -⟩ := blk3 A0
  go_wp2_with fail
  clear x4_0 x4_1 x4_2
  refine (CT _ (hP.below HB) hS).mono ?_
  rintro e w4 ⟨a2, c2, b2, d2, rfl, P2, hb⟩
  replace A0 := blk_keep hb A0
  replace A1 := blk_keep hb A1
  replace HB := btrans HB hb
  have s4 := hb.size
  try simp only [sz1] at s4
  clear hb
  replace P2 := P2.read
  have hb := balloc w4 (.cells #[.slice a2 p.under.length c2, .int .i64 p.blocks, .slice b2 p.routes.length d2] 30)
  have X0 : (w4.alloc (.cells #[.slice a2 p.under.length c2, .int .i64 p.blocks, .slice b2 p.routes.length d2] 30)).heap[w4.heap.size]? = some (.cells #[.slice a2 p.under.length c2, .int .i64 p.blocks, .slice b2 p.routes.length d2] 30 (0, 0)) := blk1
  replace A0 := blk_keep hb A0
  replace A1 := blk_keep hb A1
  replace P2 := P2.below hb
  replace HB := btrans HB hb
  clear hb
  obtain ⟨⟨x5_0, x5_1, x5_2⟩, -⟩ := blk3 A1
  go_wp2_with fail
  clear x5_0 x5_1 x5_2
  refine (CU _ (hL.below HB) hT).mono ?_
  rintro e w5 ⟨x3, cx3, y3, cy3, z3, cz3, rfl, L2, hb, -⟩
  replace A0 := blk_keep hb A0
  replace A1 := blk_keep hb A1
  replace P2 := P2.below hb
  replace X0 := blk_keep hb X0
  replace HB := btrans HB hb
  have s5 := hb.size
  try simp only [sz1] at s5
  clear hb
  replace L2 := L2.read
  have hb := balloc w5 (.cells #[.slice x3 l.pos.length cx3, .slice y3 l.set.length cy3, .slice z3 l.taken.length cz3] 38)
  have X1 : (w5.alloc (.cells #[.slice x3 l.pos.length cx3, .slice y3 l.set.length cy3, .slice z3 l.taken.length cz3] 38)).heap[w5.heap.size]? = some (.cells #[.slice x3 l.pos.length cx3, .slice y3 l.set.length cy3, .slice z3 l.taken.length cz3] 38 (0, 0)) := blk1
  replace A0 := blk_keep hb A0
  replace A1 := blk_keep hb A1
  replace P2 := P2.below hb
  replace X0 := blk_keep hb X0
  replace L2 := L2.below hb
  replace HB := btrans HB hb
  clear hb
  obtain ⟨⟨x6_0, x6_1, x6_2⟩, -⟩ := blk3 X0
  go_wp2_with fail
  clear x6_0 x6_1 x6_2
  refine (CI _ _ _ _ _ _ _ _ _ _ _ P2 L2 hS hT).mono ?_
  rintro e w6 ⟨rfl, hb⟩
  replace A0 := blk_keep hb A0
  replace A1 := blk_keep hb A1
  replace P2 := P2.below hb
  replace X0 := blk_keep hb X0
  replace L2 := L2.below hb
  replace X1 := blk_keep hb X1
  replace HB := btrans HB hb
  have s6 := hb.size
  try simp only [sz1] at s6
  clear hb
  clear CI
  obtain ⟨⟨x7_0, x7_1, x7_2⟩, -⟩ := blk3 A0
  obtain ⟨⟨x8_0, x8_1, x8_2⟩, -⟩ := blk3 X0
  go_wp2_with fail
  go_region_held3 (fun w' => w'.cell? ⟨w4.heap.size, 0, none⟩ = some (.slice a2 p.under.length c2) ∧ w'.cell? ⟨w4.heap.size, 1, none⟩ = some (.int .i64 p.blocks) ∧ w'.cell? ⟨w4.heap.size, 2, none⟩ = some (.slice b2 p.routes.length d2) ∧ w'.cell? ⟨w.heap.size, 0, none⟩ = some (.slice a p.under.length ca) ∧ w'.cell? ⟨w.heap.size, 1, none⟩ = some (.int .i64 p.blocks) ∧ w'.cell? ⟨w.heap.size, 2, none⟩ = some (.slice b p.routes.length cb)) (go_keep) (first
    | (go_at_call 16; with_reducible refine (CE _ _ _ _ _ _ _ _ _ P2b P3r hS).mono ?_; rintro e wb ⟨rfl, hbb⟩; have Bb := btrans Bp hbb; clear hbb; obtain ⟨⟨u0, u1, u2⟩, -⟩ := blk3 (blk_keep Bb X0); obtain ⟨⟨u3, u4, u5⟩, -⟩ := blk3 (blk_keep Bb A0))
    | (go_at_call 14; with_reducible refine (CT _ (hP.below HB.drew) hS).mono ?_; rintro e wp ⟨a4, c4, b4, d4, rfl, P3, hbp⟩; have Bp := undrew hbp; have P2b := P2.below Bp; have P3r := P3.read; clear hbp; obtain ⟨⟨u0, u1, u2⟩, -⟩ := blk3 (blk_keep Bp X0); obtain ⟨⟨u3, u4, u5⟩, -⟩ := blk3 (blk_keep Bp A0)))
  clear P3 P3r P2b Bp u0 u1 u2 u3 u4 u5 x7_0 x7_1 x7_2 x8_0 x8_1 x8_2
  have hb := Bb
  clear Bb
  replace A0 := blk_keep hb A0
  replace A1 := blk_keep hb A1
  replace P2 := P2.below hb
  replace X0 := blk_keep hb X0
  replace L2 := L2.below hb
  replace X1 := blk_keep hb X1
  replace HB := btrans HB hb
  have s7 := hb.size
  try simp only [sz1] at s7
  clear hb
  obtain ⟨⟨x9_0, x9_1, x9_2⟩, -⟩ := blk3 A1
  obtain ⟨⟨x10_0, x10_1, x10_2⟩, -⟩ := blk3 X1
  go_wp2_with fail
  go_region_held3 (fun w' => w'.cell? ⟨w5.heap.size, 0, none⟩ = some (.slice x3 l.pos.length cx3) ∧ w'.cell? ⟨w5.heap.size, 1, none⟩ = some (.slice y3 l.set.length cy3) ∧ w'.cell? ⟨w5.heap.size, 2, none⟩ = some (.slice z3 l.taken.length cz3) ∧ w'.cell? ⟨w.heap.size + 1, 0, none⟩ = some (.slice x l.pos.length cx) ∧ w'.cell? ⟨w.heap.size + 1, 1, none⟩ = some (.slice y l.set.length cy) ∧ w'.cell? ⟨w.heap.size + 1, 2, none⟩ = some (.slice z l.taken.length cz)) (go_keep) (first
    | (go_at_call 21; with_reducible refine (CF _ _ _ _ _ _ _ _ _ _ _ _ _ L2b L3r hT).mono ?_; rintro e wb ⟨rfl, hbb⟩; have Bb := btrans Bp hbb; clear hbb; obtain ⟨⟨u0, u1, u2⟩, -⟩ := blk3 (blk_keep Bb X1); obtain ⟨⟨u3, u4, u5⟩, -⟩ := blk3 (blk_keep Bb A1))
    | (go_at_call 27; with_reducible refine (CU _ (hL.below HB.drew) hT).mono ?_; rintro e wp ⟨x4, cx4, y4, cy4, z4, cz4, rfl, L3, hbp, -⟩; have Bp := undrew hbp; have L2b := L2.below Bp; have L3r := L3.read; clear hbp; obtain ⟨⟨u0, u1, u2⟩, -⟩ := blk3 (blk_keep Bp X1); obtain ⟨⟨u3, u4, u5⟩, -⟩ := blk3 (blk_keep Bp A1)))
  clear L3 L3r L2b Bp u0 u1 u2 u3 u4 u5 x9_0 x9_1 x9_2 x10_0 x10_1 x10_2
  have hb := Bb
  clear Bb
  replace A0 := blk_keep hb A0
  replace A1 := blk_keep hb A1
  replace P2 := P2.below hb
  replace X0 := blk_keep hb X0
  replace L2 := L2.below hb
  replace X1 := blk_keep hb X1
  replace HB := btrans HB hb
  have s8 := hb.size
  try simp only [sz1] at s8
  clear hb
  go_wp2
  go_ret
  exact ⟨rfl, HB⟩
end Go.Proofs.Ytdcohaejdlgnpaa
