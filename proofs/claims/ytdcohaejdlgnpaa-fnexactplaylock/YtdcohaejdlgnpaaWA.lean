/- The walk of the law on PlantOk. -/
import Derived.Test.YtdcohaejdlgnpaaMK
import Derived.Test.YtdcohaejdlgnpaaIQ
import Derived.Test.YtdcohaejdlgnpaaSQ
namespace Go.Proofs.Ytdcohaejdlgnpaa
open Go.RowKit
theorem blk_far {lo hi : Nat} {w w' : World} (h : Far lo hi w w') {g : Nat} {o : Obj} (hg : w.heap[g]? = some o) (hd : g < lo ∨ hi ≤ g) : w'.heap[g]? = some o := (h.block g (lt_of_block hg) hd).trans hg

set_option maxRecDepth 20000 in
set_option maxHeartbeats 3200000 in
theorem walkPlantOk (a b : Option Addr) (ca cb : Nat) (p : PlantV) (w : World) (hP : PlantIn w a b p) (hB : Big p) :
    Calls Try.prog 3 #[plantVal a ca b cb p] w fun e w' => e = .returned (.bool true) ∧ Below w.heap.size w w' := by
  have CZ := fun w hP => cSzPlant a b ca cb p w hP hB
  have CT := fun w hP hS => cToPlant a b ca cb p w hP hS
  have CE := fun a1 b1 a2 b2 p1 q1 p2 q2 w h1 h2 hS => cEqPlant a1 b1 a2 b2 p1 q1 p2 q2 p w h1 h2 hS
  have CS := fun a b ca cb w hP hS => cPlantOkS a b ca cb p w hP hS
  have CI := fun a b ca cb w hP hS => cPlantOkI a b ca cb p w hP hS
  unfold plantVal at *
  have HB := balloc w (.cells #[.slice a p.under.length ca, .int .i64 p.blocks, .slice b p.routes.length cb] 25)
  have A0 : (w.alloc (.cells #[.slice a p.under.length ca, .int .i64 p.blocks, .slice b p.routes.length cb] 25)).heap[w.heap.size]? = some (.cells #[.slice a p.under.length ca, .int .i64 p.blocks, .slice b p.routes.length cb] 25 (0, 0)) := blk1
  go_enter Try.func3, Try.ntmps3
  go_wp2_with fail
  refine (CZ _ (hP.below HB)).mono ?_
  rintro e w1 ⟨r, rfl, hr, hb⟩
  replace A0 := blk_keep hb A0
  replace HB := btrans HB hb
  have s1 := hb.size
  try simp only [sz1] at s1
  clear hb
  rcases hr with rfl | ⟨hr0, hr1, hS⟩
  · go_wp2
    go_ret
    exact ⟨rfl, HB⟩
  have hr2 : ¬ (r < 0) := by omega
  clear CZ
  obtain ⟨⟨x1_0, x1_1, x1_2⟩, -⟩ := blk3 A0
  go_wp2_with fail
  clear x1_0 x1_1 x1_2
  refine (CT _ (hP.below HB) hS).mono ?_
  rintro e w2 ⟨a1, c1, b1, d1, rfl, P1, hb⟩
  replace A0 := blk_keep hb A0
  replace HB := btrans HB hb
  have s2 := hb.size
  try simp only [sz1] at s2
  clear hb
  replace P1 := P1.read
  go_wp2_with fail
  refine (CS _ _ _ _ _ P1 hS).mono ?_
  rintro e w3 ⟨rfl, hb⟩
  replace A0 := blk_keep hb A0
  replace P1 := P1.below hb
  replace HB := btrans HB hb
  have s3 := hb.size
  try simp only [sz1] at s3
  clear hb
  clear P1
  clear CS
  generalize plantOk p = ok at *
  obtain ⟨⟨x2_0, x2_1, x2_2⟩, -⟩ := blk3 A0
  go_wp2_with fail
  clear x2_0 x2_1 x2_2
  refine (CT _ (hP.below HB) hS).mono ?_
  rintro e w4 ⟨a2, c2, b2, d2, rfl, P2, hb⟩
  replace A0 := blk_keep hb A0
  replace HB := btrans HB hb
  have s4 := hb.size
  try simp only [sz1] at s4
  clear hb
  replace P2 := P2.read
  have hb := balloc w4 (.cells #[.slice a2 p.under.length c2, .int .i64 p.blocks, .slice b2 p.routes.length d2] 30)
  have X0 : (w4.alloc (.cells #[.slice a2 p.under.length c2, .int .i64 p.blocks, .slice b2 p.routes.length d2] 30)).heap[w4.heap.size]? = some (.cells #[.slice a2 p.under.length c2, .int .i64 p.blocks, .slice b2 p.routes.length d2] 30 (0, 0)) := blk1
  replace A0 := blk_keep hb A0
  replace P2 := P2.below hb
  replace HB := btrans HB hb
  clear hb
  go_wp2_with fail
  refine (CI _ _ _ _ _ P2 hS).mono ?_
  rintro e w5 ⟨rfl, hb⟩
  replace A0 := blk_keep hb A0
  replace P2 := P2.below hb
  replace X0 := blk_keep hb X0
  replace HB := btrans HB hb
  have s5 := hb.size
  try simp only [sz1] at s5
  clear hb
  clear CI
  
  obtain ⟨⟨x3_0, x3_1, x3_2⟩, -⟩ := blk3 A0
  obtain ⟨⟨x4_0, x4_1, x4_2⟩, -⟩ := blk3 X0
  go_wp2_with fail
  go_region_with (first
    | (go_at_call 14; refine (CT _ (hP.below HB.drew) hS).mono ?_; rintro e wa ⟨a3, c3, b3, d3, rfl, P3, hb⟩; have P2' := P2.below (undrew hb); have P3' := P3.read; have HB' := btrans HB (undrew hb); obtain ⟨⟨y0, y1, y2⟩, -⟩ := blk3 (blk_keep (undrew hb) X0))
    | (go_at_call 16; refine (CE _ _ _ _ _ _ _ _ _ P2' P3' hS).mono ?_; rintro e wb ⟨rfl, hb2⟩))
  all_goals go_wp2
  all_goals go_ret
  all_goals exact ⟨rfl, btrans HB' hb2⟩
end Go.Proofs.Ytdcohaejdlgnpaa
