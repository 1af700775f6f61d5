/- The law of NewDesk. -/
import Derived.Test.YtjbecnflpfjicaaKN
namespace Go.Proofs.Ytjbecnflpfjicaa
open Go.RowKit
set_option maxRecDepth 20000 in
set_option maxHeartbeats 3200000 in
theorem walkNewDesk (w : World) : Calls Try.prog 3 #[] w fun e w' => e = .returned (.bool true) ∧ Below w.heap.size w w' := by
  go_enter Try.func3, Try.ntmps3
  go_wp2_with fail
  refine (cNewS _).mono ?_
  rintro e w1 ⟨r1, t1, us, rfl, S1, HB⟩
  unfold deskV
  have hb := balloc w1 (.cells #[.int .i64 1, .slice none 0 0, .slice none 0 0, .int .i64 4, .int .i64 5, .slice none 0 0, .slice (some ⟨r1, 0, none⟩) 3 3, .slice (some ⟨t1, 0, none⟩) 3 3] 34)
  have X := heap_alloc_new w1 (.cells #[.int .i64 1, .slice none 0 0, .slice none 0 0, .int .i64 4, .int .i64 5, .slice none 0 0, .slice (some ⟨r1, 0, none⟩) 3 3, .slice (some ⟨t1, 0, none⟩) 3 3] 34)
  replace S1 := S1.below hb
  replace HB := btrans HB hb
  go_wp2_with fail
  generalize w1.alloc (.cells #[.int .i64 1, .slice none 0 0, .slice none 0 0, .int .i64 4, .int .i64 5, .slice none 0 0, .slice (some ⟨r1, 0, none⟩) 3 3, .slice (some ⟨t1, 0, none⟩) 3 3] 34) = w2 at *
  generalize w1.heap.size = a1 at *
  clear hb
  refine (cNewI _).mono ?_
  rintro e w3 ⟨r2, t2, vs, rfl, S2, hb⟩
  unfold deskV
  have hs2 : w.heap.size ≤ w2.heap.size := HB.size
  have h23 : w2.heap.size ≤ w3.heap.size := hb.size
  have hk1 : ∀ k, SidB (.slice (some ⟨r1, 0, none⟩) 3 3) (.slice (some ⟨t1, 0, none⟩) 3 3) us k → k < w2.heap.size := fun k h => (S1.blk k h).2
  have hk2 : ∀ k, SidB (.slice (some ⟨r2, 0, none⟩) 3 3) (.slice (some ⟨t2, 0, none⟩) 3 3) vs k → w2.heap.size ≤ k := fun k h => (S2.blk k h).1
  have ha1 : a1 < w2.heap.size := lt_of_block X
  have hb3 := balloc w3 (.cells #[.int .i64 1, .slice none 0 0, .slice none 0 0, .int .i64 4, .int .i64 5, .slice none 0 0, .slice (some ⟨r2, 0, none⟩) 3 3, .slice (some ⟨t2, 0, none⟩) 3 3] 34)
  have Y := heap_alloc_new w3 (.cells #[.int .i64 1, .slice none 0 0, .slice none 0 0, .int .i64 4, .int .i64 5, .slice none 0 0, .slice (some ⟨r2, 0, none⟩) 3 3, .slice (some ⟨t2, 0, none⟩) 3 3] 34)
  have hk3 : ∀ k, SidB (.slice (some ⟨r2, 0, none⟩) 3 3) (.slice (some ⟨t2, 0, none⟩) 3 3) vs k → k < w3.heap.size := fun k h => (S2.blk k h).2
  replace S1 := (S1.below hb).below hb3
  replace X := bkeep hb3 (bkeep hb X)
  replace S2 := S2.below hb3
  replace HB := btrans (btrans HB hb) hb3
  clear hb hb3
  obtain ⟨⟨x0, x1, x2, x3, x4, x5, x6, x7⟩, -⟩ := blk8 X
  obtain ⟨⟨y0, y1, y2, y3, y4, y5, y6, y7⟩, -⟩ := blk8 Y
  go_wp2_with fail
  clear x0 x1 x2 x3 x4 x5 x6 x7
  clear y0 y1 y2 y3 y4 y5 y6 y7
  generalize w3.alloc (.cells #[.int .i64 1, .slice none 0 0, .slice none 0 0, .int .i64 4, .int .i64 5, .slice none 0 0, .slice (some ⟨r2, 0, none⟩) 3 3, .slice (some ⟨t2, 0, none⟩) 3 3] 34) = w4 at *
  generalize w3.heap.size = a2 at *
  refine (cEqDesk _ _ _ _ _ _ _ _ _ S2 S1).mono ?_
  rintro e w5 ⟨rfl, hb⟩
  replace S1 := S1.below hb
  replace S2 := S2.below hb
  replace X := bkeep hb X
  replace Y := bkeep hb Y
  replace HB := btrans HB hb
  clear hb
  obtain ⟨⟨y0, y1, y2, y3, y4, y5, y6, y7⟩, -⟩ := blk8 Y
  go_wp2_with fail
  clear y0 y1 y2 y3 y4 y5 y6 y7
  refine (cMarkDesk _ _ _ _ _ S2).mono ?_
  rintro e w6 ⟨rfl, S3, hf⟩
  replace S1 := S1.fr hf (fun k h1 h2 => by have := hk1 k h1; have := hk2 k h2; omega)
  replace X := (hf.block a1 (lt_of_block X) (fun h => by have := hk2 _ h; omega)).trans X
  replace Y := (hf.block a2 (lt_of_block Y) (fun h => by have := hk3 _ h; omega)).trans Y
  replace HB := hf.to_below HB HB.size (fun k h => by have := hk2 k h; have := hs2; omega)
  clear hf
  obtain ⟨⟨y0, y1, y2, y3, y4, y5, y6, y7⟩, -⟩ := blk8 Y
  go_wp2_with fail
  clear y0 y1 y2 y3 y4 y5 y6 y7
  refine (cHeldDesk _ _ _ _ _ S3).mono ?_
  rintro e w7 ⟨rfl, hb⟩
  replace S1 := S1.below hb
  replace S3 := S3.below hb
  replace X := bkeep hb X
  replace Y := bkeep hb Y
  replace HB := btrans HB hb
  clear hb
  go_wp2_with fail
  refine (cNewI _).mono ?_
  rintro e w8 ⟨r3, t3, zs, rfl, S4, hb⟩
  unfold deskV
  have hb3 := balloc w8 (.cells #[.int .i64 1, .slice none 0 0, .slice none 0 0, .int .i64 4, .int .i64 5, .slice none 0 0, .slice (some ⟨r3, 0, none⟩) 3 3, .slice (some ⟨t3, 0, none⟩) 3 3] 34)
  have Z := heap_alloc_new w8 (.cells #[.int .i64 1, .slice none 0 0, .slice none 0 0, .int .i64 4, .int .i64 5, .slice none 0 0, .slice (some ⟨r3, 0, none⟩) 3 3, .slice (some ⟨t3, 0, none⟩) 3 3] 34)
  replace S1 := (S1.below hb).below hb3
  replace S3 := (S3.below hb).below hb3
  replace S4 := S4.below hb3
  replace X := bkeep hb3 (bkeep hb X)
  replace Y := bkeep hb3 (bkeep hb Y)
  replace HB := btrans (btrans HB hb) hb3
  clear hb hb3
  obtain ⟨⟨x0, x1, x2, x3, x4, x5, x6, x7⟩, -⟩ := blk8 X
  obtain ⟨⟨y0, y1, y2, y3, y4, y5, y6, y7⟩, -⟩ := blk8 Z
  go_wp2_with fail
  clear x0 x1 x2 x3 x4 x5 x6 x7
  clear y0 y1 y2 y3 y4 y5 y6 y7
  generalize w8.alloc (.cells #[.int .i64 1, .slice none 0 0, .slice none 0 0, .int .i64 4, .int .i64 5, .slice none 0 0, .slice (some ⟨r3, 0, none⟩) 3 3, .slice (some ⟨t3, 0, none⟩) 3 3] 34) = w9 at *
  generalize w8.heap.size = a3 at *
  refine (cEqDesk _ _ _ _ _ _ _ _ _ S4 S1).mono ?_
  rintro e w10 ⟨rfl, hb⟩
  replace S3 := S3.below hb
  replace Y := bkeep hb Y
  replace HB := btrans HB hb
  clear hb
  obtain ⟨⟨y0, y1, y2, y3, y4, y5, y6, y7⟩, -⟩ := blk8 Y
  go_wp2_with fail
  clear y0 y1 y2 y3 y4 y5 y6 y7
  refine (cHeldDesk _ _ _ _ _ S3).mono ?_
  rintro e w11 ⟨rfl, hb⟩
  replace HB := btrans HB hb
  go_wp2
  go_ret
  exact ⟨rfl, HB⟩
end Go.Proofs.Ytjbecnflpfjicaa
