/- The walk of the law on TrainOk. -/
import Derived.Test.YtgnlcehpajbnoaaTL
import Derived.Deep.RegionHeld3
namespace Go.Proofs.Ytgnlcehpajbnoaa
open Go.RowKit Go.Lib
set_option maxRecDepth 20000 in
set_option maxHeartbeats 12800000 in
theorem walkTrainOk (S P : Int) (a : Option Addr) (c : Nat) (hs : List BkV) (w : World) (hz : Bks w a hs) (hn : hs.length ≤ maxLen) :
    Calls Try.prog 5 #[.agg #[.int .i64 S, .int .i64 P, .slice a hs.length c]] w fun e w' => e = .returned (.bool true) ∧ Below w.heap.size w w' := by
  have HB := balloc w (.cells #[.int .i64 S, .int .i64 P, .slice a hs.length c] 48)
  have KX : (w.alloc (.cells #[.int .i64 S, .int .i64 P, .slice a hs.length c] 48)).heap[w.heap.size]? = some (.cells #[.int .i64 S, .int .i64 P, .slice a hs.length c] 48 (0, 0)) := heap_alloc_new w _
  go_enter Try.func5, Try.ntmps5
  obtain ⟨⟨x0, x1, x2⟩, -⟩ := blk3 KX
  go_wp2_with fail
  refine (cSzTr a _ c _ _ 1048576 _ (by omega) (by omega) hn).mono ?_
  rintro e w1 ⟨r1, rfl, hr, hb⟩
  replace HB := btrans HB hb
  replace KX := blk_keep hb KX
  clear hb
  clear x0 x1 x2
  rcases hr with rfl | ⟨hr, hr0⟩
  · go_wp2
    go_ret
    exact ⟨rfl, HB⟩
  have hl : hs.length ≤ 1048576 := by omega
  have hr5 : ¬ r1 < 0 := by omega
  have hr6 : r1 ≤ 1048576 := by omega
  clear hr
  obtain ⟨⟨x0, x1, x2⟩, -⟩ := blk3 KX
  go_wp2_with fail
  refine (cToTr a c S P hs _ (hz.below HB) hl).mono ?_
  rintro e w2 ⟨gt0, rfl, N0, hb⟩
  replace HB := btrans HB hb
  replace KX := blk_keep hb KX
  clear hb
  clear x0 x1 x2
  go_wp2_with fail
  refine (cTrainS S P _ _ hs _ (Bks.of_owns N0) hl).mono ?_
  rintro e w3 ⟨rfl, hb⟩
  clear N0
  replace HB := btrans HB hb
  replace KX := blk_keep hb KX
  clear hb
  obtain ⟨⟨x0, x1, x2⟩, -⟩ := blk3 KX
  go_wp2_with fail
  have HBs := lt_of_block KX
  refine (cToTr a c S P hs _ (hz.below HB) hl).mono ?_
  rintro e w4 ⟨gt1, rfl, N1, hb⟩
  have a1 := own_from N1 (Nat.le_refl _) gt1 rfl
  replace HB := btrans HB hb
  replace KX := blk_keep hb KX
  clear hb
  clear x0 x1 x2
  have KY : (w4.alloc (.cells #[.int .i64 S, .int .i64 P, .slice (some ⟨gt1, 0, none⟩) hs.length hs.length] 26)).heap[w4.heap.size]? = some (.cells #[.int .i64 S, .int .i64 P, .slice (some ⟨gt1, 0, none⟩) hs.length hs.length] 26 (0, 0)) := heap_alloc_new w4 _
  have hbY := balloc w4 (.cells #[.int .i64 S, .int .i64 P, .slice (some ⟨gt1, 0, none⟩) hs.length hs.length] 26)
  replace HB := btrans HB hbY
  replace KX := blk_keep hbY KX
  replace N1 := own_keep N1 hbY
  clear hbY
  have a2 := owns_lt N1
  obtain ⟨⟨y0, y1, y2⟩, -⟩ := blk3 KY
  go_wp2_with fail
  refine (cTrainI S P _ _ hs _ (Bks.of_owns N1) hl).mono ?_
  rintro e w5 ⟨rfl, hb⟩
  clear y0 y1 y2
  replace HB := btrans HB hb
  replace KX := blk_keep hb KX
  replace N1 := own_keep N1 hb
  replace KY := blk_keep hb KY
  clear hb
  obtain ⟨⟨x0, x1, x2⟩, -⟩ := blk3 KX
  obtain ⟨⟨y0, y1, y2⟩, -⟩ := blk3 KY
  have hE := hz.below HB.drew
  go_wp2_with fail
  go_region_held3 (fun w' => w'.cell? ⟨w4.heap.size, 0, none⟩ = some (.int .i64 S) ∧ w'.cell? ⟨w4.heap.size, 1, none⟩ = some (.int .i64 P) ∧ w'.cell? ⟨w4.heap.size, 2, none⟩ = some (.slice (some ⟨gt1, 0, none⟩) hs.length hs.length) ∧ w'.cell? ⟨w.heap.size, 0, none⟩ = some (.int .i64 S) ∧ w'.cell? ⟨w.heap.size, 1, none⟩ = some (.int .i64 P) ∧ w'.cell? ⟨w.heap.size, 2, none⟩ = some (.slice a hs.length c)) (go_keep) (first
    | (go_at_call 29; with_reducible refine (cEqTr _ _ _ _ S P hs _ P1 P3 hl).mono ?_; rintro e wb ⟨rfl, hbb⟩; have Bb := btrans Bp hbb; clear hbb; obtain ⟨⟨v0, v1, v2⟩, -⟩ := blk3 (blk_keep Bb KY); obtain ⟨⟨v4, v5, v6⟩, -⟩ := blk3 (blk_keep Bb KX))
    | (go_at_call 28; with_reducible refine (cToTr a c S P hs _ hE hl).mono ?_; rintro e wp ⟨g3, rfl, N3, hbp⟩; have Bp := undrew hbp; have P1 := Bks.of_owns (own_keep N1 Bp); have P3 := Bks.of_owns N3; clear hbp; obtain ⟨⟨v0, v1, v2⟩, -⟩ := blk3 (blk_keep Bp KY); obtain ⟨⟨v4, v5, v6⟩, -⟩ := blk3 (blk_keep Bp KX)))
  replace HB := btrans HB Bb
  replace KX := blk_keep Bb KX
  replace N1 := own_keep N1 Bb
  replace KY := blk_keep Bb KY
  clear Bb
  clear x0 x1 x2 y0 y1 y2 v0 v1 v2 v4 v5 v6 Bp P1 P3 N3 hE
  go_wp2
  go_ret
  exact ⟨rfl, HB⟩

set_option maxRecDepth 20000 in
set_option maxHeartbeats 12800000 in
theorem walkHole (S P : Int) (a : Option Addr) (c : Nat) (hs : List BkV) (seat : Int) (on : Int) (off : Int) (w : World) (hz : Bks w a hs) (hn : hs.length ≤ maxLen) :
    Calls Try.prog 7 #[.agg #[.int .i64 S, .int .i64 P, .slice a hs.length c], .int .i64 seat, .int .i64 on, .int .i64 off] w fun e w' => e = .returned (.bool true) ∧ Below w.heap.size w w' := by
  have HB := balloc w (.cells #[.int .i64 S, .int .i64 P, .slice a hs.length c] 48)
  have KX : (w.alloc (.cells #[.int .i64 S, .int .i64 P, .slice a hs.length c] 48)).heap[w.heap.size]? = some (.cells #[.int .i64 S, .int .i64 P, .slice a hs.length c] 48 (0, 0)) := heap_alloc_new w _
  go_enter Try.func7, Try.ntmps7
  obtain ⟨⟨x0, x1, x2⟩, -⟩ := blk3 KX
  go_wp2_with fail
  refine (cSzTr a _ c _ _ 1048576 _ (by omega) (by omega) hn).mono ?_
  rintro e w1 ⟨r1, rfl, hr, hb⟩
  replace HB := btrans HB hb
  replace KX := blk_keep hb KX
  clear hb
  clear x0 x1 x2
  rcases hr with rfl | ⟨hr, hr0⟩
  · go_wp2
    go_ret
    exact ⟨rfl, HB⟩
  have hl : hs.length ≤ 1048576 := by omega
  have hr5 : ¬ r1 < 0 := by omega
  have hr6 : r1 ≤ 1048576 := by omega
  clear hr
  obtain ⟨⟨x0, x1, x2⟩, -⟩ := blk3 KX
  go_wp2_with fail
  refine (cToTr a c S P hs _ (hz.below HB) hl).mono ?_
  rintro e w2 ⟨gt0, rfl, N0, hb⟩
  replace HB := btrans HB hb
  replace KX := blk_keep hb KX
  clear hb
  clear x0 x1 x2
  go_wp2_with fail
  refine (cHoleS S P _ _ hs seat on off _ (Bks.of_owns N0) hl).mono ?_
  rintro e w3 ⟨rfl, hb⟩
  clear N0
  replace HB := btrans HB hb
  replace KX := blk_keep hb KX
  clear hb
  obtain ⟨⟨x0, x1, x2⟩, -⟩ := blk3 KX
  go_wp2_with fail
  have HBs := lt_of_block KX
  refine (cToTr a c S P hs _ (hz.below HB) hl).mono ?_
  rintro e w4 ⟨gt1, rfl, N1, hb⟩
  have a1 := own_from N1 (Nat.le_refl _) gt1 rfl
  replace HB := btrans HB hb
  replace KX := blk_keep hb KX
  clear hb
  clear x0 x1 x2
  have KY : (w4.alloc (.cells #[.int .i64 S, .int .i64 P, .slice (some ⟨gt1, 0, none⟩) hs.length hs.length] 26)).heap[w4.heap.size]? = some (.cells #[.int .i64 S, .int .i64 P, .slice (some ⟨gt1, 0, none⟩) hs.length hs.length] 26 (0, 0)) := heap_alloc_new w4 _
  have hbY := balloc w4 (.cells #[.int .i64 S, .int .i64 P, .slice (some ⟨gt1, 0, none⟩) hs.length hs.length] 26)
  replace HB := btrans HB hbY
  replace KX := blk_keep hbY KX
  replace N1 := own_keep N1 hbY
  clear hbY
  have a2 := owns_lt N1
  obtain ⟨⟨y0, y1, y2⟩, -⟩ := blk3 KY
  go_wp2_with fail
  refine (cHoleI S P _ _ hs seat on off _ (Bks.of_owns N1) hl).mono ?_
  rintro e w5 ⟨rfl, hb⟩
  clear y0 y1 y2
  replace HB := btrans HB hb
  replace KX := blk_keep hb KX
  replace N1 := own_keep N1 hb
  replace KY := blk_keep hb KY
  clear hb
  obtain ⟨⟨x0, x1, x2⟩, -⟩ := blk3 KX
  obtain ⟨⟨y0, y1, y2⟩, -⟩ := blk3 KY
  have hE := hz.below HB.drew
  go_wp2_with fail
  go_region_held3 (fun w' => w'.cell? ⟨w4.heap.size, 0, none⟩ = some (.int .i64 S) ∧ w'.cell? ⟨w4.heap.size, 1, none⟩ = some (.int .i64 P) ∧ w'.cell? ⟨w4.heap.size, 2, none⟩ = some (.slice (some ⟨gt1, 0, none⟩) hs.length hs.length) ∧ w'.cell? ⟨w.heap.size, 0, none⟩ = some (.int .i64 S) ∧ w'.cell? ⟨w.heap.size, 1, none⟩ = some (.int .i64 P) ∧ w'.cell? ⟨w.heap.size, 2, none⟩ = some (.slice a hs.length c)) (go_keep) (first
    | (go_at_call 29; with_reducible refine (cEqTr _ _ _ _ S P hs _ P1 P3 hl).mono ?_; rintro e wb ⟨rfl, hbb⟩; have Bb := btrans Bp hbb; clear hbb; obtain ⟨⟨v0, v1, v2⟩, -⟩ := blk3 (blk_keep Bb KY); obtain ⟨⟨v4, v5, v6⟩, -⟩ := blk3 (blk_keep Bb KX))
    | (go_at_call 28; with_reducible refine (cToTr a c S P hs _ hE hl).mono ?_; rintro e wp ⟨g3, rfl, N3, hbp⟩; have Bp := undrew hbp; have P1 := Bks.of_owns (own_keep N1 Bp); have P3 := Bks.of_owns N3; clear hbp; obtain ⟨⟨v0, v1, v2⟩, -⟩ := blk3 (blk_keep Bp KY); obtain ⟨⟨v4, v5, v6⟩, -⟩ := blk3 (blk_keep Bp KX)))
  replace HB := btrans HB Bb
  replace KX := blk_keep Bb KX
  replace N1 := own_keep N1 Bb
  replace KY := blk_keep Bb KY
  clear Bb
  clear x0 x1 x2 y0 y1 y2 v0 v1 v2 v4 v5 v6 Bp P1 P3 N3 hE
  go_wp2
  go_ret
  exact ⟨rfl, HB⟩

end Go.Proofs.Ytgnlcehpajbnoaa
