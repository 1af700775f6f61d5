/- The law of DeskOk. -/
import Derived.Test.YtjbecnflpfjicaaGreatKS
namespace Go.Proofs.YtjbecnflpfjicaaGreat
open Go.RowKit
set_option maxRecDepth 20000 in
set_option maxHeartbeats 3200000 in
theorem walkDeskOk (n : Int) (ea : Option Addr) (ec : Nat) (es : List EdgeV) (ta : Option Addr) (tc : Nat) (ts : List TripV) (S P : Int) (ha : Option Addr) (hc : Nat) (hs : List s14.BkV) (ra : Option Addr) (rc : Nat) (room : List Int) (wa : Option Addr) (wc : Nat) (vs : List Value) (rows : List (List Int)) (w : World) (h : DeskR w ea es ta ts ha hs ra room wa vs rows) (hB : DeskB es ts hs room rows) :
    Calls Tryz.prog 3 #[.agg #[.int .i64 n, .slice ea es.length ec, .slice ta ts.length tc, .int .i64 S, .int .i64 P, .slice ha hs.length hc, .slice ra room.length rc, .slice wa rows.length wc]] w fun e w' => e = .returned (.bool true) ∧ Below w.heap.size w w' := by
  have HB := balloc w (.cells #[.int .i64 n, .slice ea es.length ec, .slice ta ts.length tc, .int .i64 S, .int .i64 P, .slice ha hs.length hc, .slice ra room.length rc, .slice wa rows.length wc] 34)
  have X := heap_alloc_new w (.cells #[.int .i64 n, .slice ea es.length ec, .slice ta ts.length tc, .int .i64 S, .int .i64 P, .slice ha hs.length hc, .slice ra room.length rc, .slice wa rows.length wc] 34)
  obtain ⟨⟨x0, x1, x2, x3, x4, x5, x6, x7⟩, -⟩ := blk8 X
  go_enter Tryz.func3, Tryz.ntmps3
  go_wp2_with fail
  clear x0 x1 x2 x3 x4 x5 x6 x7
  refine (cSzDesk n ea ec es ta tc ts S P ha hc hs ra rc room wa wc vs rows _ (h.below HB) hB).mono ?_
  rintro e w1 ⟨r, rfl, hr, hb⟩
  replace HB := btrans HB hb
  replace X := bkeep hb X
  clear hb
  rcases hr with rfl | ⟨hr0, hS⟩
  · go_wp2
    go_ret
    exact ⟨rfl, HB⟩
  have hr1 : ¬ r < 0 := by omega
  clear hr0
  obtain ⟨⟨x0, x1, x2, x3, x4, x5, x6, x7⟩, -⟩ := blk8 X
  go_wp2_with fail
  clear x0 x1 x2 x3 x4 x5 x6 x7
  refine (cToDesk n ea ec es ta tc ts S P ha hc hs ra rc room wa wc vs rows _ (h.below HB) hS).mono ?_
  rintro e w2 ⟨g1a, g2a, g3a, g4a, g5a, us, rfl, O1, hb⟩
  replace HB := btrans HB hb
  replace X := bkeep hb X
  clear hb
  go_wp2_with fail
  refine (cDeskS n _ _ es _ _ ts S P _ _ hs _ _ room _ _ us rows _ O1.read hS).mono ?_
  rintro e w3 ⟨q1, rfl, hq1, hb⟩
  replace HB := btrans HB hb
  replace X := bkeep hb X
  replace hq1 := hide hq1
  clear hb O1
  obtain ⟨⟨x0, x1, x2, x3, x4, x5, x6, x7⟩, -⟩ := blk8 X
  go_wp2_with fail
  clear x0 x1 x2 x3 x4 x5 x6 x7
  refine (cToDesk n ea ec es ta tc ts S P ha hc hs ra rc room wa wc vs rows _ (h.below HB) hS).mono ?_
  rintro e w4 ⟨g1b, g2b, g3b, g4b, g5b, us2, rfl, O2, hb⟩
  replace HB := btrans HB hb
  replace X := bkeep hb X
  clear hb
  have hb := balloc w4 (.cells #[.int .i64 n, .slice (some ⟨g1b, 0, none⟩) es.length es.length, .slice (some ⟨g2b, 0, none⟩) ts.length ts.length, .int .i64 S, .int .i64 P, .slice (some ⟨g3b, 0, none⟩) hs.length hs.length, .slice (some ⟨g4b, 0, none⟩) room.length room.length, .slice (some ⟨g5b, 0, none⟩) rows.length rows.length] 46)
  have Y := heap_alloc_new w4 (.cells #[.int .i64 n, .slice (some ⟨g1b, 0, none⟩) es.length es.length, .slice (some ⟨g2b, 0, none⟩) ts.length ts.length, .int .i64 S, .int .i64 P, .slice (some ⟨g3b, 0, none⟩) hs.length hs.length, .slice (some ⟨g4b, 0, none⟩) room.length room.length, .slice (some ⟨g5b, 0, none⟩) rows.length rows.length] 46)
  replace HB := btrans HB hb
  replace X := bkeep hb X
  replace O2 := O2.below hb
  clear hb
  obtain ⟨⟨y0, y1, y2, y3, y4, y5, y6, y7⟩, -⟩ := blk8 Y
  go_wp2_with fail
  clear y0 y1 y2 y3 y4 y5 y6 y7
  generalize w4.alloc (.cells #[.int .i64 n, .slice (some ⟨g1b, 0, none⟩) es.length es.length, .slice (some ⟨g2b, 0, none⟩) ts.length ts.length, .int .i64 S, .int .i64 P, .slice (some ⟨g3b, 0, none⟩) hs.length hs.length, .slice (some ⟨g4b, 0, none⟩) room.length room.length, .slice (some ⟨g5b, 0, none⟩) rows.length rows.length] 46) = w5 at *
  generalize w4.heap.size = b at *
  refine (cDeskI n _ _ es _ _ ts S P _ _ hs _ _ room _ _ us2 rows _ O2.read hS).mono ?_
  rintro e w6 ⟨q2, rfl, hq2, hb⟩
  have hqq := iff_same hq1.out hq2
  subst hqq
  replace HB := btrans HB hb
  replace X := bkeep hb X
  replace Y := bkeep hb Y
  replace O2 := O2.below hb
  clear hb hq1 hq2
  obtain ⟨⟨x0, x1, x2, x3, x4, x5, x6, x7⟩, -⟩ := blk8 X
  obtain ⟨⟨y0, y1, y2, y3, y4, y5, y6, y7⟩, -⟩ := blk8 Y
  have hD := h.below HB.drew
  go_wp2_with fail
  go_region_held3 (fun w' => w'.cell? ⟨b, 0, none⟩ = some (.int .i64 n) ∧ w'.cell? ⟨b, 1, none⟩ = some (.slice (some ⟨g1b, 0, none⟩) es.length es.length) ∧ w'.cell? ⟨b, 2, none⟩ = some (.slice (some ⟨g2b, 0, none⟩) ts.length ts.length) ∧ w'.cell? ⟨b, 3, none⟩ = some (.int .i64 S) ∧ w'.cell? ⟨b, 4, none⟩ = some (.int .i64 P) ∧ w'.cell? ⟨b, 5, none⟩ = some (.slice (some ⟨g3b, 0, none⟩) hs.length hs.length) ∧ w'.cell? ⟨b, 6, none⟩ = some (.slice (some ⟨g4b, 0, none⟩) room.length room.length) ∧ w'.cell? ⟨b, 7, none⟩ = some (.slice (some ⟨g5b, 0, none⟩) rows.length rows.length) ∧ w'.cell? ⟨w.heap.size, 0, none⟩ = some (.int .i64 n) ∧ w'.cell? ⟨w.heap.size, 1, none⟩ = some (.slice ea es.length ec) ∧ w'.cell? ⟨w.heap.size, 2, none⟩ = some (.slice ta ts.length tc) ∧ w'.cell? ⟨w.heap.size, 3, none⟩ = some (.int .i64 S) ∧ w'.cell? ⟨w.heap.size, 4, none⟩ = some (.int .i64 P) ∧ w'.cell? ⟨w.heap.size, 5, none⟩ = some (.slice ha hs.length hc) ∧ w'.cell? ⟨w.heap.size, 6, none⟩ = some (.slice ra room.length rc) ∧ w'.cell? ⟨w.heap.size, 7, none⟩ = some (.slice wa rows.length wc)) (go_keep) (first
    | (go_at_call 8; with_reducible refine (cEqDesk n es ts S P hs _ _ room rows _ _ _ _ _ _ _ _ _ _ _ _ _ P2 P3 hS).mono ?_; rintro e wb ⟨rfl, hbb⟩; have Bb := btrans Bp hbb; clear hbb; obtain ⟨⟨v0, v1, v2, v3, v4, v5, v6, v7⟩, -⟩ := blk8 (bkeep Bb X); obtain ⟨⟨u0, u1, u2, u3, u4, u5, u6, u7⟩, -⟩ := blk8 (bkeep Bb Y))
    | (go_at_call 6; with_reducible refine (cToDesk n ea ec es ta tc ts S P ha hc hs ra rc room wa wc vs rows _ hD hS).mono ?_; rintro e wp ⟨g1c, g2c, g3c, g4c, g5c, us3, rfl, P3, hbp⟩; have Bp := undrew hbp; have P2 := O2.below Bp; clear hbp; obtain ⟨⟨v0, v1, v2, v3, v4, v5, v6, v7⟩, -⟩ := blk8 (bkeep Bp X); obtain ⟨⟨u0, u1, u2, u3, u4, u5, u6, u7⟩, -⟩ := blk8 (bkeep Bp Y)))
  have HB2 := btrans HB Bb
  go_wp2
  go_ret
  exact ⟨rfl, HB2⟩
end Go.Proofs.YtjbecnflpfjicaaGreat
