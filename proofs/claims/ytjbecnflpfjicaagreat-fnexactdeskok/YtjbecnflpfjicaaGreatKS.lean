/- Desks measured and compared. -/
import Derived.Test.YtjbecnflpfjicaaGreatKT
namespace Go.Proofs.YtjbecnflpfjicaaGreat
open Go.RowKit
theorem iff_same {a b : Bool} {P : Prop} (h : a = true ↔ P) (g : b = true ↔ P) : a = b := by
  rw [Bool.eq_iff_iff]; exact h.trans g.symm
/-- What comes in. -/
structure DeskB (es : List EdgeV) (ts : List TripV) (hs : List s14.BkV) (room : List Int) (rows : List (List Int)) : Prop where
  es : es.length ≤ maxLen
  ts : Big ts
  hs : hs.length ≤ maxLen
  room : room.length ≤ maxLen
  rown : rows.length ≤ maxLen
  each : ∀ i, i < rows.length → (s18.rwA rows i).length ≤ maxLen
set_option maxRecDepth 20000 in
set_option maxHeartbeats 1600000 in
theorem cSzDesk (n : Int) (ea : Option Addr) (ec : Nat) (es : List EdgeV) (ta : Option Addr) (tc : Nat) (ts : List TripV) (S P : Int) (ha : Option Addr) (hc : Nat) (hs : List s14.BkV) (ra : Option Addr) (rc : Nat) (room : List Int) (wa : Option Addr) (wc : Nat) (vs : List Value) (rows : List (List Int)) (w : World) (h : DeskR w ea es ta ts ha hs ra room wa vs rows) (hB : DeskB es ts hs room rows) :
    Calls Tryz.prog 4 #[.agg #[.int .i64 n, .slice ea es.length ec, .slice ta ts.length tc, .int .i64 S, .int .i64 P, .slice ha hs.length hc, .slice ra room.length rc, .slice wa rows.length wc], .int .i64 1048576] w fun e w' => ∃ r, e = .returned (.int .i64 r) ∧ (r = -1 ∨ (0 ≤ r ∧ DeskS es ts hs room rows)) ∧ Below w.heap.size w w' := by
  have HB := balloc w (.cells #[.int .i64 n, .slice ea es.length ec, .slice ta ts.length tc, .int .i64 S, .int .i64 P, .slice ha hs.length hc, .slice ra room.length rc, .slice wa rows.length wc] 34)
  have X := heap_alloc_new w (.cells #[.int .i64 n, .slice ea es.length ec, .slice ta ts.length tc, .int .i64 S, .int .i64 P, .slice ha hs.length hc, .slice ra room.length rc, .slice wa rows.length wc] 34)
  obtain ⟨⟨x0, x1, x2, x3, x4, x5, x6, x7⟩, -⟩ := blk8 X
  go_enter Tryz.func4, Tryz.ntmps4
  go_wp2_with fail
  clear x0 x1 x2 x3 x4 x5 x6 x7
  refine (cSzNet ea es.length ec _ 1048576 _ (by omega) (by omega) hB.es).mono ?_
  rintro e w1 ⟨r1, rfl, hr, hb⟩
  replace HB := btrans HB hb
  replace X := bkeep hb X
  clear hb
  rcases hr with rfl | ⟨hr, hr0⟩
  · go_wp2
    go_ret
    exact ⟨_, rfl, .inl rfl, HB⟩
  have h1 : es.length ≤ 1048576 := by omega
  have hr1 : r1 ≤ 1048576 := by omega
  have hr2 : ¬ r1 < 0 := by omega
  clear hr
  obtain ⟨⟨x0, x1, x2, x3, x4, x5, x6, x7⟩, -⟩ := blk8 X
  go_wp2_with fail
  clear x0 x1 x2 x3 x4 x5 x6 x7
  refine (cSzTrips ta tc ts r1 _ (h.ts.below HB) hr0 hr1 hB.ts).mono ?_
  rintro e w2 ⟨r2, rfl, hr, hb⟩
  replace HB := btrans HB hb
  replace X := bkeep hb X
  clear hb
  rcases hr with rfl | ⟨hr3, hr4, h2⟩
  · go_wp2
    go_ret
    exact ⟨_, rfl, .inl rfl, HB⟩
  have hr5 : ¬ r2 < 0 := by omega
  have hr6 : r2 ≤ 1048576 := by omega
  clear hr4
  obtain ⟨⟨x0, x1, x2, x3, x4, x5, x6, x7⟩, -⟩ := blk8 X
  go_wp2_with fail
  clear x0 x1 x2 x3 x4 x5 x6 x7
  refine (s14.cSzTr ha hs.length hc _ _ r2 _ hr3 hr6 hB.hs).mono ?_
  rintro e w3 ⟨r3, rfl, hr, hb⟩
  replace HB := btrans HB hb
  replace X := bkeep hb X
  clear hb
  rcases hr with rfl | ⟨hr, hr7⟩
  · go_wp2
    go_ret
    exact ⟨_, rfl, .inl rfl, HB⟩
  have h3 : hs.length ≤ 1048576 := by omega
  have hr8 : ¬ r3 < 0 := by omega
  have hr9 : r3 ≤ 1048576 := by omega
  clear hr
  obtain ⟨⟨x0, x1, x2, x3, x4, x5, x6, x7⟩, -⟩ := blk8 X
  go_wp2_with fail
  clear x0 x1 x2 x3 x4 x5 x6 x7
  refine (s18.cSzSid ra rc room wa wc vs rows r3 _ (h.rows.below HB) hr7 hr9 hB.room hB.rown hB.each).mono ?_
  rintro e w4 ⟨r4, rfl, hr, hb⟩
  replace HB := btrans HB hb
  clear hb X
  rcases hr with rfl | ⟨hr10, hr11⟩
  · go_wp2
    go_ret
    exact ⟨_, rfl, .inl rfl, HB⟩
  have h5 : DeskS es ts hs room rows := ⟨h1, h2, h3, by omega, by omega, fun i hi => by have := s18.sm_row hi; omega⟩
  have hr12 : ¬ r4 < 0 := by omega
  clear hr11
  go_wp2
  go_ret
  exact ⟨_, rfl, .inr ⟨hr10, h5⟩, HB⟩
set_option maxRecDepth 20000 in
set_option maxHeartbeats 1600000 in
theorem cEqDesk (n : Int) (es : List EdgeV) (ts : List TripV) (S P : Int) (hs : List s14.BkV) (us vs : List Value) (room : List Int) (rows : List (List Int)) (B1 B2 g1a g2a g3a g4a g5a g1b g2b g3b g4b g5b : Nat) (w : World) (h1 : DeskO B1 w g1a g2a g3a g4a g5a es ts hs us room rows) (h2 : DeskO B2 w g1b g2b g3b g4b g5b es ts hs vs room rows) (hS : DeskS es ts hs room rows) :
    Calls Tryz.prog 8 #[.agg #[.int .i64 n, .slice (some ⟨g1a, 0, none⟩) es.length es.length, .slice (some ⟨g2a, 0, none⟩) ts.length ts.length, .int .i64 S, .int .i64 P, .slice (some ⟨g3a, 0, none⟩) hs.length hs.length, .slice (some ⟨g4a, 0, none⟩) room.length room.length, .slice (some ⟨g5a, 0, none⟩) rows.length rows.length], .agg #[.int .i64 n, .slice (some ⟨g1b, 0, none⟩) es.length es.length, .slice (some ⟨g2b, 0, none⟩) ts.length ts.length, .int .i64 S, .int .i64 P, .slice (some ⟨g3b, 0, none⟩) hs.length hs.length, .slice (some ⟨g4b, 0, none⟩) room.length room.length, .slice (some ⟨g5b, 0, none⟩) rows.length rows.length]] w fun e w' => e = .returned (.bool true) ∧ Below w.heap.size w w' := by
  have HB := btrans (balloc w (.cells #[.int .i64 n, .slice (some ⟨g1a, 0, none⟩) es.length es.length, .slice (some ⟨g2a, 0, none⟩) ts.length ts.length, .int .i64 S, .int .i64 P, .slice (some ⟨g3a, 0, none⟩) hs.length hs.length, .slice (some ⟨g4a, 0, none⟩) room.length room.length, .slice (some ⟨g5a, 0, none⟩) rows.length rows.length] 46)) (balloc _ (.cells #[.int .i64 n, .slice (some ⟨g1b, 0, none⟩) es.length es.length, .slice (some ⟨g2b, 0, none⟩) ts.length ts.length, .int .i64 S, .int .i64 P, .slice (some ⟨g3b, 0, none⟩) hs.length hs.length, .slice (some ⟨g4b, 0, none⟩) room.length room.length, .slice (some ⟨g5b, 0, none⟩) rows.length rows.length] 46))
  have X : ((w.alloc (.cells #[.int .i64 n, .slice (some ⟨g1a, 0, none⟩) es.length es.length, .slice (some ⟨g2a, 0, none⟩) ts.length ts.length, .int .i64 S, .int .i64 P, .slice (some ⟨g3a, 0, none⟩) hs.length hs.length, .slice (some ⟨g4a, 0, none⟩) room.length room.length, .slice (some ⟨g5a, 0, none⟩) rows.length rows.length] 46)).alloc (.cells #[.int .i64 n, .slice (some ⟨g1b, 0, none⟩) es.length es.length, .slice (some ⟨g2b, 0, none⟩) ts.length ts.length, .int .i64 S, .int .i64 P, .slice (some ⟨g3b, 0, none⟩) hs.length hs.length, .slice (some ⟨g4b, 0, none⟩) room.length room.length, .slice (some ⟨g5b, 0, none⟩) rows.length rows.length] 46)).heap[w.heap.size]? = some (.cells #[.int .i64 n, .slice (some ⟨g1a, 0, none⟩) es.length es.length, .slice (some ⟨g2a, 0, none⟩) ts.length ts.length, .int .i64 S, .int .i64 P, .slice (some ⟨g3a, 0, none⟩) hs.length hs.length, .slice (some ⟨g4a, 0, none⟩) room.length room.length, .slice (some ⟨g5a, 0, none⟩) rows.length rows.length] 46 (0, 0)) := pold _ (pnew _ _ rfl)
  have Y : ((w.alloc (.cells #[.int .i64 n, .slice (some ⟨g1a, 0, none⟩) es.length es.length, .slice (some ⟨g2a, 0, none⟩) ts.length ts.length, .int .i64 S, .int .i64 P, .slice (some ⟨g3a, 0, none⟩) hs.length hs.length, .slice (some ⟨g4a, 0, none⟩) room.length room.length, .slice (some ⟨g5a, 0, none⟩) rows.length rows.length] 46)).alloc (.cells #[.int .i64 n, .slice (some ⟨g1b, 0, none⟩) es.length es.length, .slice (some ⟨g2b, 0, none⟩) ts.length ts.length, .int .i64 S, .int .i64 P, .slice (some ⟨g3b, 0, none⟩) hs.length hs.length, .slice (some ⟨g4b, 0, none⟩) room.length room.length, .slice (some ⟨g5b, 0, none⟩) rows.length rows.length] 46)).heap[w.heap.size + 1]? = some (.cells #[.int .i64 n, .slice (some ⟨g1b, 0, none⟩) es.length es.length, .slice (some ⟨g2b, 0, none⟩) ts.length ts.length, .int .i64 S, .int .i64 P, .slice (some ⟨g3b, 0, none⟩) hs.length hs.length, .slice (some ⟨g4b, 0, none⟩) room.length room.length, .slice (some ⟨g5b, 0, none⟩) rows.length rows.length] 46 (0, 0)) := pnew _ _ (by rw [psize])
  obtain ⟨⟨x0, x1, x2, x3, x4, x5, x6, x7⟩, -⟩ := blk8 X
  obtain ⟨⟨y0, y1, y2, y3, y4, y5, y6, y7⟩, -⟩ := blk8 Y
  go_enter Tryz.func8, Tryz.ntmps8
  go_wp2_with fail
  clear x0 x1 x2 x3 x4 x5 x6 x7
  clear y0 y1 y2 y3 y4 y5 y6 y7
  refine (cEqNet _ _ _ _ n es _ (h1.read.es.below HB) (h2.read.es.below HB) hS.es).mono ?_
  rintro e w1 ⟨rfl, hb⟩
  replace HB := btrans HB hb
  replace X := bkeep hb X
  replace Y := bkeep hb Y
  clear hb
  obtain ⟨⟨x0, x1, x2, x3, x4, x5, x6, x7⟩, -⟩ := blk8 X
  obtain ⟨⟨y0, y1, y2, y3, y4, y5, y6, y7⟩, -⟩ := blk8 Y
  go_wp2_with fail
  clear x0 x1 x2 x3 x4 x5 x6 x7
  clear y0 y1 y2 y3 y4 y5 y6 y7
  refine (cEqTrips _ _ _ _ ts _ (h1.read.ts.below HB) (h2.read.ts.below HB) hS.ts).mono ?_
  rintro e w1 ⟨rfl, hb⟩
  replace HB := btrans HB hb
  replace X := bkeep hb X
  replace Y := bkeep hb Y
  clear hb
  obtain ⟨⟨x0, x1, x2, x3, x4, x5, x6, x7⟩, -⟩ := blk8 X
  obtain ⟨⟨y0, y1, y2, y3, y4, y5, y6, y7⟩, -⟩ := blk8 Y
  go_wp2_with fail
  clear x0 x1 x2 x3 x4 x5 x6 x7
  clear y0 y1 y2 y3 y4 y5 y6 y7
  refine (s14.cEqTr _ _ _ _ S P hs _ (h1.read.hs.below HB) (h2.read.hs.below HB) hS.hs).mono ?_
  rintro e w1 ⟨rfl, hb⟩
  replace HB := btrans HB hb
  replace X := bkeep hb X
  replace Y := bkeep hb Y
  clear hb
  obtain ⟨⟨x0, x1, x2, x3, x4, x5, x6, x7⟩, -⟩ := blk8 X
  obtain ⟨⟨y0, y1, y2, y3, y4, y5, y6, y7⟩, -⟩ := blk8 Y
  go_wp2_with fail
  clear x0 x1 x2 x3 x4 x5 x6 x7
  clear y0 y1 y2 y3 y4 y5 y6 y7
  refine (s18.cEqSid _ _ _ _ _ _ us vs room rows _ (h1.sid.below HB) (h2.sid.below HB) hS.room hS.rown hS.each).mono ?_
  rintro e w1 ⟨rfl, hb⟩
  replace HB := btrans HB hb
  replace X := bkeep hb X
  replace Y := bkeep hb Y
  clear hb
  clear X Y
  go_wp2
  go_ret
  exact ⟨rfl, HB⟩
end Go.Proofs.YtjbecnflpfjicaaGreat
