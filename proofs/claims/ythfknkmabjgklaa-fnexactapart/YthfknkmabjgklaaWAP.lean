/- The law of Apart. -/
import Derived.Test.YthfknkmabjgklaaAS
import Derived.Test.YthfknkmabjgklaaAQ
namespace Go.Proofs.Ythfknkmabjgklaa
open Go.RowKit
set_option maxRecDepth 20000 in
set_option maxHeartbeats 1600000 in
theorem walkApart (n : Int) (a : Option Addr) (p : Nat) (es : List EdgeV) (ta : Option Addr) (tc : Nat) (ts : List TripV) (w : World) (he : Edges w a es) (hn : es.length ≤ maxLen) (hz : Trips w ta ts) (hB : Big ts) (la : Option Addr) (lc : Nat) (ls : List RunV) (hn2 : Runs w la ls) (hn3 : ls.length ≤ maxLen) :
    Calls Try.prog 5 #[.agg #[.int .i64 n, .slice a es.length p], .slice ta ts.length tc, .slice la ls.length lc] w fun e w' => e = .returned (.bool true) ∧ Below w.heap.size w w' := by
  have A0 := one_block w (.cells #[.int .i64 n, .slice a es.length p] 24)
  have HB := balloc w (.cells #[.int .i64 n, .slice a es.length p] 24)
  obtain ⟨⟨xa, xb⟩, -⟩ := blk2 A0
  go_enter Try.func5, Try.ntmps5
  go_wp2_with fail
  refine (cSzNet a es.length p _ 1048576 _ (by omega) (by omega) hn).mono ?_
  rintro e w1 ⟨r, rfl, hr, hb⟩
  clear xa xb
  replace HB := btrans HB hb
  replace A0 := blk_keep hb A0
  clear hb
  rcases hr with rfl | ⟨hr, hr0⟩
  · go_wp2
    go_ret
    exact ⟨rfl, HB⟩
  have hl : es.length ≤ 1048576 := by omega
  have hr1 : r ≤ 1048576 := by omega
  have hr2 : ¬ r < 0 := by omega
  clear hr
  go_wp2_with fail
  refine (cSzTrips ta tc ts r _ (hz.below HB) hr0 hr1 hB).mono ?_
  rintro e w2 ⟨r', rfl, hr, hb⟩
  replace HB := btrans HB hb
  replace A0 := blk_keep hb A0
  clear hb
  rcases hr with rfl | ⟨hr3, hr4, hS⟩
  · go_wp2
    go_ret
    exact ⟨rfl, HB⟩
  have hr5 : ¬ r' < 0 := by omega
  go_wp2_with fail
  refine (cSzRuns la ls.length lc r' _ hr3 (by omega) hn3).mono ?_
  rintro e w2b ⟨r2, rfl, hrr, rfl⟩
  rcases hrr with rfl | ⟨hq0, hq1⟩
  · go_wp2
    go_ret
    exact ⟨rfl, HB⟩
  have hls : ls.length ≤ 1048576 := by omega
  have hq2 : ¬ r2 < 0 := by omega
  clear hr4 hB hq0
  obtain ⟨⟨x0, x1⟩, -⟩ := blk2 A0
  go_wp2_with fail
  refine (cToNet a p n es _ (he.below HB) hl).mono ?_
  rintro e w3 ⟨g1, rfl, N1, hb⟩
  replace HB := btrans HB hb
  replace A0 := blk_keep hb A0
  clear hb x0 x1
  go_wp2_with fail
  refine (cToTrips ta tc ts _ (hz.below HB) hS).mono ?_
  rintro e w4 ⟨rfl, o1, hb⟩
  replace HB := btrans HB hb
  replace A0 := blk_keep hb A0
  replace N1 := N1.below hb
  clear hb
  go_wp2_with fail
  refine (cToRuns la lc ls _ (hn2.below HB) hls).mono ?_
  rintro e w4b ⟨gn, rfl, M1, hgn, hb⟩
  clear hgn
  replace HB := btrans HB hb
  replace A0 := blk_keep hb A0
  replace N1 := N1.below hb
  replace o1 := o1.below hb
  clear hb
  go_wp2_with fail
  refine (cApartS _ _ n es _ _ ts _ _ ls _ N1.edges hl o1.read hS (Runs.of_owns M1) hls).mono ?_
  rintro e w5 ⟨q1, rfl, hq1, hb⟩
  replace HB := btrans HB hb
  replace A0 := blk_keep hb A0
  replace hq1 := hide hq1
  clear hb N1 o1 M1
  obtain ⟨⟨x0, x1⟩, -⟩ := blk2 A0
  go_wp2_with fail
  refine (cToNet a p n es _ (he.below HB) hl).mono ?_
  rintro e w6 ⟨g2, rfl, N2, hb⟩
  replace HB := btrans HB hb
  replace A0 := blk_keep hb A0
  clear hb x0 x1
  have X0 := one_block w6 (.cells #[.int .i64 n, .slice (some ⟨g2, 0, none⟩) es.length es.length] 32)
  have hb6 := balloc w6 (.cells #[.int .i64 n, .slice (some ⟨g2, 0, none⟩) es.length es.length] 32)
  replace HB := btrans HB hb6
  replace A0 := blk_keep hb6 A0
  replace N2 := N2.below hb6
  clear hb6
  go_wp2_with fail
  refine (cToTrips ta tc ts _ (hz.below HB) hS).mono ?_
  rintro e w7 ⟨rfl, o2, hb⟩
  rw [sz1] at o2
  replace HB := btrans HB hb
  replace A0 := blk_keep hb A0
  replace X0 := blk_keep hb X0
  replace N2 := N2.below hb
  clear hb
  go_wp2_with fail
  refine (cToRuns la lc ls _ (hn2.below HB) hls).mono ?_
  rintro e w7b ⟨gn2, rfl, M2, hgn, hb⟩
  clear hgn
  replace HB := btrans HB hb
  replace A0 := blk_keep hb A0
  replace X0 := blk_keep hb X0
  replace N2 := N2.below hb
  replace o2 := o2.below hb
  clear hb
  obtain ⟨⟨x0, x1⟩, -⟩ := blk2 X0
  go_wp2_with fail
  refine (cApartI _ _ n es _ _ ts _ ls.length ls _ N2.edges hl o2.read hS (Runs.of_owns M2) hls (Nat.le_refl _)).mono ?_
  rintro e w8 ⟨q2, rfl, hq2, hb⟩
  replace HB := btrans HB hb
  replace A0 := blk_keep hb A0
  replace X0 := blk_keep hb X0
  replace N2 := N2.below hb
  replace o2 := o2.below hb
  replace M2 := own_keep M2 hb
  have hqq := iff_same hq1.out hq2
  subst hqq
  clear hb hq1 hq2 x0 x1
  obtain ⟨⟨x0, x1⟩, -⟩ := blk2 X0
  obtain ⟨⟨y0, y1⟩, -⟩ := blk2 A0
  have hE := he.below HB.drew
  go_wp2_with fail
  go_region_held3 (fun w' => w'.cell? ⟨w6.heap.size, 0, none⟩ = some (.int .i64 n) ∧ w'.cell? ⟨w6.heap.size, 1, none⟩ = some (.slice (some ⟨g2, 0, none⟩) es.length es.length) ∧ w'.cell? ⟨w.heap.size, 0, none⟩ = some (.int .i64 n) ∧ w'.cell? ⟨w.heap.size, 1, none⟩ = some (.slice a es.length p)) (go_keep) (first
    | (go_at_call 13; with_reducible refine (cEqNet _ _ _ _ n es _ P2 P3 hl).mono ?_; rintro e wb ⟨rfl, hbb⟩; have Bb := btrans Bp hbb; clear hbb; obtain ⟨⟨v0, v1⟩, -⟩ := blk2 (blk_keep Bb X0); obtain ⟨⟨v2, v3⟩, -⟩ := blk2 (blk_keep Bb A0))
    | (go_at_call 9; with_reducible refine (cToNet a p n es _ hE hl).mono ?_; rintro e wp ⟨g4, rfl, N3, hbp⟩; have Bp := undrew hbp; have P2 := (N2.below Bp).edges; have P3 := N3.edges; clear hbp; obtain ⟨⟨v0, v1⟩, -⟩ := blk2 (blk_keep Bp X0); obtain ⟨⟨v2, v3⟩, -⟩ := blk2 (blk_keep Bp A0)))
  clear v0 v1 v2 v3 P2 P3 N3 N2
  replace HB := btrans HB Bb
  replace o2 := o2.below Bb
  replace M2 := own_keep M2 Bb
  clear Bb Bp hE A0 X0 x0 x1 y0 y1
  go_wp2_with fail
  refine (cToTrips ta tc ts _ (hz.below HB) hS).mono ?_
  rintro e w9 ⟨rfl, o3, hb⟩
  replace HB := btrans HB hb
  replace o2 := o2.below hb
  replace M2 := own_keep M2 hb
  clear hb
  go_wp2_with fail
  refine (cEqTrips _ _ _ _ ts _ o2.read o3.read hS).mono ?_
  rintro e w10 ⟨rfl, hb⟩
  replace HB := btrans HB hb
  replace M2 := own_keep M2 hb
  clear hb o2 o3
  go_wp2_with fail
  refine (cToRuns la lc ls _ (hn2.below HB) hls).mono ?_
  rintro e w11 ⟨gn3, rfl, M3, hgn, hb⟩
  clear hgn
  replace HB := btrans HB hb
  replace M2 := own_keep M2 hb
  clear hb
  go_wp2_with fail
  refine (cEqRuns _ _ _ _ ls _ (Runs.of_owns M2) (Runs.of_owns M3) hls).mono ?_
  rintro e w12 ⟨rfl, hb⟩
  replace HB := btrans HB hb
  clear hb
  go_wp2
  go_ret
  exact ⟨rfl, HB⟩
end Go.Proofs.Ythfknkmabjgklaa
