/- The walks of the laws on tariffs, fares, cards and refunds. -/
import Derived.Test.YtepdnaahhkkdeaaCB
import Derived.Test.YtepdnaahhkkdeaaCC
import Derived.Test.YtepdnaahhkkdeaaCD
import Derived.Deep.RegionHeld3
namespace Go.Proofs.Ytepdnaahhkkdeaa
open Go.RowKit
set_option maxRecDepth 20000 in
set_option maxHeartbeats 6400000 in
theorem walkTariffOk (b s r : Int) (js : List Int) (a : Option Addr) (c : Nat) (w : World) (hz : Ints w a js) (hn : js.length ≤ maxLen) :
    Calls Try.prog 3 #[.agg #[.int .i64 b, .int .i64 s, .slice a js.length c, .int .i64 r]] w fun e w' => e = .returned (.bool true) ∧ Below w.heap.size w w' := by
  have HB := balloc w (.cells #[.int .i64 b, .int .i64 s, .slice a js.length c, .int .i64 r] 24)
  have X := Bx4.new w (.int .i64 b) (.int .i64 s) (.slice a js.length c) (.int .i64 r) 24
  go_enter Try.func3, Try.ntmps3
  obtain ⟨x0, x1, x2, x3⟩ := id X
  go_wp2_with fail
  refine (cSzTf a _ c _ _ _ 1048576 _ (by omega) (by omega) hn).mono ?_
  rintro e w1 ⟨r1, rfl, hr, hb⟩
  replace HB := btrans HB hb
  replace X := X.below hb
  clear x0 x1 x2 x3
  clear hb
  rcases hr with rfl | ⟨hr, hr0⟩
  · go_wp2
    go_ret
    exact ⟨rfl, HB⟩
  have hl : js.length ≤ 1048576 := by omega
  have hr5 : ¬ r1 < 0 := by omega
  have hr6 : r1 ≤ 1048576 := by omega
  clear hr
  obtain ⟨x0, x1, x2, x3⟩ := id X
  go_wp2_with fail
  refine (cToTf a c b s r js _ (hz.below HB) hl).mono ?_
  rintro e w2 ⟨gt0, rfl, N0, hb⟩
  replace HB := btrans HB hb
  replace X := X.below hb
  clear x0 x1 x2 x3
  clear hb
  go_wp2_with fail
  refine (cTfS b s r js _ _ _ N0.ints hl).mono ?_
  rintro e w3 ⟨rfl, hb⟩
  clear N0
  replace HB := btrans HB hb
  replace X := X.below hb
  clear hb
  obtain ⟨x0, x1, x2, x3⟩ := id X
  go_wp2_with fail
  refine (cToTf a c b s r js _ (hz.below HB) hl).mono ?_
  rintro e w4 ⟨gt1, rfl, N1, hb⟩
  replace HB := btrans HB hb
  replace X := X.below hb
  clear x0 x1 x2 x3
  clear hb
  have Y := Bx4.new w4 (.int .i64 b) (.int .i64 s) (.slice (some ⟨gt1, 0, none⟩) js.length js.length) (.int .i64 r) 27
  have hbY := balloc w4 (.cells #[.int .i64 b, .int .i64 s, .slice (some ⟨gt1, 0, none⟩) js.length js.length, .int .i64 r] 27)
  replace HB := btrans HB hbY
  replace X := X.below hbY
  replace N1 := N1.below hbY
  clear hbY
  obtain ⟨y0, y1, y2, y3⟩ := id Y
  go_wp2_with fail
  refine (cTfI b s r js _ _ _ N1.ints hl).mono ?_
  rintro e w5 ⟨rfl, hb⟩
  replace HB := btrans HB hb
  replace X := X.below hb
  replace N1 := N1.below hb
  replace Y := Y.below hb
  clear hb
  clear y0 y1 y2 y3
  obtain ⟨x0, x1, x2, x3⟩ := id X
  obtain ⟨y0, y1, y2, y3⟩ := id Y
  have hE := hz.below HB.drew
  go_wp2_with fail
  go_region_held3 (fun w' => w'.cell? ⟨w4.heap.size, 0, none⟩ = some (.int .i64 b) ∧ w'.cell? ⟨w4.heap.size, 1, none⟩ = some (.int .i64 s) ∧ w'.cell? ⟨w4.heap.size, 2, none⟩ = some (.slice (some ⟨gt1, 0, none⟩) js.length js.length) ∧ w'.cell? ⟨w4.heap.size, 3, none⟩ = some (.int .i64 r) ∧ w'.cell? ⟨w.heap.size, 0, none⟩ = some (.int .i64 b) ∧ w'.cell? ⟨w.heap.size, 1, none⟩ = some (.int .i64 s) ∧ w'.cell? ⟨w.heap.size, 2, none⟩ = some (.slice a js.length c) ∧ w'.cell? ⟨w.heap.size, 3, none⟩ = some (.int .i64 r)) (go_keep) (first
    | (go_at_call 16; with_reducible refine (cEqTf _ _ _ _ b s r js _ P1 P3 hl).mono ?_; rintro e wb ⟨rfl, hbb⟩; have Bb := btrans Bp hbb; clear hbb; obtain ⟨v0, v1, v2, v3⟩ := Y.c Bb; obtain ⟨v4, v5, v6, v7⟩ := X.c Bb)
    | (go_at_call 14; with_reducible refine (cToTf a c b s r js _ hE hl).mono ?_; rintro e wp ⟨g3, rfl, N3, hbp⟩; have Bp := undrew hbp; have P1 := (N1.below Bp).ints; have P3 := N3.ints; clear hbp; obtain ⟨v0, v1, v2, v3⟩ := Y.c Bp; obtain ⟨v4, v5, v6, v7⟩ := X.c Bp))
  replace HB := btrans HB Bb
  replace X := X.below Bb
  replace N1 := N1.below Bb
  replace Y := Y.below Bb
  clear x0 x1 x2 x3 y0 y1 y2 y3 v0 v1 v2 v3 v4 v5 v6 v7 Bb Bp P1 P3 N3 hE
  go_wp2
  go_ret
  exact ⟨rfl, HB⟩

set_option maxRecDepth 20000 in
set_option maxHeartbeats 6400000 in
theorem walkFare (b s r : Int) (js : List Int) (a : Option Addr) (c : Nat) (x : Int) (y : Int) (w : World) (hz : Ints w a js) (hn : js.length ≤ maxLen) :
    Calls Try.prog 4 #[.agg #[.int .i64 b, .int .i64 s, .slice a js.length c, .int .i64 r], .int .i64 x, .int .i64 y] w fun e w' => e = .returned (.bool true) ∧ Below w.heap.size w w' := by
  have HB := balloc w (.cells #[.int .i64 b, .int .i64 s, .slice a js.length c, .int .i64 r] 24)
  have X := Bx4.new w (.int .i64 b) (.int .i64 s) (.slice a js.length c) (.int .i64 r) 24
  go_enter Try.func4, Try.ntmps4
  obtain ⟨x0, x1, x2, x3⟩ := id X
  go_wp2_with fail
  refine (cSzTf a _ c _ _ _ 1048576 _ (by omega) (by omega) hn).mono ?_
  rintro e w1 ⟨r1, rfl, hr, hb⟩
  replace HB := btrans HB hb
  replace X := X.below hb
  clear x0 x1 x2 x3
  clear hb
  rcases hr with rfl | ⟨hr, hr0⟩
  · go_wp2
    go_ret
    exact ⟨rfl, HB⟩
  have hl : js.length ≤ 1048576 := by omega
  have hr5 : ¬ r1 < 0 := by omega
  have hr6 : r1 ≤ 1048576 := by omega
  clear hr
  obtain ⟨x0, x1, x2, x3⟩ := id X
  go_wp2_with fail
  refine (cToTf a c b s r js _ (hz.below HB) hl).mono ?_
  rintro e w2 ⟨gt0, rfl, N0, hb⟩
  replace HB := btrans HB hb
  replace X := X.below hb
  clear x0 x1 x2 x3
  clear hb
  go_wp2_with fail
  refine (cFareS b s r x y js _ _ _ N0.ints hl).mono ?_
  rintro e w3 ⟨rfl, hb⟩
  clear N0
  replace HB := btrans HB hb
  replace X := X.below hb
  clear hb
  obtain ⟨x0, x1, x2, x3⟩ := id X
  go_wp2_with fail
  refine (cToTf a c b s r js _ (hz.below HB) hl).mono ?_
  rintro e w4 ⟨gt1, rfl, N1, hb⟩
  replace HB := btrans HB hb
  replace X := X.below hb
  clear x0 x1 x2 x3
  clear hb
  have Y := Bx4.new w4 (.int .i64 b) (.int .i64 s) (.slice (some ⟨gt1, 0, none⟩) js.length js.length) (.int .i64 r) 27
  have hbY := balloc w4 (.cells #[.int .i64 b, .int .i64 s, .slice (some ⟨gt1, 0, none⟩) js.length js.length, .int .i64 r] 27)
  replace HB := btrans HB hbY
  replace X := X.below hbY
  replace N1 := N1.below hbY
  clear hbY
  obtain ⟨y0, y1, y2, y3⟩ := id Y
  go_wp2_with fail
  refine (cFareI b s r x y js _ _ _ N1.ints hl).mono ?_
  rintro e w5 ⟨rfl, hb⟩
  replace HB := btrans HB hb
  replace X := X.below hb
  replace N1 := N1.below hb
  replace Y := Y.below hb
  clear hb
  clear y0 y1 y2 y3
  obtain ⟨x0, x1, x2, x3⟩ := id X
  obtain ⟨y0, y1, y2, y3⟩ := id Y
  have hE := hz.below HB.drew
  go_wp2_with fail
  go_region_held3 (fun w' => w'.cell? ⟨w4.heap.size, 0, none⟩ = some (.int .i64 b) ∧ w'.cell? ⟨w4.heap.size, 1, none⟩ = some (.int .i64 s) ∧ w'.cell? ⟨w4.heap.size, 2, none⟩ = some (.slice (some ⟨gt1, 0, none⟩) js.length js.length) ∧ w'.cell? ⟨w4.heap.size, 3, none⟩ = some (.int .i64 r) ∧ w'.cell? ⟨w.heap.size, 0, none⟩ = some (.int .i64 b) ∧ w'.cell? ⟨w.heap.size, 1, none⟩ = some (.int .i64 s) ∧ w'.cell? ⟨w.heap.size, 2, none⟩ = some (.slice a js.length c) ∧ w'.cell? ⟨w.heap.size, 3, none⟩ = some (.int .i64 r)) (go_keep) (first
    | (go_at_call 16; with_reducible refine (cEqTf _ _ _ _ b s r js _ P1 P3 hl).mono ?_; rintro e wb ⟨rfl, hbb⟩; have Bb := btrans Bp hbb; clear hbb; obtain ⟨v0, v1, v2, v3⟩ := Y.c Bb; obtain ⟨v4, v5, v6, v7⟩ := X.c Bb)
    | (go_at_call 14; with_reducible refine (cToTf a c b s r js _ hE hl).mono ?_; rintro e wp ⟨g3, rfl, N3, hbp⟩; have Bp := undrew hbp; have P1 := (N1.below Bp).ints; have P3 := N3.ints; clear hbp; obtain ⟨v0, v1, v2, v3⟩ := Y.c Bp; obtain ⟨v4, v5, v6, v7⟩ := X.c Bp))
  replace HB := btrans HB Bb
  replace X := X.below Bb
  replace N1 := N1.below Bb
  replace Y := Y.below Bb
  clear x0 x1 x2 x3 y0 y1 y2 y3 v0 v1 v2 v3 v4 v5 v6 v7 Bb Bp P1 P3 N3 hE
  go_wp2
  go_ret
  exact ⟨rfl, HB⟩

set_option maxRecDepth 20000 in
set_option maxHeartbeats 6400000 in
theorem walkCardsOk (ca : Option Addr) (cc : Nat) (cs : List CardV) (w : World) (hL : Cards w ca cs) (hnc : cs.length ≤ maxLen) :
    Calls Try.prog 5 #[.slice ca cs.length cc] w fun e w' => e = .returned (.bool true) ∧ Below w.heap.size w w' := by
  have HB := Below.refl w.heap.size w
  go_enter Try.func5, Try.ntmps5
  go_wp2_with fail
  refine (cSzCards ca _ cc 1048576 _ (by omega) (by omega) hnc).mono ?_
  rintro e w1 ⟨r2, rfl, hq, hw⟩
  subst w1
  rcases hq with rfl | ⟨hq, hq0⟩
  · go_wp2
    go_ret
    exact ⟨rfl, HB⟩
  have hl2 : cs.length ≤ 1048576 := by omega
  have hq5 : ¬ r2 < 0 := by omega
  clear hq
  go_wp2_with fail
  refine (cToCards ca cc cs _ (hL.below HB) hl2).mono ?_
  rintro e w2 ⟨gc0, rfl, OC0, hgc0, hb⟩
  replace HB := btrans HB hb
  clear hb
  replace hgc0 := hide hgc0
  go_wp2_with fail
  refine (cCardsS _ _ cs _ (Cards.of_owns OC0) hl2).mono ?_
  rintro e w3 ⟨rfl, hb⟩
  clear OC0
  replace HB := btrans HB hb
  clear hb
  go_wp2_with fail
  refine (cToCards ca cc cs _ (hL.below HB) hl2).mono ?_
  rintro e w4 ⟨gc1, rfl, OC1, hgc1, hb⟩
  replace HB := btrans HB hb
  clear hb
  replace hgc1 := hide hgc1
  go_wp2_with fail
  refine (cCardsI _ _ cs _ (Cards.of_owns OC1) hl2).mono ?_
  rintro e w5 ⟨rfl, hb⟩
  replace HB := btrans HB hb
  replace OC1 := own_keep OC1 hb
  clear hb
  go_wp2_with fail
  refine (cToCards ca cc cs _ (hL.below HB) hl2).mono ?_
  rintro e w6 ⟨g5, rfl, O5, hg5, hb⟩
  replace HB := btrans HB hb
  replace OC1 := own_keep OC1 hb
  clear hb
  replace hg5 := hide hg5
  go_wp2_with fail
  refine (cEqCards _ _ _ _ cs _ (Cards.of_owns OC1) (Cards.of_owns O5) hl2).mono ?_
  rintro e w7 ⟨rfl, hb⟩
  replace HB := btrans HB hb
  replace OC1 := own_keep OC1 hb
  clear hb hg5 O5
  go_wp2
  go_ret
  exact ⟨rfl, HB⟩

set_option maxRecDepth 20000 in
set_option maxHeartbeats 6400000 in
theorem walkRefund (b s r : Int) (js : List Int) (a : Option Addr) (c : Nat) (paid : Int) (h : Int) (w : World) (hz : Ints w a js) (hn : js.length ≤ maxLen) :
    Calls Try.prog 9 #[.agg #[.int .i64 b, .int .i64 s, .slice a js.length c, .int .i64 r], .int .i64 paid, .int .i64 h] w fun e w' => e = .returned (.bool true) ∧ Below w.heap.size w w' := by
  have HB := balloc w (.cells #[.int .i64 b, .int .i64 s, .slice a js.length c, .int .i64 r] 24)
  have X := Bx4.new w (.int .i64 b) (.int .i64 s) (.slice a js.length c) (.int .i64 r) 24
  go_enter Try.func9, Try.ntmps9
  obtain ⟨x0, x1, x2, x3⟩ := id X
  go_wp2_with fail
  refine (cSzTf a _ c _ _ _ 1048576 _ (by omega) (by omega) hn).mono ?_
  rintro e w1 ⟨r1, rfl, hr, hb⟩
  replace HB := btrans HB hb
  replace X := X.below hb
  clear x0 x1 x2 x3
  clear hb
  rcases hr with rfl | ⟨hr, hr0⟩
  · go_wp2
    go_ret
    exact ⟨rfl, HB⟩
  have hl : js.length ≤ 1048576 := by omega
  have hr5 : ¬ r1 < 0 := by omega
  have hr6 : r1 ≤ 1048576 := by omega
  clear hr
  obtain ⟨x0, x1, x2, x3⟩ := id X
  go_wp2_with fail
  refine (cToTf a c b s r js _ (hz.below HB) hl).mono ?_
  rintro e w2 ⟨gt0, rfl, N0, hb⟩
  replace HB := btrans HB hb
  replace X := X.below hb
  clear x0 x1 x2 x3
  clear hb
  go_wp2_with fail
  refine (cRefundS b s r paid h js _ _ _ N0.ints hl).mono ?_
  rintro e w3 ⟨rfl, hb⟩
  clear N0
  replace HB := btrans HB hb
  replace X := X.below hb
  clear hb
  obtain ⟨x0, x1, x2, x3⟩ := id X
  go_wp2_with fail
  refine (cToTf a c b s r js _ (hz.below HB) hl).mono ?_
  rintro e w4 ⟨gt1, rfl, N1, hb⟩
  replace HB := btrans HB hb
  replace X := X.below hb
  clear x0 x1 x2 x3
  clear hb
  have Y := Bx4.new w4 (.int .i64 b) (.int .i64 s) (.slice (some ⟨gt1, 0, none⟩) js.length js.length) (.int .i64 r) 27
  have hbY := balloc w4 (.cells #[.int .i64 b, .int .i64 s, .slice (some ⟨gt1, 0, none⟩) js.length js.length, .int .i64 r] 27)
  replace HB := btrans HB hbY
  replace X := X.below hbY
  replace N1 := N1.below hbY
  clear hbY
  obtain ⟨y0, y1, y2, y3⟩ := id Y
  go_wp2_with fail
  refine (cRefundI b s r paid h js _ _ _ N1.ints hl).mono ?_
  rintro e w5 ⟨rfl, hb⟩
  replace HB := btrans HB hb
  replace X := X.below hb
  replace N1 := N1.below hb
  replace Y := Y.below hb
  clear hb
  clear y0 y1 y2 y3
  obtain ⟨x0, x1, x2, x3⟩ := id X
  obtain ⟨y0, y1, y2, y3⟩ := id Y
  have hE := hz.below HB.drew
  go_wp2_with fail
  go_region_held3 (fun w' => w'.cell? ⟨w4.heap.size, 0, none⟩ = some (.int .i64 b) ∧ w'.cell? ⟨w4.heap.size, 1, none⟩ = some (.int .i64 s) ∧ w'.cell? ⟨w4.heap.size, 2, none⟩ = some (.slice (some ⟨gt1, 0, none⟩) js.length js.length) ∧ w'.cell? ⟨w4.heap.size, 3, none⟩ = some (.int .i64 r) ∧ w'.cell? ⟨w.heap.size, 0, none⟩ = some (.int .i64 b) ∧ w'.cell? ⟨w.heap.size, 1, none⟩ = some (.int .i64 s) ∧ w'.cell? ⟨w.heap.size, 2, none⟩ = some (.slice a js.length c) ∧ w'.cell? ⟨w.heap.size, 3, none⟩ = some (.int .i64 r)) (go_keep) (first
    | (go_at_call 16; with_reducible refine (cEqTf _ _ _ _ b s r js _ P1 P3 hl).mono ?_; rintro e wb ⟨rfl, hbb⟩; have Bb := btrans Bp hbb; clear hbb; obtain ⟨v0, v1, v2, v3⟩ := Y.c Bb; obtain ⟨v4, v5, v6, v7⟩ := X.c Bb)
    | (go_at_call 14; with_reducible refine (cToTf a c b s r js _ hE hl).mono ?_; rintro e wp ⟨g3, rfl, N3, hbp⟩; have Bp := undrew hbp; have P1 := (N1.below Bp).ints; have P3 := N3.ints; clear hbp; obtain ⟨v0, v1, v2, v3⟩ := Y.c Bp; obtain ⟨v4, v5, v6, v7⟩ := X.c Bp))
  replace HB := btrans HB Bb
  replace X := X.below Bb
  replace N1 := N1.below Bb
  replace Y := Y.below Bb
  clear x0 x1 x2 x3 y0 y1 y2 y3 v0 v1 v2 v3 v4 v5 v6 v7 Bb Bp P1 P3 N3 hE
  go_wp2
  go_ret
  exact ⟨rfl, HB⟩

end Go.Proofs.Ytepdnaahhkkdeaa
