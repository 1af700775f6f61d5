/- The walks of the laws on Carded and Through. -/
import Derived.Test.YtepdnaahhkkdeaaCH
import Derived.Deep.RegionHeld3
namespace Go.Proofs.Ytepdnaahhkkdeaa
open Go.RowKit
set_option maxRecDepth 20000 in
set_option maxHeartbeats 6400000 in
theorem walkCarded (b s r : Int) (js : List Int) (a : Option Addr) (c : Nat) (fare : Int) (ca : Option Addr) (cc : Nat) (cs : List CardV) (m : Int) (w : World) (hz : Ints w a js) (hn : js.length ≤ maxLen) (hL : Cards w ca cs) (hnc : cs.length ≤ maxLen) :
    Calls Try.prog 6 #[.agg #[.int .i64 b, .int .i64 s, .slice a js.length c, .int .i64 r], .int .i64 fare, .slice ca cs.length cc, .int .i64 m] w fun e w' => e = .returned (.bool true) ∧ Below w.heap.size w w' := by
  have HB := balloc w (.cells #[.int .i64 b, .int .i64 s, .slice a js.length c, .int .i64 r] 24)
  have X := Bx4.new w (.int .i64 b) (.int .i64 s) (.slice a js.length c) (.int .i64 r) 24
  go_enter Try.func6, Try.ntmps6
  obtain ⟨x0, x1, x2, x3⟩ := id X
  go_wp2_with fail
  refine (cSzTf a _ c _ _ _ 1048576 _ (by omega) (by omega) hn).mono ?_
  rintro e w1 ⟨r1, rfl, hr, hb⟩
  replace HB := btrans HB hb
  replace X := X.below hb
  clear x0 x1 x2 x3
  clear hb
  rcases hr with rfl | ⟨hr, hr0⟩
  · go_wp2
    go_ret
    exact ⟨rfl, HB⟩
  have hl : js.length ≤ 1048576 := by omega
  have hr5 : ¬ r1 < 0 := by omega
  have hr6 : r1 ≤ 1048576 := by omega
  clear hr
  go_wp2_with fail
  refine (cSzCards ca _ cc r1 _ hr0 hr6 hnc).mono ?_
  rintro e w2 ⟨r2, rfl, hq, hw⟩
  subst w2
  rcases hq with rfl | ⟨hq, hq0⟩
  · go_wp2
    go_ret
    exact ⟨rfl, HB⟩
  have hl2 : cs.length ≤ 1048576 := by omega
  have hq5 : ¬ r2 < 0 := by omega
  clear hq
  obtain ⟨x0, x1, x2, x3⟩ := id X
  go_wp2_with fail
  refine (cToTf a c b s r js _ (hz.below HB) hl).mono ?_
  rintro e w3 ⟨gt0, rfl, N0, hb⟩
  replace HB := btrans HB hb
  replace X := X.below hb
  clear x0 x1 x2 x3
  clear hb
  go_wp2_with fail
  refine (cToCards ca cc cs _ (hL.below HB) hl2).mono ?_
  rintro e w4 ⟨gc0, rfl, OC0, hgc0, hb⟩
  replace HB := btrans HB hb
  replace X := X.below hb
  replace N0 := N0.below hb
  clear hb
  replace hgc0 := hide hgc0
  go_wp2_with fail
  refine (cCardedS b s r fare m js _ _ _ _ cs _ N0.ints hl (Cards.of_owns OC0) hl2).mono ?_
  rintro e w5 ⟨rfl, hb⟩
  clear N0
  clear OC0
  replace HB := btrans HB hb
  replace X := X.below hb
  clear hb
  obtain ⟨x0, x1, x2, x3⟩ := id X
  go_wp2_with fail
  refine (cToTf a c b s r js _ (hz.below HB) hl).mono ?_
  rintro e w6 ⟨gt1, rfl, N1, hb⟩
  replace HB := btrans HB hb
  replace X := X.below hb
  clear x0 x1 x2 x3
  clear hb
  have Y := Bx4.new w6 (.int .i64 b) (.int .i64 s) (.slice (some ⟨gt1, 0, none⟩) js.length js.length) (.int .i64 r) 27
  have hbY := balloc w6 (.cells #[.int .i64 b, .int .i64 s, .slice (some ⟨gt1, 0, none⟩) js.length js.length, .int .i64 r] 27)
  replace HB := btrans HB hbY
  replace X := X.below hbY
  replace N1 := N1.below hbY
  clear hbY
  go_wp2_with fail
  refine (cToCards ca cc cs _ (hL.below HB) hl2).mono ?_
  rintro e w7 ⟨gc1, rfl, OC1, hgc1, hb⟩
  replace HB := btrans HB hb
  replace X := X.below hb
  replace N1 := N1.below hb
  replace Y := Y.below hb
  clear hb
  replace hgc1 := hide hgc1
  obtain ⟨y0, y1, y2, y3⟩ := id Y
  go_wp2_with fail
  refine (cCardedI b s r fare m js _ _ _ _ cs _ N1.ints hl (Cards.of_owns OC1) hl2).mono ?_
  rintro e w8 ⟨rfl, hb⟩
  replace HB := btrans HB hb
  replace X := X.below hb
  replace N1 := N1.below hb
  replace Y := Y.below hb
  replace OC1 := own_keep OC1 hb
  clear hb
  clear y0 y1 y2 y3
  obtain ⟨x0, x1, x2, x3⟩ := id X
  obtain ⟨y0, y1, y2, y3⟩ := id Y
  have hE := hz.below HB.drew
  go_wp2_with fail
  go_region_held3 (fun w' => w'.cell? ⟨w6.heap.size, 0, none⟩ = some (.int .i64 b) ∧ w'.cell? ⟨w6.heap.size, 1, none⟩ = some (.int .i64 s) ∧ w'.cell? ⟨w6.heap.size, 2, none⟩ = some (.slice (some ⟨gt1, 0, none⟩) js.length js.length) ∧ w'.cell? ⟨w6.heap.size, 3, none⟩ = some (.int .i64 r) ∧ w'.cell? ⟨w.heap.size, 0, none⟩ = some (.int .i64 b) ∧ w'.cell? ⟨w.heap.size, 1, none⟩ = some (.int .i64 s) ∧ w'.cell? ⟨w.heap.size, 2, none⟩ = some (.slice a js.length c) ∧ w'.cell? ⟨w.heap.size, 3, none⟩ = some (.int .i64 r)) (go_keep) (first
    | (go_at_call 16; with_reducible refine (cEqTf _ _ _ _ b s r js _ P1 P3 hl).mono ?_; rintro e wb ⟨rfl, hbb⟩; have Bb := btrans Bp hbb; clear hbb; obtain ⟨v0, v1, v2, v3⟩ := Y.c Bb; obtain ⟨v4, v5, v6, v7⟩ := X.c Bb)
    | (go_at_call 14; with_reducible refine (cToTf a c b s r js _ hE hl).mono ?_; rintro e wp ⟨g3, rfl, N3, hbp⟩; have Bp := undrew hbp; have P1 := (N1.below Bp).ints; have P3 := N3.ints; clear hbp; obtain ⟨v0, v1, v2, v3⟩ := Y.c Bp; obtain ⟨v4, v5, v6, v7⟩ := X.c Bp))
  replace HB := btrans HB Bb
  replace X := X.below Bb
  replace N1 := N1.below Bb
  replace Y := Y.below Bb
  replace OC1 := own_keep OC1 Bb
  clear x0 x1 x2 x3 y0 y1 y2 y3 v0 v1 v2 v3 v4 v5 v6 v7 Bb Bp P1 P3 N3 hE
  go_wp2_with fail
  refine (cToCards ca cc cs _ (hL.below HB) hl2).mono ?_
  rintro e w9 ⟨g5, rfl, O5, hg5, hb⟩
  replace HB := btrans HB hb
  replace X := X.below hb
  replace N1 := N1.below hb
  replace Y := Y.below hb
  replace OC1 := own_keep OC1 hb
  clear hb
  replace hg5 := hide hg5
  go_wp2_with fail
  refine (cEqCards _ _ _ _ cs _ (Cards.of_owns OC1) (Cards.of_owns O5) hl2).mono ?_
  rintro e w10 ⟨rfl, hb⟩
  replace HB := btrans HB hb
  replace X := X.below hb
  replace N1 := N1.below hb
  replace Y := Y.below hb
  replace OC1 := own_keep OC1 hb
  clear hb hg5 O5
  go_wp2
  go_ret
  exact ⟨rfl, HB⟩

set_option maxRecDepth 20000 in
set_option maxHeartbeats 6400000 in
theorem walkThrough (b s r : Int) (js : List Int) (a : Option Addr) (c : Nat) (za : Option Addr) (zc : Nat) (zs : List Int) (ca : Option Addr) (cc : Nat) (cs : List CardV) (m : Int) (w : World) (hz : Ints w a js) (hn : js.length ≤ maxLen) (hS : Ints w za zs) (_ : zs.length ≤ maxLen) (hL : Cards w ca cs) (hnc : cs.length ≤ maxLen) :
    Calls Try.prog 7 #[.agg #[.int .i64 b, .int .i64 s, .slice a js.length c, .int .i64 r], .slice za zs.length zc, .slice ca cs.length cc, .int .i64 m] w fun e w' => e = .returned (.bool true) ∧ Below w.heap.size w w' := by
  have HB := balloc w (.cells #[.int .i64 b, .int .i64 s, .slice a js.length c, .int .i64 r] 24)
  have X := Bx4.new w (.int .i64 b) (.int .i64 s) (.slice a js.length c) (.int .i64 r) 24
  by_cases hlz : (1048576 : Int) < zs.length
  · go_enter Try.func7, Try.ntmps7
    go_wp2
    go_ret
    exact ⟨rfl, HB⟩
  have hls : zs.length ≤ 1048576 := by omega
  replace hlz : ¬ (1048576 : Int) < zs.length := hlz
  go_enter Try.func7, Try.ntmps7
  obtain ⟨x0, x1, x2, x3⟩ := id X
  go_wp2_with fail
  refine (cSzTf a _ c _ _ _ 1048576 _ (by omega) (by omega) hn).mono ?_
  rintro e w1 ⟨r1, rfl, hr, hb⟩
  replace HB := btrans HB hb
  replace X := X.below hb
  clear x0 x1 x2 x3
  clear hb
  rcases hr with rfl | ⟨hr, hr0⟩
  · go_wp2
    go_ret
    exact ⟨rfl, HB⟩
  have hl : js.length ≤ 1048576 := by omega
  have hr5 : ¬ r1 < 0 := by omega
  have hr6 : r1 ≤ 1048576 := by omega
  clear hr
  go_wp2_with fail
  refine (cSzCards ca _ cc r1 _ hr0 hr6 hnc).mono ?_
  rintro e w2 ⟨r2, rfl, hq, hw⟩
  subst w2
  rcases hq with rfl | ⟨hq, hq0⟩
  · go_wp2
    go_ret
    exact ⟨rfl, HB⟩
  have hl2 : cs.length ≤ 1048576 := by omega
  have hq5 : ¬ r2 < 0 := by omega
  clear hq
  obtain ⟨x0, x1, x2, x3⟩ := id X
  go_wp2_with fail
  refine (cToTf a c b s r js _ (hz.below HB) hl).mono ?_
  rintro e w3 ⟨gt0, rfl, N0, hb⟩
  replace HB := btrans HB hb
  replace X := X.below hb
  clear x0 x1 x2 x3
  clear hb
  go_wp2_with fail
  refine (cToInts za zc zs _ (hS.below HB) hls).mono ?_
  rintro e w4 ⟨gz0, rfl, OZ0, hgz0, hb⟩
  replace HB := btrans HB hb
  replace X := X.below hb
  replace N0 := N0.below hb
  clear hb
  replace hgz0 := hide hgz0
  go_wp2_with fail
  refine (cToCards ca cc cs _ (hL.below HB) hl2).mono ?_
  rintro e w5 ⟨gc0, rfl, OC0, hgc0, hb⟩
  replace HB := btrans HB hb
  replace X := X.below hb
  replace N0 := N0.below hb
  replace OZ0 := own_keep OZ0 hb
  clear hb
  replace hgc0 := hide hgc0
  go_wp2_with fail
  refine (cThroughS b s r m js _ _ _ _ zs _ _ cs _ N0.ints hl (Ints.of_owns OZ0) hls (Cards.of_owns OC0) hl2).mono ?_
  rintro e w6 ⟨rfl, hb⟩
  clear N0
  clear OZ0
  clear OC0
  replace HB := btrans HB hb
  replace X := X.below hb
  clear hb
  obtain ⟨x0, x1, x2, x3⟩ := id X
  go_wp2_with fail
  refine (cToTf a c b s r js _ (hz.below HB) hl).mono ?_
  rintro e w7 ⟨gt1, rfl, N1, hb⟩
  replace HB := btrans HB hb
  replace X := X.below hb
  clear x0 x1 x2 x3
  clear hb
  have Y := Bx4.new w7 (.int .i64 b) (.int .i64 s) (.slice (some ⟨gt1, 0, none⟩) js.length js.length) (.int .i64 r) 27
  have hbY := balloc w7 (.cells #[.int .i64 b, .int .i64 s, .slice (some ⟨gt1, 0, none⟩) js.length js.length, .int .i64 r] 27)
  replace HB := btrans HB hbY
  replace X := X.below hbY
  replace N1 := N1.below hbY
  clear hbY
  go_wp2_with fail
  refine (cToInts za zc zs _ (hS.below HB) hls).mono ?_
  rintro e w8 ⟨gz1, rfl, OZ1, hgz1, hb⟩
  replace HB := btrans HB hb
  replace X := X.below hb
  replace N1 := N1.below hb
  replace Y := Y.below hb
  clear hb
  replace hgz1 := hide hgz1
  go_wp2_with fail
  refine (cToCards ca cc cs _ (hL.below HB) hl2).mono ?_
  rintro e w9 ⟨gc1, rfl, OC1, hgc1, hb⟩
  replace HB := btrans HB hb
  replace X := X.below hb
  replace N1 := N1.below hb
  replace Y := Y.below hb
  replace OZ1 := own_keep OZ1 hb
  clear hb
  replace hgc1 := hide hgc1
  obtain ⟨y0, y1, y2, y3⟩ := id Y
  go_wp2_with fail
  refine (cThroughI b s r m js _ _ _ _ zs _ _ cs _ N1.ints hl (Ints.of_owns OZ1) hls (Cards.of_owns OC1) hl2).mono ?_
  rintro e w10 ⟨rfl, hb⟩
  replace HB := btrans HB hb
  replace X := X.below hb
  replace N1 := N1.below hb
  replace Y := Y.below hb
  replace OZ1 := own_keep OZ1 hb
  replace OC1 := own_keep OC1 hb
  clear hb
  clear y0 y1 y2 y3
  obtain ⟨x0, x1, x2, x3⟩ := id X
  obtain ⟨y0, y1, y2, y3⟩ := id Y
  have hE := hz.below HB.drew
  go_wp2_with fail
  go_region_held3 (fun w' => w'.cell? ⟨w7.heap.size, 0, none⟩ = some (.int .i64 b) ∧ w'.cell? ⟨w7.heap.size, 1, none⟩ = some (.int .i64 s) ∧ w'.cell? ⟨w7.heap.size, 2, none⟩ = some (.slice (some ⟨gt1, 0, none⟩) js.length js.length) ∧ w'.cell? ⟨w7.heap.size, 3, none⟩ = some (.int .i64 r) ∧ w'.cell? ⟨w.heap.size, 0, none⟩ = some (.int .i64 b) ∧ w'.cell? ⟨w.heap.size, 1, none⟩ = some (.int .i64 s) ∧ w'.cell? ⟨w.heap.size, 2, none⟩ = some (.slice a js.length c) ∧ w'.cell? ⟨w.heap.size, 3, none⟩ = some (.int .i64 r)) (go_keep) (first
    | (go_at_call 16; with_reducible refine (cEqTf _ _ _ _ b s r js _ P1 P3 hl).mono ?_; rintro e wb ⟨rfl, hbb⟩; have Bb := btrans Bp hbb; clear hbb; obtain ⟨v0, v1, v2, v3⟩ := Y.c Bb; obtain ⟨v4, v5, v6, v7⟩ := X.c Bb)
    | (go_at_call 14; with_reducible refine (cToTf a c b s r js _ hE hl).mono ?_; rintro e wp ⟨g3, rfl, N3, hbp⟩; have Bp := undrew hbp; have P1 := (N1.below Bp).ints; have P3 := N3.ints; clear hbp; obtain ⟨v0, v1, v2, v3⟩ := Y.c Bp; obtain ⟨v4, v5, v6, v7⟩ := X.c Bp))
  replace HB := btrans HB Bb
  replace X := X.below Bb
  replace N1 := N1.below Bb
  replace Y := Y.below Bb
  replace OZ1 := own_keep OZ1 Bb
  replace OC1 := own_keep OC1 Bb
  clear x0 x1 x2 x3 y0 y1 y2 y3 v0 v1 v2 v3 v4 v5 v6 v7 Bb Bp P1 P3 N3 hE
  go_wp2_with fail
  refine (cToInts za zc zs _ (hS.below HB) hls).mono ?_
  rintro e w11 ⟨g5, rfl, O5, hg5, hb⟩
  replace HB := btrans HB hb
  replace X := X.below hb
  replace N1 := N1.below hb
  replace Y := Y.below hb
  replace OZ1 := own_keep OZ1 hb
  replace OC1 := own_keep OC1 hb
  clear hb
  replace hg5 := hide hg5
  go_wp2_with fail
  refine (cEqInts _ _ _ _ zs _ (Ints.of_owns OZ1) (Ints.of_owns O5) (by unfold maxLen; omega)).mono ?_
  rintro e w12 ⟨rfl, hb⟩
  replace HB := btrans HB hb
  replace X := X.below hb
  replace N1 := N1.below hb
  replace Y := Y.below hb
  replace OZ1 := own_keep OZ1 hb
  replace OC1 := own_keep OC1 hb
  clear hb hg5 O5
  go_wp2_with fail
  refine (cToCards ca cc cs _ (hL.below HB) hl2).mono ?_
  rintro e w13 ⟨g5, rfl, O5, hg5, hb⟩
  replace HB := btrans HB hb
  replace X := X.below hb
  replace N1 := N1.below hb
  replace Y := Y.below hb
  replace OZ1 := own_keep OZ1 hb
  replace OC1 := own_keep OC1 hb
  clear hb
  replace hg5 := hide hg5
  go_wp2_with fail
  refine (cEqCards _ _ _ _ cs _ (Cards.of_owns OC1) (Cards.of_owns O5) hl2).mono ?_
  rintro e w14 ⟨rfl, hb⟩
  replace HB := btrans HB hb
  replace X := X.below hb
  replace N1 := N1.below hb
  replace Y := Y.below hb
  replace OZ1 := own_keep OZ1 hb
  replace OC1 := own_keep OC1 hb
  clear hb hg5 O5
  go_wp2
  go_ret
  exact ⟨rfl, HB⟩

end Go.Proofs.Ytepdnaahhkkdeaa
