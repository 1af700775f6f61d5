/- The walks of the laws on WorkOk and Slack. -/
import Derived.Test.YtledkfhbdhlohaaCZ
import Derived.Deep.RegionHeld3
namespace Go.Proofs.Ytledkfhbdhlohaa
open Go.RowKit
theorem Bx3.c {w w1 : World} {b : Nat} {c0 c1 c2 : Value} (h : Bx3 w b c0 c1 c2) (hb : Below w.heap.size w w1) : w1.cell? ⟨b, 0, none⟩ = some c0 ∧ w1.cell? ⟨b, 1, none⟩ = some c1 ∧ w1.cell? ⟨b, 2, none⟩ = some c2 := h.below hb

set_option maxHeartbeats 3200000 in
theorem walkWork (a b : Option Addr) (p q : Nat) (zs : List Int) (ls : List LinkV) (x : Int) (w : World) (hz : Ints w a zs) (hn : zs.length ≤ maxLen) (hL : Links w b ls) (hm : ls.length ≤ maxLen) :
    Calls Try.prog 3 #[.agg #[.slice a zs.length p, .slice b ls.length q, .int .i64 x]] w fun e w' => e = .returned (.bool true) ∧ Below w.heap.size w w' := by
  have HB := balloc w (.cells #[.slice a zs.length p, .slice b ls.length q, .int .i64 x] 25)
  have X := Bx3.new w (.slice a zs.length p) (.slice b ls.length q) (.int .i64 x) 25
  obtain ⟨x0, x1, x2⟩ := id X
  go_enter Try.func3, Try.ntmps3
  go_wp2_with fail
  refine (cSzWork a b _ _ p q _ 1048576 _ (by omega) (by omega) hn hm).mono ?_
  rintro e w1 ⟨r, rfl, hr, hb⟩
  replace HB := btrans HB hb
  replace X := X.below hb
  clear x0 x1 x2 hb
  rcases hr with rfl | ⟨hr, hr0⟩
  · go_wp2
    go_ret
    exact ⟨rfl, HB⟩
  have hl : zs.length ≤ 1048576 := by omega
  have hl2 : ls.length ≤ 1048576 := by omega
  have hr5 : ¬ r < 0 := by omega
  clear hr
  obtain ⟨x0, x1, x2⟩ := id X
  go_wp2_with fail
  refine (cToWork a b p q zs ls x _ (hz.below HB) (hL.below HB) hl hl2).mono ?_
  rintro e w2 ⟨g5, g6, rfl, N1, hb⟩
  replace HB := btrans HB hb
  replace X := X.below hb
  clear x0 x1 x2 hb
  go_wp2_with fail
  refine (cWorkS _ _ _ _ zs ls x _ N1.ints N1.links hl hl2).mono ?_
  rintro e w3 ⟨rfl, hb⟩
  replace HB := btrans HB hb
  replace X := X.below hb
  clear hb N1
  obtain ⟨x0, x1, x2⟩ := id X
  go_wp2_with fail
  refine (cToWork a b p q zs ls x _ (hz.below HB) (hL.below HB) hl hl2).mono ?_
  rintro e w4 ⟨g1, g2, rfl, N2, hb⟩
  replace HB := btrans HB hb
  replace X := X.below hb
  clear x0 x1 x2 hb
  have Y := Bx3.new w4 (.slice (some ⟨g1, 0, none⟩) zs.length zs.length) (.slice (some ⟨g2, 0, none⟩) ls.length ls.length) (.int .i64 x) 30
  have hb4 := balloc w4 (.cells #[.slice (some ⟨g1, 0, none⟩) zs.length zs.length, .slice (some ⟨g2, 0, none⟩) ls.length ls.length, .int .i64 x] 30)
  replace HB := btrans HB hb4
  replace X := X.below hb4
  replace N2 := N2.below hb4
  clear hb4
  obtain ⟨y0, y1, y2⟩ := id Y
  go_wp2_with fail
  refine (cWorkI _ _ _ _ zs ls x _ N2.ints N2.links hl hl2).mono ?_
  rintro e w5 ⟨rfl, hb⟩
  replace HB := btrans HB hb
  replace X := X.below hb
  replace Y := Y.below hb
  replace N2 := N2.below hb
  clear hb y0 y1 y2
  obtain ⟨x0, x1, x2⟩ := id X
  obtain ⟨y0, y1, y2⟩ := id Y
  have hE := hz.below HB.drew
  have hF := hL.below HB.drew
  go_wp2_with fail
  go_region_held3 (fun w' => w'.cell? ⟨w4.heap.size, 0, none⟩ = some (.slice (some ⟨g1, 0, none⟩) zs.length zs.length) ∧ w'.cell? ⟨w4.heap.size, 1, none⟩ = some (.slice (some ⟨g2, 0, none⟩) ls.length ls.length) ∧ w'.cell? ⟨w4.heap.size, 2, none⟩ = some (.int .i64 x) ∧ w'.cell? ⟨w.heap.size, 0, none⟩ = some (.slice a zs.length p) ∧ w'.cell? ⟨w.heap.size, 1, none⟩ = some (.slice b ls.length q) ∧ w'.cell? ⟨w.heap.size, 2, none⟩ = some (.int .i64 x)) (go_keep) (first
    | (go_at_call 9; with_reducible refine (cEqWork _ _ _ _ _ _ _ _ zs ls x _ P1 P3 P2 P4 hl hl2).mono ?_; rintro e wb ⟨rfl, hbb⟩; have Bb := btrans Bp hbb; clear hbb; obtain ⟨v0, v1, v2⟩ := Y.c Bb; obtain ⟨v3, v4, v5⟩ := X.c Bb)
    | (go_at_call 7; with_reducible refine (cToWork a b p q zs ls x _ hE hF hl hl2).mono ?_; rintro e wp ⟨g3, g4, rfl, N3, hbp⟩; have Bp := undrew hbp; have P1 := (N2.below Bp).ints; have P2 := (N2.below Bp).links; have P3 := N3.ints; have P4 := N3.links; clear hbp; obtain ⟨v0, v1, v2⟩ := Y.c Bp; obtain ⟨v3, v4, v5⟩ := X.c Bp))
  replace HB := btrans HB Bb
  go_wp2
  go_ret
  exact ⟨rfl, HB⟩

set_option maxHeartbeats 3200000 in
theorem walkSlack (a b : Option Addr) (p q : Nat) (zs : List Int) (ls : List LinkV) (x : Int) (k : Int) (w : World) (hz : Ints w a zs) (hn : zs.length ≤ maxLen) (hL : Links w b ls) (hm : ls.length ≤ maxLen) :
    Calls Try.prog 4 #[.agg #[.slice a zs.length p, .slice b ls.length q, .int .i64 x], .int .i64 k] w fun e w' => e = .returned (.bool true) ∧ Below w.heap.size w w' := by
  have HB := balloc w (.cells #[.slice a zs.length p, .slice b ls.length q, .int .i64 x] 25)
  have X := Bx3.new w (.slice a zs.length p) (.slice b ls.length q) (.int .i64 x) 25
  obtain ⟨x0, x1, x2⟩ := id X
  go_enter Try.func4, Try.ntmps4
  go_wp2_with fail
  refine (cSzWork a b _ _ p q _ 1048576 _ (by omega) (by omega) hn hm).mono ?_
  rintro e w1 ⟨r, rfl, hr, hb⟩
  replace HB := btrans HB hb
  replace X := X.below hb
  clear x0 x1 x2 hb
  rcases hr with rfl | ⟨hr, hr0⟩
  · go_wp2
    go_ret
    exact ⟨rfl, HB⟩
  have hl : zs.length ≤ 1048576 := by omega
  have hl2 : ls.length ≤ 1048576 := by omega
  have hr5 : ¬ r < 0 := by omega
  clear hr
  obtain ⟨x0, x1, x2⟩ := id X
  go_wp2_with fail
  refine (cToWork a b p q zs ls x _ (hz.below HB) (hL.below HB) hl hl2).mono ?_
  rintro e w2 ⟨g5, g6, rfl, N1, hb⟩
  replace HB := btrans HB hb
  replace X := X.below hb
  clear x0 x1 x2 hb
  go_wp2_with fail
  refine (cSlackS _ _ _ _ zs ls x k _ N1.ints N1.links hl hl2).mono ?_
  rintro e w3 ⟨rfl, hb⟩
  replace HB := btrans HB hb
  replace X := X.below hb
  clear hb N1
  obtain ⟨x0, x1, x2⟩ := id X
  go_wp2_with fail
  refine (cToWork a b p q zs ls x _ (hz.below HB) (hL.below HB) hl hl2).mono ?_
  rintro e w4 ⟨g1, g2, rfl, N2, hb⟩
  replace HB := btrans HB hb
  replace X := X.below hb
  clear x0 x1 x2 hb
  have Y := Bx3.new w4 (.slice (some ⟨g1, 0, none⟩) zs.length zs.length) (.slice (some ⟨g2, 0, none⟩) ls.length ls.length) (.int .i64 x) 30
  have hb4 := balloc w4 (.cells #[.slice (some ⟨g1, 0, none⟩) zs.length zs.length, .slice (some ⟨g2, 0, none⟩) ls.length ls.length, .int .i64 x] 30)
  replace HB := btrans HB hb4
  replace X := X.below hb4
  replace N2 := N2.below hb4
  clear hb4
  obtain ⟨y0, y1, y2⟩ := id Y
  go_wp2_with fail
  refine (cSlackI _ _ _ _ zs ls x k _ N2.ints N2.links hl hl2).mono ?_
  rintro e w5 ⟨rfl, hb⟩
  replace HB := btrans HB hb
  replace X := X.below hb
  replace Y := Y.below hb
  replace N2 := N2.below hb
  clear hb y0 y1 y2
  obtain ⟨x0, x1, x2⟩ := id X
  obtain ⟨y0, y1, y2⟩ := id Y
  have hE := hz.below HB.drew
  have hF := hL.below HB.drew
  go_wp2_with fail
  go_region_held3 (fun w' => w'.cell? ⟨w4.heap.size, 0, none⟩ = some (.slice (some ⟨g1, 0, none⟩) zs.length zs.length) ∧ w'.cell? ⟨w4.heap.size, 1, none⟩ = some (.slice (some ⟨g2, 0, none⟩) ls.length ls.length) ∧ w'.cell? ⟨w4.heap.size, 2, none⟩ = some (.int .i64 x) ∧ w'.cell? ⟨w.heap.size, 0, none⟩ = some (.slice a zs.length p) ∧ w'.cell? ⟨w.heap.size, 1, none⟩ = some (.slice b ls.length q) ∧ w'.cell? ⟨w.heap.size, 2, none⟩ = some (.int .i64 x)) (go_keep) (first
    | (go_at_call 9; with_reducible refine (cEqWork _ _ _ _ _ _ _ _ zs ls x _ P1 P3 P2 P4 hl hl2).mono ?_; rintro e wb ⟨rfl, hbb⟩; have Bb := btrans Bp hbb; clear hbb; obtain ⟨v0, v1, v2⟩ := Y.c Bb; obtain ⟨v3, v4, v5⟩ := X.c Bb)
    | (go_at_call 7; with_reducible refine (cToWork a b p q zs ls x _ hE hF hl hl2).mono ?_; rintro e wp ⟨g3, g4, rfl, N3, hbp⟩; have Bp := undrew hbp; have P1 := (N2.below Bp).ints; have P2 := (N2.below Bp).links; have P3 := N3.ints; have P4 := N3.links; clear hbp; obtain ⟨v0, v1, v2⟩ := Y.c Bp; obtain ⟨v3, v4, v5⟩ := X.c Bp))
  replace HB := btrans HB Bb
  go_wp2
  go_ret
  exact ⟨rfl, HB⟩
end Go.Proofs.Ytledkfhbdhlohaa
