/- Two patterns of the same numbers and days are told as the same; then the walk of the law on PatternOk. -/
import Derived.Test.YtmchdclieejohaaF
import Derived.Deep.RegionWith
namespace Go.Proofs.Ytmchdclieejohaa
open Go.RowKit

theorem ble {w w1 : World} (h : Below w.heap.size w w1) {b o : Nat} {v : Value} (hc : w.cell? ⟨b, o, none⟩ = some v) : w1.cell? ⟨b, o, none⟩ = some v := (h.cell (cell_lt hc)).trans hc

set_option maxHeartbeats 1600000 in
theorem c27 (a1 a2 a3 a4 : Option Addr) (p1 p2 p3 p4 : Nat) (zs es : List Int) (W F T : Int) (w : World) (h1 : Ints w a1 zs) (h2 : Ints w a2 es) (h3 : Ints w a3 zs) (h4 : Ints w a4 es) (hl1 : zs.length ≤ 1048576) (hl2 : es.length ≤ 1048576) :
    Calls Try.prog 27 #[.agg #[.int .i64 W, .int .i64 F, .int .i64 T, .slice a1 zs.length p1, .slice a2 es.length p2], .agg #[.int .i64 W, .int .i64 F, .int .i64 T, .slice a3 zs.length p3, .slice a4 es.length p4]] w fun e w' =>
      e = .returned (.bool true) ∧ Below w.heap.size w w' := by
  have hm1 : zs.length ≤ maxLen := by unfold maxLen; omega
  have hm2 : es.length ≤ maxLen := by unfold maxLen; omega
  go_enter Try.func27, Try.ntmps27
  go_wp2_with fail
  refine (c51 a1 a3 p1 p3 zs zs _ ((h1.below (balloc _ _)).below (balloc _ _)) ((h3.below (balloc _ _)).below (balloc _ _)) hm1 hm1 rfl).mono ?_
  rintro e w1 ⟨rfl, q, rfl⟩
  go_wp2_with fail
  refine (c51 a2 a4 p2 p4 es es _ ((h2.below (balloc _ _)).below (btrans (balloc _ _) (Go.Joins.below_draws _ _ _))) ((h4.below (balloc _ _)).below (btrans (balloc _ _) (Go.Joins.below_draws _ _ _))) hm2 hm2 rfl).mono ?_
  rintro e w1 ⟨rfl, q2, rfl⟩
  go_wp2
  go_ret
  exact ⟨rfl, btrans (btrans (balloc _ _) (balloc _ _)) (Go.Joins.below_draws _ _ _)⟩

/-- A boxed pattern: the five cells of block b. -/
def Bx (w : World) (b : Nat) (c0 c1 c2 c3 c4 : Value) : Prop :=
  w.cell? ⟨b, 0, none⟩ = some c0 ∧ w.cell? ⟨b, 1, none⟩ = some c1 ∧ w.cell? ⟨b, 2, none⟩ = some c2 ∧ w.cell? ⟨b, 3, none⟩ = some c3 ∧ w.cell? ⟨b, 4, none⟩ = some c4
theorem Bx.below {w w1 : World} {b : Nat} {c0 c1 c2 c3 c4 : Value} (h : Bx w b c0 c1 c2 c3 c4) (hb : Below w.heap.size w w1) : Bx w1 b c0 c1 c2 c3 c4 :=
  ⟨ble hb h.1, ble hb h.2.1, ble hb h.2.2.1, ble hb h.2.2.2.1, ble hb h.2.2.2.2⟩
theorem Bx.mk {w w1 : World} {c0 c1 c2 c3 c4 : Value} {t : TypeId} (h : Below (w.alloc (.cells #[c0, c1, c2, c3, c4] t)).heap.size (w.alloc (.cells #[c0, c1, c2, c3, c4] t)) w1) : Bx w1 w.heap.size c0 c1 c2 c3 c4 := box_cells h

theorem undrew {w w1 : World} (h : Below w.drew.heap.size w.drew w1) : Below w.heap.size w w1 := ⟨h.os, h.tape, h.output, h.size, h.block⟩

set_option maxHeartbeats 1600000 in
theorem walk5 (a1 a2 : Option Addr) (p1 p2 : Nat) (zs es : List Int) (W F T : Int) (w : World) (h1 : Ints w a1 zs) (h2 : Ints w a2 es) (hn1 : zs.length ≤ maxLen) (hn2 : es.length ≤ maxLen) :
    Calls Try.prog 5 #[.agg #[.int .i64 W, .int .i64 F, .int .i64 T, .slice a1 zs.length p1, .slice a2 es.length p2]] w fun e w' => e = .returned (.bool true) ∧ Below w.heap.size w w' := by
  go_enter Try.func5, Try.ntmps5
  go_wp2_with fail
  refine (c24 a1 a2 zs.length es.length p1 p2 _ _ _ 1048576 _ (by omega) (by omega) hn1 hn2).mono ?_
  rintro e w1 ⟨r, rfl, hr, hb⟩
  have HB := btrans (balloc _ _) hb
  have X1 := Bx.mk hb
  clear hb
  rcases hr with rfl | ⟨hr, hr0⟩
  · go_wp2
    go_ret
    exact ⟨rfl, HB⟩
  · have hl1 : zs.length ≤ 1048576 := by omega
    have hl2 : es.length ≤ 1048576 := by omega
    clear hr
    obtain ⟨b0, b1, b2, b3, b4⟩ := id X1
    go_wp2_with fail
    clear b0 b1 b2 b3 b4
    refine (c26 a1 a2 p1 p2 zs es W F T _ (h1.below HB) (h2.below HB) hl1 hl2).mono ?_
    rintro e w2 ⟨g1, g2, rfl, hop, hb2⟩
    have HB2 := btrans HB hb2
    have X2 := X1.below hb2
    clear hb2 HB X1
    go_wp2_with fail
    refine (c25 _ _ _ _ zs es W F T _ (Ints.of_owns hop.own1) (Ints.of_owns hop.own2) hl1 hl2).mono ?_
    rintro e w3 ⟨rfl, hb3⟩
    have HB3 := btrans HB2 hb3
    have X3 := X2.below hb3
    clear hb3 HB2 hop X2
    obtain ⟨b0, b1, b2, b3, b4⟩ := id X3
    go_wp2_with fail
    clear b0 b1 b2 b3 b4
    refine (c26 a1 a2 p1 p2 zs es W F T _ (h1.below HB3) (h2.below HB3) hl1 hl2).mono ?_
    rintro e w4 ⟨g3, g4, rfl, hop, hb4⟩
    have HB4 := btrans HB3 hb4
    have X4 := X3.below hb4
    clear hb4 HB3 X3
    go_wp2_with fail
    refine (c21 _ _ _ _ zs es W F T _ ((Ints.of_owns hop.own1).below (balloc _ _)) ((Ints.of_owns hop.own2).below (balloc _ _)) hl1 hl2).mono ?_
    rintro e w5 ⟨rfl, hb5⟩
    have Y5 := Bx.mk hb5
    have hop5 := (hop.below (balloc _ _)).below hb5
    have X5 := (X4.below (balloc _ _)).below hb5
    have HB5 := btrans (btrans HB4 (balloc _ _)) hb5
    clear hb5 HB4 X4 hop
    obtain ⟨b0, b1, b2, b3, b4⟩ := id X5
    obtain ⟨d0, d1, d2, d3, d4⟩ := id Y5
    go_wp2_with fail
    go_region_with (first
      | (go_at_call 26; refine (c26 a1 a2 p1 p2 zs es W F T _ (h1.below HB5.drew) (h2.below HB5.drew) hl1 hl2).mono ?_; rintro e w6 ⟨g5, g6, rfl, hop6, hb6⟩; have HB6 := btrans HB5 (undrew hb6); have hop5' := hop5.below (undrew hb6); obtain ⟨y0, y1, y2, y3, y4⟩ := Y5.below (undrew hb6))
      | (go_at_call 27; refine (c27 _ _ _ _ _ _ _ _ zs es W F T _ (Ints.of_owns hop5'.own1) (Ints.of_owns hop5'.own2) (Ints.of_owns hop6.own1) (Ints.of_owns hop6.own2) hl1 hl2).mono ?_; rintro e w7 ⟨rfl, hb7⟩))
    all_goals go_wp2
    all_goals go_ret
    all_goals exact ⟨rfl, btrans HB6 hb7⟩
end Go.Proofs.Ytmchdclieejohaa
