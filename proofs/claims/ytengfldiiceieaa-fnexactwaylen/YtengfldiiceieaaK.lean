/- The walks of the laws on Walk and WayLen. -/
import Derived.Test.YtengfldiiceieaaJ
namespace Go.Proofs.Ytengfldiiceieaa
open Go.RowKit

set_option maxHeartbeats 1600000 in
theorem walk7 (a a2 : Option Addr) (p p2 : Nat) (n f : Int) (es : List EdgeV) (zs : List Int) (w : World) (he : Edges w a es) (hz : Ints w a2 zs) (hn : es.length ≤ maxLen) (hm : zs.length ≤ maxLen) :
    Calls Try.prog 7 #[.agg #[.int .i64 n, .slice a es.length p], .int .i64 f, .slice a2 zs.length p2] w fun e w' => e = .returned (.bool true) ∧ Below w.heap.size w w' := by
  have hW := balloc w (.cells #[.int .i64 n, .slice a es.length p] 44)
  have hm' : zs.length ≤ 9223372036854775807 := by unfold maxLen at hm; omega
  by_cases hl2 : 1048576 < zs.length
  · go_enter Try.func7, Try.ntmps7
    go_wp2
    go_ret
    exact ⟨rfl, hW⟩
  have hl2' : zs.length ≤ 1048576 := by omega
  go_enter Try.func7, Try.ntmps7
  go_wp2_with fail
  refine (c28 a es.length p _ 1048576 _ (by omega) (by omega) hn).mono ?_
  rintro e w1 ⟨r, rfl, hr, hb⟩
  have HB := btrans (balloc _ _) hb
  have X1 := Bx2.mk hb
  clear hb hW
  rcases hr with rfl | ⟨hr, hr0⟩
  · go_wp2
    go_ret
    exact ⟨rfl, HB⟩
  · have hl : es.length ≤ 1048576 := by omega
    clear hr
    obtain ⟨b0, b1⟩ := id X1
    go_wp2_with fail
    clear b0 b1
    refine (c30 a p n es _ (he.below HB) hl).mono ?_
    rintro e w2 ⟨g1, rfl, hop, hb2⟩
    have HB2 := btrans HB hb2
    have X2 := X1.below hb2
    clear hb2 HB X1
    go_wp2_with fail
    refine (c34 a2 p2 zs _ (hz.below HB2) hl2').mono ?_
    rintro e w2a ⟨g1a, rfl, hoz, hgx, hb2a⟩
    clear hgx
    have HB2a := btrans HB2 hb2a
    have X2a := X2.below hb2a
    have hopa := hop.below hb2a
    clear hb2a HB2 X2 hop
    go_wp2_with fail
    refine (c33 _ _ _ _ n f es zs _ hopa.edges (Ints.of_owns hoz) hl hl2').mono ?_
    rintro e w3 ⟨rfl, hb3⟩
    have HB3 := btrans HB2a hb3
    have X3 := X2a.below hb3
    clear hb3 HB2a hopa X2a hoz
    obtain ⟨b0, b1⟩ := id X3
    go_wp2_with fail
    clear b0 b1
    refine (c30 a p n es _ (he.below HB3) hl).mono ?_
    rintro e w4 ⟨g2, rfl, hop, hb4⟩
    have HB4 := btrans (btrans HB3 hb4) (balloc _ (.cells #[.int .i64 n, .slice (some ⟨g2, 0, none⟩) es.length es.length] 26))
    have X4 := (X3.below hb4).below (balloc _ (.cells #[.int .i64 n, .slice (some ⟨g2, 0, none⟩) es.length es.length] 26))
    have Y4 := Bx2.new w4 (.int .i64 n) (.slice (some ⟨g2, 0, none⟩) es.length es.length) 26
    have hop4 := hop.below (balloc _ (.cells #[.int .i64 n, .slice (some ⟨g2, 0, none⟩) es.length es.length] 26))
    clear hb4 HB3 X3 hop
    go_wp2_with fail
    refine (c34 a2 p2 zs _ (hz.below HB4) hl2').mono ?_
    rintro e w4a ⟨g2a, rfl, hoz, hgx, hb4a⟩
    clear hgx
    have HB4a := btrans HB4 hb4a
    have X4a := X4.below hb4a
    have Y4a := Y4.below hb4a
    have hop4a := hop4.below hb4a
    clear hb4a HB4 X4 Y4 hop4
    obtain ⟨d0, d1⟩ := id Y4a
    go_wp2_with fail
    refine (c21 _ _ _ _ n f es zs _ hop4a.edges (Ints.of_owns hoz) hl hl2').mono ?_
    rintro e w5 ⟨rfl, hb5⟩
    have Y5 := Y4a.below hb5
    have hop5 := hop4a.below hb5
    have hoz5 := owns_below hoz hb5
    have X5 := X4a.below hb5
    have HB5 := btrans HB4a hb5
    clear hb5 HB4a X4a Y4a hop4a hoz d0 d1
    obtain ⟨b0, b1⟩ := id X5
    obtain ⟨d0, d1⟩ := id Y5
    go_wp2_with fail
    go_region_with (first
      | (go_at_call 30; refine (c30 a p n es _ (he.below HB5.drew) hl).mono ?_; rintro e w6 ⟨g5, rfl, hop6, hb6⟩; have HB6 := btrans HB5 (undrew hb6); have hop5' := hop5.below (undrew hb6); have hoz6 := owns_below hoz5 (undrew hb6); obtain ⟨y0, y1⟩ := Y5.below (undrew hb6))
      | (go_at_call 32; refine (c32 _ _ _ _ n es _ hop5'.edges hop6.edges hl).mono ?_; rintro e w7 ⟨rfl, hb7⟩))
    all_goals have HB7 := btrans HB6 hb7
    all_goals have hoz7 := owns_below hoz6 hb7
    all_goals clear hb7 hb6 hoz6 HB6 hop6 hop5'
    all_goals go_wp2_with fail
    all_goals refine (c34 a2 p2 zs _ (hz.below HB7) hl2').mono ?_
    all_goals rintro e w8 ⟨g8, rfl, hoz8, hgx, hb8⟩
    all_goals clear hgx
    all_goals have HB8 := btrans HB7 hb8
    all_goals have hoz7' := owns_below hoz7 hb8
    all_goals clear hb8 HB7 hoz7
    all_goals go_wp2_with fail
    all_goals refine (c35 _ _ _ _ zs zs _ (Ints.of_owns hoz7') (Ints.of_owns hoz8) hm hm rfl).mono ?_
    all_goals rintro e w9 ⟨rfl, q9, rfl⟩
    all_goals go_wp2
    all_goals go_ret
    all_goals exact ⟨rfl, bdraw HB8 _⟩

set_option maxHeartbeats 1600000 in
theorem walk8 (a a2 : Option Addr) (p p2 : Nat) (n f : Int) (es : List EdgeV) (zs : List Int) (w : World) (he : Edges w a es) (hz : Ints w a2 zs) (hn : es.length ≤ maxLen) (hm : zs.length ≤ maxLen) :
    Calls Try.prog 8 #[.agg #[.int .i64 n, .slice a es.length p], .int .i64 f, .slice a2 zs.length p2] w fun e w' => e = .returned (.bool true) ∧ Below w.heap.size w w' := by
  have hW := balloc w (.cells #[.int .i64 n, .slice a es.length p] 44)
  have hm' : zs.length ≤ 9223372036854775807 := by unfold maxLen at hm; omega
  by_cases hl2 : 1048576 < zs.length
  · go_enter Try.func8, Try.ntmps8
    go_wp2
    go_ret
    exact ⟨rfl, hW⟩
  have hl2' : zs.length ≤ 1048576 := by omega
  go_enter Try.func8, Try.ntmps8
  go_wp2_with fail
  refine (c28 a es.length p _ 1048576 _ (by omega) (by omega) hn).mono ?_
  rintro e w1 ⟨r, rfl, hr, hb⟩
  have HB := btrans (balloc _ _) hb
  have X1 := Bx2.mk hb
  clear hb hW
  rcases hr with rfl | ⟨hr, hr0⟩
  · go_wp2
    go_ret
    exact ⟨rfl, HB⟩
  · have hl : es.length ≤ 1048576 := by omega
    clear hr
    obtain ⟨b0, b1⟩ := id X1
    go_wp2_with fail
    clear b0 b1
    refine (c30 a p n es _ (he.below HB) hl).mono ?_
    rintro e w2 ⟨g1, rfl, hop, hb2⟩
    have HB2 := btrans HB hb2
    have X2 := X1.below hb2
    clear hb2 HB X1
    go_wp2_with fail
    refine (c34 a2 p2 zs _ (hz.below HB2) hl2').mono ?_
    rintro e w2a ⟨g1a, rfl, hoz, hgx, hb2a⟩
    clear hgx
    have HB2a := btrans HB2 hb2a
    have X2a := X2.below hb2a
    have hopa := hop.below hb2a
    clear hb2a HB2 X2 hop
    go_wp2_with fail
    refine (c36 _ _ _ _ n f es zs _ hopa.edges (Ints.of_owns hoz) hl hl2').mono ?_
    rintro e w3 ⟨rfl, hb3⟩
    have HB3 := btrans HB2a hb3
    have X3 := X2a.below hb3
    clear hb3 HB2a hopa X2a hoz
    obtain ⟨b0, b1⟩ := id X3
    go_wp2_with fail
    clear b0 b1
    refine (c30 a p n es _ (he.below HB3) hl).mono ?_
    rintro e w4 ⟨g2, rfl, hop, hb4⟩
    have HB4 := btrans (btrans HB3 hb4) (balloc _ (.cells #[.int .i64 n, .slice (some ⟨g2, 0, none⟩) es.length es.length] 26))
    have X4 := (X3.below hb4).below (balloc _ (.cells #[.int .i64 n, .slice (some ⟨g2, 0, none⟩) es.length es.length] 26))
    have Y4 := Bx2.new w4 (.int .i64 n) (.slice (some ⟨g2, 0, none⟩) es.length es.length) 26
    have hop4 := hop.below (balloc _ (.cells #[.int .i64 n, .slice (some ⟨g2, 0, none⟩) es.length es.length] 26))
    clear hb4 HB3 X3 hop
    go_wp2_with fail
    refine (c34 a2 p2 zs _ (hz.below HB4) hl2').mono ?_
    rintro e w4a ⟨g2a, rfl, hoz, hgx, hb4a⟩
    clear hgx
    have HB4a := btrans HB4 hb4a
    have X4a := X4.below hb4a
    have Y4a := Y4.below hb4a
    have hop4a := hop4.below hb4a
    clear hb4a HB4 X4 Y4 hop4
    obtain ⟨d0, d1⟩ := id Y4a
    go_wp2_with fail
    refine (c22 _ _ _ _ n f es zs _ hop4a.edges (Ints.of_owns hoz) hl hl2').mono ?_
    rintro e w5 ⟨rfl, hb5⟩
    have Y5 := Y4a.below hb5
    have hop5 := hop4a.below hb5
    have hoz5 := owns_below hoz hb5
    have X5 := X4a.below hb5
    have HB5 := btrans HB4a hb5
    clear hb5 HB4a X4a Y4a hop4a hoz d0 d1
    obtain ⟨b0, b1⟩ := id X5
    obtain ⟨d0, d1⟩ := id Y5
    go_wp2_with fail
    go_region_with (first
      | (go_at_call 30; refine (c30 a p n es _ (he.below HB5.drew) hl).mono ?_; rintro e w6 ⟨g5, rfl, hop6, hb6⟩; have HB6 := btrans HB5 (undrew hb6); have hop5' := hop5.below (undrew hb6); have hoz6 := owns_below hoz5 (undrew hb6); obtain ⟨y0, y1⟩ := Y5.below (undrew hb6))
      | (go_at_call 32; refine (c32 _ _ _ _ n es _ hop5'.edges hop6.edges hl).mono ?_; rintro e w7 ⟨rfl, hb7⟩))
    all_goals have HB7 := btrans HB6 hb7
    all_goals have hoz7 := owns_below hoz6 hb7
    all_goals clear hb7 hb6 hoz6 HB6 hop6 hop5'
    all_goals go_wp2_with fail
    all_goals refine (c34 a2 p2 zs _ (hz.below HB7) hl2').mono ?_
    all_goals rintro e w8 ⟨g8, rfl, hoz8, hgx, hb8⟩
    all_goals clear hgx
    all_goals have HB8 := btrans HB7 hb8
    all_goals have hoz7' := owns_below hoz7 hb8
    all_goals clear hb8 HB7 hoz7
    all_goals go_wp2_with fail
    all_goals refine (c35 _ _ _ _ zs zs _ (Ints.of_owns hoz7') (Ints.of_owns hoz8) hm hm rfl).mono ?_
    all_goals rintro e w9 ⟨rfl, q9, rfl⟩
    all_goals go_wp2
    all_goals go_ret
    all_goals exact ⟨rfl, bdraw HB8 _⟩

end Go.Proofs.Ytengfldiiceieaa
