/- The walk of the law on TripText. -/
import Derived.Test.YtndjjopplejkgaaDoorTY
import Derived.Deep.RegionWith
namespace Go.Proofs.YtndjjopplejkgaaDoor
open Go.RowKit

set_option maxHeartbeats 1600000 in
theorem walkTripText (s : ByteArray) (a : Option Addr) (cap : Nat) (cs : List HaltV) (w : World) (ht : Tab w) (hz : Halts w a cs) (hm : cs.length ≤ maxLen) (hms : s.size ≤ maxLen) :
    Calls Tryd.prog 5 #[.agg #[.string s, .slice a cs.length cap]] w fun e w' => e = .returned (.bool true) ∧ Below w.heap.size w w' := by
  have A0 := one_block' w (.cells #[.string s, .slice a cs.length cap] 39)
  have HB := balloc w (.cells #[.string s, .slice a cs.length cap] 39)
  go_enter Tryd.func5, Tryd.ntmps5
  go_wp2_with fail
  refine (cSzTrip s a cs.length cap 1048576 _ (by omega) (by omega) hm hms).mono ?_
  rintro e w1 ⟨r, rfl, hr, hb⟩
  replace HB := btrans HB hb
  replace A0 := blk_keep hb A0
  clear hb
  rcases hr with rfl | ⟨hr, hr0⟩
  · go_wp2
    go_ret
    exact ⟨rfl, HB⟩
  have hl : cs.length ≤ 1048576 := by omega
  have hs : s.size ≤ 1048576 := by omega
  have hr0' : ¬ (r < 0) := by omega
  clear hr hm hms
  obtain ⟨⟨x0, x1⟩, -⟩ := blk2 A0
  go_wp2_with fail
  refine (cToTrip s a cap cs _ (hz.below HB) hl).mono ?_
  rintro e w2 ⟨g2, rfl, o2, hb⟩
  replace HB := btrans HB hb
  replace A0 := blk_keep hb A0
  clear hb x0 x1
  go_wp2_with fail
  refine (cTextS s _ _ cs _ (Halts.of_owns o2) hl hs).mono ?_
  rintro e w3 ⟨rfl, hb⟩
  replace HB := btrans HB hb
  replace A0 := blk_keep hb A0
  clear hb o2
  generalize hR : tripL ⟨s, cs⟩ = R
  replace hR := hide hR
  obtain ⟨⟨x0, x1⟩, -⟩ := blk2 A0
  go_wp2_with fail
  refine (cToTrip s a cap cs _ (hz.below HB) hl).mono ?_
  rintro e w4 ⟨g4, rfl, o4, hb⟩
  replace HB := btrans HB hb
  replace A0 := blk_keep hb A0
  clear hb x0 x1
  have X0 := one_block' w4 (.cells #[.string s, .slice (some ⟨g4, 0, none⟩) cs.length cs.length] 26)
  have hb := balloc w4 (.cells #[.string s, .slice (some ⟨g4, 0, none⟩) cs.length cs.length] 26)
  go_wp2_with fail
  replace HB := btrans HB hb
  replace A0 := blk_keep hb A0
  replace o4 := own_keep o4 hb
  clear hb
  refine (cTextI s _ _ cs _ (ht.below HB) (Halts.of_owns o4) hl (Nat.le_refl _)).mono ?_
  rintro e w5 ⟨rfl, hb⟩
  replace HB := btrans HB hb
  replace A0 := blk_keep hb A0
  replace X0 := blk_keep hb X0
  replace o4 := own_keep o4 hb
  clear hb
  rw [hR.out]
  obtain ⟨⟨x0, x1⟩, -⟩ := blk2 A0
  obtain ⟨⟨y0, y1⟩, -⟩ := blk2 X0
  go_wp2_with fail
  go_region_with (first
    | (go_at_call 18; refine (cToTrip s a cap cs _ (hz.below HB.drew) hl).mono ?_; rintro e wa ⟨g6, rfl, o6, hb⟩; have o4' := Halts.of_owns (own_keep o4 (undrew hb)); have o6' := Halts.of_owns o6; have HB' := btrans HB (undrew hb); obtain ⟨⟨z0, z1⟩, -⟩ := blk2 (blk_keep (undrew hb) X0))
    | (go_at_call 21; refine (cEqTrip s _ _ _ _ cs _ o4' o6' hl).mono ?_; rintro e wb ⟨rfl, hb2⟩))
  all_goals go_wp2
  all_goals go_ret
  all_goals exact ⟨rfl, btrans HB' hb2⟩
end Go.Proofs.YtndjjopplejkgaaDoor
