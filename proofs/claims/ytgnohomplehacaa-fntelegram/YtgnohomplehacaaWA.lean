/- The laws of Crc8, Accept and TelegramOk. -/
import Derived.Test.YtgnohomplehacaaTG
import Derived.Deep.RegionWith
import Derived.Deep.RegionHeld3
namespace Go.Proofs.Ytgnohomplehacaa
open Go.RowKit
theorem one_block (w : World) (o : Obj) : (w.alloc o).heap[w.heap.size]? = some o := by
  show (w.heap.push o)[w.heap.size]? = _
  simp
theorem walkAccept (l s : Int) (w : World) : Calls Try.prog 11 #[.int .i64 l, .int .i64 s] w fun e w' => e = .returned (.bool true) ∧ Below w.heap.size w w' := by
  have HB := Below.refl w.heap.size w
  go_enter Try.func11, Try.ntmps11
  go_wp2_with fail
  refine (cAccS l s _).mono ?_
  rintro e w1 ⟨rfl, hw⟩
  subst w1
  go_wp2_with fail
  refine (cAccI l s _).mono ?_
  rintro e w1 ⟨rfl, hw⟩
  subst w1
  go_wp2
  go_ret
  exact ⟨rfl, HB⟩
set_option maxHeartbeats 1600000 in
theorem walkCrc8 (a : Option Addr) (cap : Nat) (zs : List Int) (w : World) (hz : Bys w a zs) (hy : By zs) (hl : zs.length ≤ maxLen) :
    Calls Try.prog 7 #[.slice a zs.length cap] w fun e w' => e = .returned (.bool true) ∧ Below w.heap.size w w' := by
  have HB := Below.refl w.heap.size w
  have hl2 := hl
  unfold maxLen at hl2
  by_cases hbig : 1048576 < zs.length
  · go_enter Try.func7, Try.ntmps7
    go_wp2
    go_ret
    exact ⟨rfl, HB⟩
  have hs : zs.length ≤ 1048576 := by omega
  go_enter Try.func7, Try.ntmps7
  go_wp2_with fail
  refine (cToBys a cap zs _ (hz.below HB) hs).mono ?_
  rintro e w2 ⟨g0, rfl, O0, hg0, hb⟩
  clear hg0
  replace HB := btrans HB hb
  clear hb
  go_wp2_with fail
  refine (cCrcS _ _ zs _ (Bys.of_owns O0) hy hl).mono ?_
  rintro e w3 ⟨rfl, hw⟩
  subst w3
  clear O0
  go_wp2_with fail
  refine (cToBys a cap zs _ (hz.below HB) hs).mono ?_
  rintro e w2 ⟨g1, rfl, O1, hg1, hb⟩
  clear hg1
  replace HB := btrans HB hb
  clear hb
  go_wp2_with fail
  refine (cCrcI _ _ zs _ (Bys.of_owns O1) hy hl).mono ?_
  rintro e w3 ⟨rfl, hw⟩
  subst w3
  go_wp2_with fail
  refine (cToBys a cap zs _ (hz.below HB) hs).mono ?_
  rintro e w4 ⟨g2, rfl, O2, hg2, hb⟩
  clear hg2
  replace HB := btrans HB hb
  replace O1 := own_keep O1 hb
  clear hb
  go_wp2_with fail
  refine (cEqBys _ _ _ _ zs _ (Bys.of_owns O1) (Bys.of_owns O2) hl).mono ?_
  rintro e w5 ⟨rfl, hb⟩
  replace HB := btrans HB hb
  go_wp2
  go_ret
  exact ⟨rfl, HB⟩
set_option maxHeartbeats 6400000 in
theorem walkTelegramOk (q k : Int) (a : Option Addr) (cap : Nat) (zs : List Int) (w : World) (hz : Bys w a zs) (_hy : By zs) (hl : zs.length ≤ maxLen) :
    Calls Try.prog 6 #[.agg #[.int .i64 q, .int .i64 k, .slice a zs.length cap]] w fun e w' => e = .returned (.bool true) ∧ Below w.heap.size w w' := by
  have A0 := one_block w (.cells #[.int .i64 q, .int .i64 k, .slice a zs.length cap] 41)
  have HB := balloc w (.cells #[.int .i64 q, .int .i64 k, .slice a zs.length cap] 41)
  go_enter Try.func6, Try.ntmps6
  go_wp2_with fail
  refine (cSzTel q k a zs.length cap 1048576 _ (by omega) (by omega) hl).mono ?_
  rintro e w1 ⟨r, rfl, hr, hb⟩
  replace HB := btrans HB hb
  replace A0 := blk_keep hb A0
  clear hb
  rcases hr with rfl | ⟨hr, hr0⟩
  · go_wp2
    go_ret
    exact ⟨rfl, HB⟩
  have hs : zs.length ≤ 1048576 := by omega
  have hr0' : ¬ (r < 0) := by omega
  clear hr
  obtain ⟨⟨x0, x1, x2⟩, -⟩ := blk3 A0
  go_wp2_with fail
  refine (cToTel q k a cap zs _ (hz.below HB) hs).mono ?_
  rintro e w2 ⟨g0, rfl, O0, hb⟩
  replace HB := btrans HB hb
  replace A0 := blk_keep hb A0
  clear hb x0 x1 x2
  go_wp2_with fail
  refine (cOkS q k _ zs.length _ _).mono ?_
  rintro e w3 ⟨rfl, hb⟩
  replace HB := btrans HB hb
  replace A0 := blk_keep hb A0
  replace O0 := own_keep O0 hb
  clear hb
  generalize hR : telB q k zs.length = R
  replace hR := hide hR
  obtain ⟨⟨x0, x1, x2⟩, -⟩ := blk3 A0
  go_wp2_with fail
  refine (cToTel q k a cap zs _ (hz.below HB) hs).mono ?_
  rintro e w4 ⟨g1, rfl, O1, hb⟩
  replace HB := btrans HB hb
  replace A0 := blk_keep hb A0
  clear hb x0 x1 x2
  have X0 := one_block w4 (.cells #[.int .i64 q, .int .i64 k, .slice (some ⟨g1, 0, none⟩) zs.length zs.length] 25)
  have hb := balloc w4 (.cells #[.int .i64 q, .int .i64 k, .slice (some ⟨g1, 0, none⟩) zs.length zs.length] 25)
  go_wp2_with fail
  replace HB := btrans HB hb
  replace A0 := blk_keep hb A0
  replace O1 := own_keep O1 hb
  clear hb
  refine (cOkI q k _ zs.length _ _).mono ?_
  rintro e w5 ⟨rfl, hb⟩
  replace HB := btrans HB hb
  replace A0 := blk_keep hb A0
  replace O1 := own_keep O1 hb
  replace X0 := blk_keep hb X0
  clear hb
  rw [hR.out]
  obtain ⟨⟨x0, x1, x2⟩, -⟩ := blk3 A0
  obtain ⟨⟨y0, y1, y2⟩, -⟩ := blk3 X0
  go_wp2_with fail
  go_region_with (first
    | (go_at_call 29; refine (cToTel q k a cap zs _ (hz.below HB.drew) hs).mono ?_; rintro e wa ⟨g6, rfl, o6, hb⟩; have o4' := Bys.of_owns (own_keep O1 (undrew hb)); have o6' := Bys.of_owns o6; have HB' := btrans HB (undrew hb); obtain ⟨⟨z0, z1, z2⟩, -⟩ := blk3 (blk_keep (undrew hb) X0))
    | (go_at_call 30; refine (cEqTel q k _ _ _ _ zs _ o4' o6' hl).mono ?_; rintro e wb ⟨rfl, hb2⟩))
  all_goals go_wp2
  all_goals go_ret
  all_goals exact ⟨rfl, btrans HB' hb2⟩
end Go.Proofs.Ytgnohomplehacaa
