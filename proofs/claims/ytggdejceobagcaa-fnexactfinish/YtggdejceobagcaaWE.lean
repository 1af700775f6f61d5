/- The walk of the law on Finish. -/
import Derived.Test.YtggdejceobagcaaY
namespace Go.Proofs.Ytggdejceobagcaa
open Go.RowKit

set_option maxHeartbeats 6400000 in
theorem walkFinish (a b : Option Addr) (ca cb : Nat) (ls : List Int) (ts : List SingleV) (w : World) (hz : Ints w a ls) (hm : ls.length ≤ maxLen) (he : Singles w b ts) (hm2 : ts.length ≤ maxLen) :
    Calls Try.prog 11 #[.slice a ls.length ca, .slice b ts.length cb] w fun e w' => e = .returned (.bool true) ∧ Below w.heap.size w w' := by
  have hm' := hm
  unfold maxLen at hm'
  by_cases hl2 : 1048576 < ls.length
  · have hl2' : (1048576 : Int) < (ls.length : Int) := by omega
    go_enter Try.func11, Try.ntmps11
    go_wp2
    go_ret
    exact ⟨rfl, Below.refl _ _⟩
  have hl2' : ¬ ((1048576 : Int) < (ls.length : Int)) := by omega
  have hl : ls.length ≤ 1048576 := by omega
  go_enter Try.func11, Try.ntmps11
  go_wp2_with fail
  refine (cSzSingles b ts.length cb 1048576 _ (by omega) (by omega) hm2).mono ?_
  rintro e w0 ⟨r, rfl, hr, hw⟩
  subst w0
  rcases hr with rfl | ⟨rfl, hr⟩
  · go_wp2
    go_ret
    exact ⟨rfl, Below.refl _ _⟩
  have hlt : ts.length ≤ 1048576 := by omega
  have hr' : ¬ (1048576 - (ts.length : Int) < 0) := by omega
  clear hm2 hr
  have CS := fun g1 ca g2 cb w hz ht h1 h2 => cFinishS (some ⟨g1, 0, none⟩) (some ⟨g2, 0, none⟩) ca cb ls ts w hz hl h1 ht h2 hlt
  have CI := fun g1 g2 w hz ht h1 => cFinishI (some ⟨g1, 0, none⟩) (some ⟨g2, 0, none⟩) ls.length ts.length ls ts w hz hl h1 ht (fun h => by cases h) (fun x h => by cases h; rfl) hlt
  have hN := finR_le ls ts
  generalize finR ls ts = L at *
  generalize hLn : L.length = N at *
  have hNm : N ≤ maxLen := by unfold maxLen; omega
  have hN6 : N ≤ 1048576 := by omega
  go_wp2_with fail
  refine (cToInts a ca ls _ (hz.below (Below.refl _ _)) hl).mono ?_
  rintro e w1_ ⟨gl1, rfl, ol1, hgl, hb⟩
  clear hgl
  have HB1 := btrans (Below.refl _ _) hb
  clear hb 
  go_wp2_with fail
  refine (cToSingles b cb ts _ (he.below HB1) hlt).mono ?_
  rintro e w2_ ⟨gt2, rfl, ot2, hgt, hb⟩
  clear hgt
  have HB2 := btrans HB1 hb
  have ol1_2 := own_keep ol1 hb
  clear hb HB1 ol1
  go_wp2_with fail
  refine (CS _ _ _ _ _ (Ints.of_owns ol1_2) (Singles.of_owns ot2) (fun x hx => by cases hx; exact owns_lt ol1_2) (fun x hx => by cases hx; exact owns_lt ot2)).mono ?_
  rintro e w3_ ⟨v0, rfl, o0, hb⟩
  have HB3 := btrans HB2 hb
  have ol1_3 := own_keep ol1_2 hb
  clear hb HB2 ol1_2
  clear CS ot2 ol1_3
  have L0 := own_blk_lt o0
  go_wp2_with fail
  refine (cToInts a ca ls _ (hz.below HB3) hl).mono ?_
  rintro e w4_ ⟨gx, rfl, ox, hgx, hb⟩
  have L0 : ∀ k, v0.ownBlock = some k → k < gx := fun k hk => by rw [hgx]; exact L0 k hk
  have hwg : w.heap.size ≤ gx := by rw [hgx]; exact HB3.size
  clear hgx
  have HB4 := btrans HB3 hb
  have o0_4 := own_keep o0 hb
  clear hb HB3 o0
  have hgl := owns_lt ox
  go_wp2_with fail
  refine (cToSingles b cb ts _ (he.below HB4) hlt).mono ?_
  rintro e w5_ ⟨gz, rfl, oz, hgz, hb⟩
  have hgz2 : gx < gz := by rw [hgz]; exact hgl
  clear hgz hgl
  have HB5 := btrans HB4 hb
  have o0_5 := own_keep o0_4 hb
  have ox_5 := own_keep ox hb
  clear hb HB4 o0_4 ox
  have hgl := owns_lt oz
  go_wp2_with fail
  refine (CI _ _ _ (Ints.of_owns ox_5) (Singles.of_owns oz) (fun x hx => by cases hx; exact owns_lt ox_5)).mono ?_
  rintro e w6_ ⟨v1, rfl, o1, hb⟩
  have L1 : ∀ k, v1.ownBlock = some k → gz < k := fun k hk => by have := own_from o1 (Nat.le_refl _) k hk; omega
  clear hgl
  have HB6 := btrans HB5 hb
  have o0_6 := own_keep o0_5 hb
  have ox_6 := own_keep ox_5 hb
  have oz_6 := own_keep oz hb
  clear hb HB5 o0_5 ox_5 oz
  go_wp2_with fail
  refine (cEqIntsn _ _ N _ _ L _ hLn o1 o0_6 hNm).mono ?_
  rintro e w7_ ⟨rfl, hb⟩
  have HB7 := btrans HB6 hb
  have o0_7 := own_keep o0_6 hb
  have ox_7 := own_keep ox_6 hb
  have oz_7 := own_keep oz_6 hb
  have o1_7 := own_keep o1 hb
  clear hb HB6 o0_6 ox_6 oz_6 o1
  go_wp2_with fail
  refine (cToInts a ca ls _ (hz.below HB7) hl).mono ?_
  rintro e w8_ ⟨gl3, rfl, ol3, hgl, hb⟩
  clear hgl
  have HB8 := btrans HB7 hb
  have o0_8 := own_keep o0_7 hb
  have ox_8 := own_keep ox_7 hb
  have oz_8 := own_keep oz_7 hb
  have o1_8 := own_keep o1_7 hb
  clear hb HB7 o0_7 ox_7 oz_7 o1_7
  go_wp2_with fail
  refine (cEqInts _ _ _ _ ls _ (Ints.of_owns ox_8) (Ints.of_owns ol3) hm).mono ?_
  rintro e w9_ ⟨rfl, hb⟩
  clear ol3
  have HB9 := btrans HB8 hb
  have o0_9 := own_keep o0_8 hb
  have ox_9 := own_keep ox_8 hb
  have oz_9 := own_keep oz_8 hb
  have o1_9 := own_keep o1_8 hb
  clear hb HB8 o0_8 ox_8 oz_8 o1_8
  go_wp2_with fail
  refine (cToSingles b cb ts _ (he.below HB9) hlt).mono ?_
  rintro e w10_ ⟨gt4, rfl, ot4, hgt, hb⟩
  clear hgt
  have HB10 := btrans HB9 hb
  have o0_10 := own_keep o0_9 hb
  have ox_10 := own_keep ox_9 hb
  have oz_10 := own_keep oz_9 hb
  have o1_10 := own_keep o1_9 hb
  clear hb HB9 o0_9 ox_9 oz_9 o1_9
  go_wp2_with fail
  refine (cEqSingles _ _ _ _ ts _ (Singles.of_owns oz_10) (Singles.of_owns ot4) hlt).mono ?_
  rintro e w11_ ⟨rfl, hb⟩
  clear ot4
  have HB11 := btrans HB10 hb
  have o0_11 := own_keep o0_10 hb
  have ox_11 := own_keep ox_10 hb
  have oz_11 := own_keep oz_10 hb
  have o1_11 := own_keep o1_10 hb
  clear hb HB10 o0_10 ox_10 oz_10 o1_10
  go_wp2_with fail
  refine (cMarkInts _ ls.length _ ls 1 _ rfl ox_11 hl (by omega) (by omega)).mono ?_
  rintro e w12_ ⟨rfl, -, hgr⟩
  replace hgr : World.grownBy _ _ (some gx) := hgr
  have HB12 : Below w.heap.size w w12_ := HB11.grown hgr HB11.size (fun k hk => by cases hk; omega)
  have o0_12 := own_far o0_11 hgr (fun k hk h => by have := L0 k hk; cases h; omega)
  have oz_12 := own_far oz_11 hgr (fun k hk h => by simp [Value.ownBlock] at hk; cases h; omega)
  have o1_12 := own_far o1_11 hgr (fun k hk h => by have := L1 k hk; cases h; omega)
  clear hgr HB11 o0_11 ox_11 oz_11 o1_11
  go_wp2_with fail
  refine (cMarkSinglesg _ gz _ ts (1 + (ls.length : Int)) _ oz_12 hlt (by omega) (by omega)).mono ?_
  rintro e w13_ ⟨rfl, -, hgr⟩
  have HB13 : Below w.heap.size w w13_ := HB12.grown hgr HB12.size (fun k hk => by cases hk; omega)
  have o0_13 := own_far o0_12 hgr (fun k hk h => by have := L0 k hk; cases h; omega)
  have o1_13 := own_far o1_12 hgr (fun k hk h => by have := L1 k hk; cases h; omega)
  clear hgr HB12 o0_12 oz_12 o1_12
  have hpos : ¬ (1 + (ls.length : Int) + 2 * (ts.length : Int) < 0) := by omega
  go_wp2_with fail
  refine (cEqIntsn _ _ N _ _ L _ hLn o1_13 o0_13 hNm).mono ?_
  rintro e w14_ ⟨rfl, hb⟩
  have HB14 := btrans HB13 hb
  have o0_14 := own_keep o0_13 hb
  have o1_14 := own_keep o1_13 hb
  clear hb HB13 o0_13 o1_13
  go_wp2_with fail
  refine (cMarkInts _ N _ L 1 _ hLn o1_14 hN6 (by omega) (by omega)).mono ?_
  rintro e w15_ ⟨rfl, om, hgr⟩
  have HB15 : Below w.heap.size w w15_ := HB14.grown hgr HB14.size (fun k hk => by have := L1 k hk; omega)
  have o0_15 := own_far o0_14 hgr (fun k hk h => by have := L0 k hk; have := L1 k h.symm; omega)
  clear hgr HB14 o0_14 o1_14
  go_wp2_with fail
  refine (cHeldInts _ N _ 1 _ om hN6 (by omega) (by omega)).mono ?_
  rintro e w16_ ⟨rfl, hw⟩
  subst w16_
  have hpos2 : ¬ (1 + (N : Int) < 0) := by omega
  go_wp2_with fail
  refine (cToInts a ca ls _ (hz.below HB15) hl).mono ?_
  rintro e w17_ ⟨gl5, rfl, ol5, hgl, hb⟩
  clear hgl
  have HB17 := btrans HB15 hb
  have o0_17 := own_keep o0_15 hb
  have om_17 := own_keep om hb
  clear hb HB15 o0_15 om
  go_wp2_with fail
  refine (cToSingles b cb ts _ (he.below HB17) hlt).mono ?_
  rintro e w18_ ⟨gt6, rfl, ot6, hgt, hb⟩
  clear hgt
  have HB18 := btrans HB17 hb
  have o0_18 := own_keep o0_17 hb
  have om_18 := own_keep om_17 hb
  have ol5_18 := own_keep ol5 hb
  clear hb HB17 o0_17 om_17 ol5
  go_wp2_with fail
  refine (CI _ _ _ (Ints.of_owns ol5_18) (Singles.of_owns ot6) (fun x hx => by cases hx; exact owns_lt ol5_18)).mono ?_
  rintro e w19_ ⟨v2, rfl, o2, hb⟩
  clear ot6
  have HB19 := btrans HB18 hb
  have o0_19 := own_keep o0_18 hb
  have om_19 := own_keep om_18 hb
  have ol5_19 := own_keep ol5_18 hb
  clear hb HB18 o0_18 om_18 ol5_18
  clear ol5_19
  go_wp2_with fail
  refine (cEqIntsn _ _ N _ _ L _ hLn o2 o0_19 hNm).mono ?_
  rintro e w20_ ⟨rfl, hb⟩
  have HB20 := btrans HB19 hb
  have o0_20 := own_keep o0_19 hb
  have om_20 := own_keep om_19 hb
  clear hb HB19 o0_19 om_19
  go_wp2_with fail
  refine (cHeldInts _ N _ 1 _ om_20 hN6 (by omega) (by omega)).mono ?_
  rintro e w21_ ⟨rfl, hw⟩
  subst w21_
  go_wp2
  go_ret
  exact ⟨rfl, HB20⟩
end Go.Proofs.Ytggdejceobagcaa
