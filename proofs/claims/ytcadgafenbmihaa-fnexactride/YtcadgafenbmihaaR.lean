/- The walk of the law on rides. -/
import Derived.Test.YtcadgafenbmihaaQ
namespace Go.Proofs.Ytcadgafenbmihaa
open Go.RowKit Fl

attribute [local go_sem] run_store_float

set_option maxRecDepth 20000 in
set_option maxHeartbeats 6400000 in
theorem walk11 (l : LocoV) (a az : Option Addr) (cap cz v sp : Nat) (es : List CarV) (zs : List Nat) (w : World) (he : Cars w a es) (hm : es.length ≤ maxLen) (h64 : ∀ c ∈ es, c.m < 2 ^ 64) (hz : Flts w az zs) (hzm : zs.length ≤ maxLen) :
    Calls Try.prog 11 #[LocoV.val l, .slice a es.length cap, .float .f64 v, .slice az zs.length cz, .float .f64 sp] w fun e w' => e = .returned (.bool true) ∧ Below w.heap.size w w' := by
  have hzm' := hzm
  unfold maxLen at hzm'
  have CS := fun a az cap cz w he hl hz hzl => c37 l a az cap cz v sp es zs w he hl hz hzl h64
  have CI := fun a az cap cz w he hl hz hzl => c39 l a az cap cz v sp es zs w he hl hz hzl
  have hn := ride_len l es v zs sp
  generalize ride l es v zs sp = L at *
  generalize hLn : L.length = n at *
  have hnm : n ≤ maxLen := by unfold maxLen; omega
  have hn6 : n ≤ 1048576 := by omega
  obtain ⟨p, g⟩ := l
  unfold LocoV.val at *
  by_cases hl2 : 1048576 < zs.length
  · go_enter Try.func11, Try.ntmps11
    go_wp2
    go_ret
    exact ⟨rfl, balloc _ _⟩
  have hzl : zs.length ≤ 1048576 := by omega
  go_enter Try.func11, Try.ntmps11
  go_wp2_with fail
  refine (c28 a es.length cap 1048576 _ (by omega) (by omega) hm).mono ?_
  rintro e w0 ⟨r, rfl, hr, rfl⟩
  rcases hr with rfl | ⟨rfl, hr⟩
  · go_wp2
    go_ret
    exact ⟨rfl, balloc _ _⟩
  have hl : es.length ≤ 1048576 := by omega
  have hr' : ¬ (1048576 - (es.length : Int) < 0) := by omega
  clear hm hr
  go_wp2_with fail
  refine (c21 ⟨p, g⟩ _).mono ?_
  rintro e w1 ⟨rfl, hb⟩
  have HB1 := btrans (balloc w (.cells #[.float .f64 p, .float .f64 g] 31)) hb
  have X1 := Bx2.mk hb
  clear hb
  go_wp2_with fail
  refine (c30 a cap es _ (he.below HB1) hl).mono ?_
  rintro e w2 ⟨g1, rfl, oc, hg, hb⟩
  clear hg
  have HB2 := btrans HB1 hb
  have X2 := X1.below hb
  clear hb HB1 X1
  go_wp2_with fail
  refine (c38 az cz zs _ (hz.below HB2) hzl).mono ?_
  rintro e w3 ⟨g2, rfl, of, hg, hb⟩
  clear hg
  have HB3 := btrans HB2 hb
  have X3 := X2.below hb
  have oc3 := own_keep oc hb
  clear hb HB2 X2 oc
  unfold LocoV.val
  go_wp2_with fail
  refine (CS _ _ _ _ _ (Cars.of_owns oc3) hl (Flts.of_owns of) hzl).mono ?_
  rintro e w4 ⟨v0, rfl, o0, hb⟩
  have HB4 := btrans HB3 hb
  have X4 := X3.below hb
  have oc4 := own_keep oc3 hb
  clear hb HB3 X3 oc3
  clear oc4 of CS
  have L0 := own_blk_lt o0
  go_wp2_with fail
  refine (c30 a cap es _ (he.below HB4) hl).mono ?_
  rintro e w5 ⟨gx, rfl, ox, hgx, hb⟩
  have L0 : ∀ k, v0.ownBlock = some k → k < gx := fun k hk => by rw [hgx]; exact L0 k hk
  have hwg : w.heap.size < gx := by rw [hgx]; exact cell_lt X4.1
  clear hgx
  have HB5 := btrans HB4 hb
  have X5 := X4.below hb
  have o0_5 := own_keep o0 hb
  clear hb HB4 X4 o0
  have hgl := owns_lt ox
  go_wp2_with fail
  refine (c38 az cz zs _ (hz.below HB5) hzl).mono ?_
  rintro e w6 ⟨gz, rfl, oz, hgz, hb⟩
  have hgz2 : gx < gz := by rw [hgz]; exact hgl
  clear hgz hgl
  have HB6 := btrans HB5 hb
  have X6 := X5.below hb
  have o0_6 := own_keep o0_5 hb
  have ox_6 := own_keep ox hb
  clear hb HB5 X5 o0_5 ox
  obtain ⟨b0, b1⟩ := id X6
  dsimp only at b0 b1
  go_wp2_with fail
  clear b0 b1
  refine (c21 ⟨p, g⟩ _).mono ?_
  rintro e w7 ⟨rfl, hb⟩
  have HB7 := btrans HB6 hb
  have X7 := X6.below hb
  have o0_7 := own_keep o0_6 hb
  have ox_7 := own_keep ox_6 hb
  have oz_7 := own_keep oz hb
  clear hb HB6 X6 o0_6 ox_6 oz
  unfold LocoV.val
  have hgl := owns_lt oz_7
  go_wp2_with fail
  refine (CI _ _ _ _ _ (Cars.of_owns ox_7) hl (Flts.of_owns oz_7) hzl).mono ?_
  rintro e w8 ⟨v1, rfl, o1, hb⟩
  have L1 : ∀ k, v1.ownBlock = some k → gz < k := fun k hk => by have := own_from o1 (Nat.le_refl _) k hk; omega
  clear hgl
  have HB8 := btrans HB7 hb
  have X8 := X7.below hb
  have o0_8 := own_keep o0_7 hb
  have ox_8 := own_keep ox_7 hb
  have oz_8 := own_keep oz_7 hb
  clear hb HB7 X7 o0_7 ox_7 oz_7
  go_wp2_with fail
  refine (c40n _ _ n _ _ L _ hLn o1 o0_8 hnm).mono ?_
  rintro e w9 ⟨rfl, hb⟩
  have HB9 := btrans HB8 hb
  have X9 := X8.below hb
  have o0_9 := own_keep o0_8 hb
  have ox_9 := own_keep ox_8 hb
  have oz_9 := own_keep oz_8 hb
  have o1_9 := own_keep o1 hb
  clear hb HB8 X8 o0_8 ox_8 oz_8 o1
  go_wp2_with fail
  refine (c30 a cap es _ (he.below HB9) hl).mono ?_
  rintro e w10 ⟨g3, rfl, oc, hg, hb⟩
  clear hg
  have HB10 := btrans HB9 hb
  have X10 := X9.below hb
  have o0_10 := own_keep o0_9 hb
  have ox_10 := own_keep ox_9 hb
  have oz_10 := own_keep oz_9 hb
  have o1_10 := own_keep o1_9 hb
  clear hb HB9 X9 o0_9 ox_9 oz_9 o1_9
  go_wp2_with fail
  refine (c32 _ _ _ _ es _ (Cars.of_owns ox_10) (Cars.of_owns oc) hl).mono ?_
  rintro e w11 ⟨rfl, hb⟩
  have HB11 := btrans HB10 hb
  have X11 := X10.below hb
  have o0_11 := own_keep o0_10 hb
  have ox_11 := own_keep ox_10 hb
  have oz_11 := own_keep oz_10 hb
  have o1_11 := own_keep o1_10 hb
  clear hb HB10 X10 o0_10 ox_10 oz_10 o1_10
  clear oc
  go_wp2_with fail
  refine (c38 az cz zs _ (hz.below HB11) hzl).mono ?_
  rintro e w12 ⟨g4, rfl, of, hg, hb⟩
  clear hg
  have HB12 := btrans HB11 hb
  have X12 := X11.below hb
  have o0_12 := own_keep o0_11 hb
  have ox_12 := own_keep ox_11 hb
  have oz_12 := own_keep oz_11 hb
  have o1_12 := own_keep o1_11 hb
  clear hb HB11 X11 o0_11 ox_11 oz_11 o1_11
  go_wp2_with fail
  refine (c40 _ _ _ _ zs _ (Flts.of_owns oz_12) (Flts.of_owns of) hzm).mono ?_
  rintro e w13 ⟨rfl, hb⟩
  have HB13 := btrans HB12 hb
  have X13 := X12.below hb
  have o0_13 := own_keep o0_12 hb
  have ox_13 := own_keep ox_12 hb
  have oz_13 := own_keep oz_12 hb
  have o1_13 := own_keep o1_12 hb
  clear hb HB12 X12 o0_12 ox_12 oz_12 o1_12
  clear of
  go_wp2_with fail
  refine (c41 _ gx es.length _ _ 1 _ ox_13 hl (by omega) (by omega)).mono ?_
  rintro e w14 ⟨rfl, hgr⟩
  have HB14 : Below w.heap.size w w14 := HB13.grown hgr HB13.size (fun k hk => by cases hk; omega)
  have X14 := X13.grow hgr (fun h => by cases h; omega)
  have o0_14 := own_far o0_13 hgr (fun k hk h => by have := L0 k hk; cases h; omega)
  have oz_14 := own_far oz_13 hgr (fun k hk h => by simp [Value.ownBlock] at hk; cases h; omega)
  have o1_14 := own_far o1_13 hgr (fun k hk h => by have := L1 k hk; cases h; omega)
  clear hgr HB13 X13 o0_13 ox_13 oz_13 o1_13
  go_wp2_with fail
  refine (c42 _ zs.length _ zs (1 + 4 * (es.length : Int)) _ rfl oz_14 hzl (by omega) (by omega)).mono ?_
  rintro e w15 ⟨rfl, -, hgr⟩
  replace hgr : World.grownBy _ _ (some gz) := hgr
  have HB15 : Below w.heap.size w w15 := HB14.grown hgr HB14.size (fun k hk => by cases hk; omega)
  have X15 := X14.grow hgr (fun h => by cases h; omega)
  have o0_15 := own_far o0_14 hgr (fun k hk h => by have := L0 k hk; cases h; omega)
  have o1_15 := own_far o1_14 hgr (fun k hk h => by have := L1 k hk; cases h; omega)
  clear hgr HB14 X14 o0_14 oz_14 o1_14
  have hpos : ¬ (1 + 4 * (es.length : Int) + (zs.length : Int) < 0) := by omega
  go_wp2_with fail
  refine (c40n _ _ n _ _ L _ hLn o1_15 o0_15 hnm).mono ?_
  rintro e w16 ⟨rfl, hb⟩
  have HB16 := btrans HB15 hb
  have X16 := X15.below hb
  have o0_16 := own_keep o0_15 hb
  have o1_16 := own_keep o1_15 hb
  clear hb HB15 X15 o0_15 o1_15
  go_wp2_with fail
  refine (c42 _ n _ L 1 _ hLn o1_16 hn6 (by omega) (by omega)).mono ?_
  rintro e w17 ⟨rfl, om, hgr⟩
  have HB17 : Below w.heap.size w w17 := HB16.grown hgr HB16.size (fun k hk => by have := L1 k hk; omega)
  have X17 := X16.grow hgr (fun h => by have := L1 _ h.symm; omega)
  have o0_17 := own_far o0_16 hgr (fun k hk h => by have := L0 k hk; have := L1 k h.symm; omega)
  clear hgr HB16 X16 o0_16 o1_16
  go_wp2_with fail
  refine (c43n _ n _ 1 _ om hn6 (by omega) (by omega)).mono ?_
  rintro e w18 ⟨rfl, hw⟩
  subst hw
  have hpos2 : ¬ (1 + (n : Int) < 0) := by omega
  obtain ⟨b0, b1⟩ := id X17
  dsimp only at b0 b1
  go_wp2_with fail
  clear b0 b1
  refine (c21 ⟨p, g⟩ _).mono ?_
  rintro e w19 ⟨rfl, hb⟩
  have HB19 := btrans HB17 hb
  have X19 := X17.below hb
  have o0_19 := own_keep o0_17 hb
  have om_19 := own_keep om hb
  clear hb HB17 X17 o0_17 om
  go_wp2_with fail
  refine (c30 a cap es _ (he.below HB19) hl).mono ?_
  rintro e w20 ⟨g5, rfl, oc, hg, hb⟩
  clear hg
  have HB20 := btrans HB19 hb
  have X20 := X19.below hb
  have o0_20 := own_keep o0_19 hb
  have om_20 := own_keep om_19 hb
  clear hb HB19 X19 o0_19 om_19
  go_wp2_with fail
  refine (c38 az cz zs _ (hz.below HB20) hzl).mono ?_
  rintro e w21 ⟨g6, rfl, of, hg, hb⟩
  clear hg
  have HB21 := btrans HB20 hb
  have X21 := X20.below hb
  have o0_21 := own_keep o0_20 hb
  have om_21 := own_keep om_20 hb
  have oc21 := own_keep oc hb
  clear hb HB20 X20 o0_20 om_20 oc
  unfold LocoV.val
  go_wp2_with fail
  refine (CI _ _ _ _ _ (Cars.of_owns oc21) hl (Flts.of_owns of) hzl).mono ?_
  rintro e w22 ⟨v2, rfl, o2, hb⟩
  have HB22 := btrans HB21 hb
  have X22 := X21.below hb
  have o0_22 := own_keep o0_21 hb
  have om_22 := own_keep om_21 hb
  have oc22 := own_keep oc21 hb
  clear hb HB21 X21 o0_21 om_21 oc21
  go_wp2_with fail
  refine (c40n _ _ n _ _ L _ hLn o2 o0_22 hnm).mono ?_
  rintro e w23 ⟨rfl, hb⟩
  have HB23 := btrans HB22 hb
  have X23 := X22.below hb
  have o0_23 := own_keep o0_22 hb
  have om_23 := own_keep om_22 hb
  have oc23 := own_keep oc22 hb
  clear hb HB22 X22 o0_22 om_22 oc22
  go_wp2_with fail
  refine (c43n _ n _ 1 _ om_23 hn6 (by omega) (by omega)).mono ?_
  rintro e w24 ⟨rfl, hw⟩
  subst hw
  go_wp2
  go_ret
  exact ⟨rfl, HB23⟩

end Go.Proofs.Ytcadgafenbmihaa
