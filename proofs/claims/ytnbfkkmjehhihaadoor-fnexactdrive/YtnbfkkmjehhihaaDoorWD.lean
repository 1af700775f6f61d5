/- The walk of the law on Drive. -/
import Derived.Test.YtnbfkkmjehhihaaDoorZF
import Derived.Test.YtnbfkkmjehhihaaDoorWF
namespace Go.Proofs.YtnbfkkmjehhihaaDoor
open Go.RowKit

set_option maxHeartbeats 6400000 in
theorem walkDrive (a : Option Addr) (cap : Nat) (n : Int) (ts : List SpanV) (am : Option Addr) (cm : Nat) (ms : List Int) (y : Int) (w : World) (he : Spans w a ts) (hm : ts.length ≤ maxLen) (hi : Ints w am ms) (him : ms.length ≤ maxLen) (hg : Glob w) :
    Calls Tryd.prog 7 #[.int .i64 n, .slice a ts.length cap, .slice am ms.length cm, .int .i64 y] w fun e w' => e = .returned (.bool true) ∧ Below w.heap.size w w' := by
  have him' := him
  unfold maxLen at him'
  by_cases hl2 : 1048576 < ms.length
  · have hl2' : (1048576 : Int) < (ms.length : Int) := by omega
    go_enter Tryd.func7, Tryd.ntmps7
    go_wp2
    go_ret
    exact ⟨rfl, Below.refl _ _⟩
  have hl2' : ¬ ((1048576 : Int) < (ms.length : Int)) := by omega
  have hml : ms.length ≤ 1048576 := by omega
  go_enter Tryd.func7, Tryd.ntmps7
  go_wp2_with fail
  refine (cSzSpans a ts.length cap 1048576 _ (by omega) (by omega) hm).mono ?_
  rintro e w0 ⟨r, rfl, hr, hw⟩
  subst w0
  rcases hr with rfl | ⟨rfl, hr⟩
  · go_wp2
    go_ret
    exact ⟨rfl, Below.refl _ _⟩
  have hl : ts.length ≤ 1048576 := by omega
  have hr' : ¬ (1048576 - (ts.length : Int) < 0) := by omega
  clear hm hr
  have CS := fun a cap am cm w he hi => cDriveS a am cap cm n ts ms y w he hl hi hml
  have CI := fun g g2 w he hi hg => cDriveI (some ⟨g, 0, none⟩) (some ⟨g2, 0, none⟩) ts.length ms.length n ts ms y w he (fun h => by cases h) (fun x h => by cases h; rfl) hl hi hml hg
  have hN := drive_len n y ts ms
  generalize drive n y ts ms = dd at *
  obtain ⟨L, cc⟩ := dd
  dsimp only at *
  generalize hLn : L.length = N at *
  have hN6 : N ≤ 1048576 := by omega
  clear hLn
  go_wp2_with fail
  refine (cToSpans a cap ts _ (he.below (Below.refl _ _)) hl).mono ?_
  rintro e w1_ ⟨g1, rfl, o1, hg1, hb⟩
  clear hg1
  have HB1 := btrans (Below.refl _ _) hb
  clear hb 
  go_wp2_with fail
  refine (cToInts am cm ms _ (hi.below HB1) hml).mono ?_
  rintro e w2_ ⟨g2, rfl, o2, hg2, hb⟩
  clear hg2
  have HB2 := btrans HB1 hb
  have t1_2 := own_keep o1 hb
  clear hb HB1 o1
  go_wp2_with fail
  refine (CS _ _ _ _ _ (Spans.of_owns t1_2) (Ints.of_owns o2)).mono ?_
  rintro e w3_ ⟨v0, rfl, o0, hb⟩
  have HB3 := btrans HB2 hb
  have t1_3 := own_keep t1_2 hb
  clear hb HB2 t1_2
  clear CS t1_3 o2
  have L0 := own_blk_lt o0
  go_wp2_with fail
  refine (cToSpans a cap ts _ (he.below HB3) hl).mono ?_
  rintro e w4_ ⟨gx, rfl, ox, hgx, hb⟩
  have L0 : ∀ k, v0.ownBlock = some k → k < gx := fun k hk => by rw [hgx]; exact L0 k hk
  have hwg : w.heap.size ≤ gx := by rw [hgx]; exact HB3.size
  clear hgx
  have HB4 := btrans HB3 hb
  have o0_4 := own_keep o0 hb
  clear hb HB3 o0
  have hgl := owns_lt ox
  go_wp2_with fail
  refine (cToInts am cm ms _ (hi.below HB4) hml).mono ?_
  rintro e w5_ ⟨gz, rfl, oz, hgz, hb⟩
  have hgz2 : gx < gz := by rw [hgz]; exact hgl
  clear hgz hgl
  have HB5 := btrans HB4 hb
  have o0_5 := own_keep o0_4 hb
  have ox_5 := own_keep ox hb
  clear hb HB4 o0_4 ox
  have hgl := owns_lt oz
  go_wp2_with fail
  refine (CI _ _ _ (Spans.of_owns ox_5) (Ints.of_owns oz) (hg.below HB5)).mono ?_
  rintro e w6_ ⟨v1, rfl, o1, hb⟩
  have L1 : ∀ k, v1.ownBlock = some k → gz < k := fun k hk => by have := own_from o1 (Nat.le_refl _) k hk; omega
  clear hgl
  have HB6 := btrans HB5 hb
  have o0_6 := own_keep o0_5 hb
  have ox_6 := own_keep ox_5 hb
  have oz_6 := own_keep oz hb
  clear hb HB5 o0_5 ox_5 oz
  go_wp2_with fail
  refine (cEqSpansn N _ _ _ _ L _ (.inl o1) (.inl o0_6) hN6).mono ?_
  rintro e w7_ ⟨rfl, hb⟩
  have HB7 := btrans HB6 hb
  have o0_7 := own_keep o0_6 hb
  have ox_7 := own_keep ox_6 hb
  have oz_7 := own_keep oz_6 hb
  have o1_7 := own_keep o1 hb
  clear hb HB6 o0_6 ox_6 oz_6 o1
  go_wp2_with fail
  refine (cToSpans a cap ts _ (he.below HB7) hl).mono ?_
  rintro e w8_ ⟨g3, rfl, o3, hg3, hb⟩
  clear hg3
  have HB8 := btrans HB7 hb
  have o0_8 := own_keep o0_7 hb
  have ox_8 := own_keep ox_7 hb
  have oz_8 := own_keep oz_7 hb
  have o1_8 := own_keep o1_7 hb
  clear hb HB7 o0_7 ox_7 oz_7 o1_7
  go_wp2_with fail
  refine (cEqSpans _ _ _ _ ts _ (Spans.of_owns ox_8) (Spans.of_owns o3) hl).mono ?_
  rintro e w9_ ⟨rfl, hb⟩
  have HB9 := btrans HB8 hb
  have o0_9 := own_keep o0_8 hb
  have ox_9 := own_keep ox_8 hb
  have oz_9 := own_keep oz_8 hb
  have o1_9 := own_keep o1_8 hb
  clear hb HB8 o0_8 ox_8 oz_8 o1_8
  clear o3
  go_wp2_with fail
  refine (cToInts am cm ms _ (hi.below HB9) hml).mono ?_
  rintro e w10_ ⟨g4, rfl, o4, hg4, hb⟩
  clear hg4
  have HB10 := btrans HB9 hb
  have o0_10 := own_keep o0_9 hb
  have ox_10 := own_keep ox_9 hb
  have oz_10 := own_keep oz_9 hb
  have o1_10 := own_keep o1_9 hb
  clear hb HB9 o0_9 ox_9 oz_9 o1_9
  go_wp2_with fail
  refine (cEqInts _ _ _ _ ms _ (Ints.of_owns oz_10) (Ints.of_owns o4) him).mono ?_
  rintro e w11_ ⟨rfl, hb⟩
  have HB11 := btrans HB10 hb
  have o0_11 := own_keep o0_10 hb
  have ox_11 := own_keep ox_10 hb
  have oz_11 := own_keep oz_10 hb
  have o1_11 := own_keep o1_10 hb
  clear hb HB10 o0_10 ox_10 oz_10 o1_10
  clear o4
  go_wp2_with fail
  refine (cMarkSpansg _ gx _ ts 1 _ ox_11 hl (by omega) (by omega)).mono ?_
  rintro e w12_ ⟨rfl, -, hgr⟩
  have HB12 : Below w.heap.size w w12_ := HB11.grown hgr HB11.size (fun k hk => by cases hk; omega)
  have o0_12 := own_far o0_11 hgr (fun k hk h => by have := L0 k hk; cases h; omega)
  have oz_12 := own_far oz_11 hgr (fun k hk h => by simp [Value.ownBlock] at hk; cases h; omega)
  have o1_12 := own_far o1_11 hgr (fun k hk h => by have := L1 k hk; cases h; omega)
  clear hgr HB11 o0_11 ox_11 oz_11 o1_11
  go_wp2_with fail
  refine (cMarkInts _ ms.length _ ms (1 + 2 * (ts.length : Int)) _ rfl oz_12 hml (by omega) (by omega)).mono ?_
  rintro e w13_ ⟨rfl, -, hgr⟩
  replace hgr : World.grownBy _ _ (some gz) := hgr
  have HB13 : Below w.heap.size w w13_ := HB12.grown hgr HB12.size (fun k hk => by cases hk; omega)
  have o0_13 := own_far o0_12 hgr (fun k hk h => by have := L0 k hk; cases h; omega)
  have o1_13 := own_far o1_12 hgr (fun k hk h => by have := L1 k hk; cases h; omega)
  clear hgr HB12 o0_12 oz_12 o1_12
  have hpos : ¬ (1 + 2 * (ts.length : Int) + (ms.length : Int) < 0) := by omega
  go_wp2_with fail
  refine (cEqSpansn N _ _ _ _ L _ (.inl o1_13) (.inl o0_13) hN6).mono ?_
  rintro e w14_ ⟨rfl, hb⟩
  have HB14 := btrans HB13 hb
  have o0_14 := own_keep o0_13 hb
  have o1_14 := own_keep o1_13 hb
  clear hb HB13 o0_13 o1_13
  go_wp2_with fail
  refine (cMarkSpans _ N _ L 1 _ (.inl o1_14) hN6 (by omega) (by omega)).mono ?_
  rintro e w15_ ⟨rfl, om, rr, hgr, hrr⟩
  have HB15 : Below w.heap.size w w15_ := HB14.grown hgr HB14.size (fun k hk => by have := L1 k (hrr k hk).2; omega)
  have o0_15 := own_far o0_14 hgr (fun k hk h => by have := L0 k hk; have := L1 k (hrr k h.symm).2; omega)
  clear hgr hrr HB14 o0_14 o1_14
  go_wp2_with fail
  refine (cHeldSpans _ N _ 1 _ om hN6 (by omega) (by omega)).mono ?_
  rintro e w16_ ⟨rfl, hw⟩
  subst w16_
  have hpos2 : ¬ (1 + 2 * (N : Int) < 0) := by omega
  go_wp2_with fail
  refine (cToSpans a cap ts _ (he.below HB15) hl).mono ?_
  rintro e w17_ ⟨g5, rfl, o5, hg5, hb⟩
  clear hg5
  have HB17 := btrans HB15 hb
  have o0_17 := own_keep o0_15 hb
  have om_17 := Rw.keep om hb
  clear hb HB15 o0_15 om
  go_wp2_with fail
  refine (cToInts am cm ms _ (hi.below HB17) hml).mono ?_
  rintro e w18_ ⟨g6, rfl, o6, hg6, hb⟩
  clear hg6
  have HB18 := btrans HB17 hb
  have o0_18 := own_keep o0_17 hb
  have o5_18 := own_keep o5 hb
  have om_18 := Rw.keep om_17 hb
  clear hb HB17 o0_17 o5 om_17
  go_wp2_with fail
  refine (CI _ _ _ (Spans.of_owns o5_18) (Ints.of_owns o6) (hg.below HB18)).mono ?_
  rintro e w19_ ⟨v2, rfl, o2, hb⟩
  have HB19 := btrans HB18 hb
  have o0_19 := own_keep o0_18 hb
  have o5_19 := own_keep o5_18 hb
  have om_19 := Rw.keep om_18 hb
  clear hb HB18 o0_18 o5_18 om_18
  go_wp2_with fail
  refine (cEqSpansn N _ _ _ _ L _ (.inl o2) (.inl o0_19) hN6).mono ?_
  rintro e w20_ ⟨rfl, hb⟩
  have HB20 := btrans HB19 hb
  have o0_20 := own_keep o0_19 hb
  have o5_20 := own_keep o5_19 hb
  have om_20 := Rw.keep om_19 hb
  clear hb HB19 o0_19 o5_19 om_19
  go_wp2_with fail
  refine (cHeldSpans _ N _ 1 _ om_20 hN6 (by omega) (by omega)).mono ?_
  rintro e w21_ ⟨rfl, hw⟩
  subst w21_
  go_wp2
  go_ret
  exact ⟨rfl, HB20⟩
end Go.Proofs.YtnbfkkmjehhihaaDoor
