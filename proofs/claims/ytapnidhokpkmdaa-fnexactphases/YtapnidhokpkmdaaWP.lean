/- The law of Phases. -/
import Derived.Test.YtapnidhokpkmdaaPS
namespace Go.Proofs.Ytapnidhokpkmdaa
open Go.RowKit
set_option maxRecDepth 20000 in
set_option maxHeartbeats 12800000 in
theorem walkPhases (fa : Option Addr) (fc : Nat) (fs : List Int) (ca : Option Addr) (cc : Nat) (cs : List Bool) (w : World) (hf : Ints w fa fs) (_ : fs.length ≤ maxLen) (hc : Bools w ca cs) (_ : cs.length ≤ maxLen) :
    Calls Try.prog 15 #[.slice fa fs.length fc, .slice ca cs.length cc] w fun e w' => e = .returned (.bool true) ∧ Below w.heap.size w w' := by
  have HB := Below.refl w.heap.size w
  by_cases zf : (1048576 : Int) < fs.length
  · go_enter Try.func15, Try.ntmps15
    go_wp2
    go_ret
    exact ⟨rfl, HB⟩
  have lf : fs.length ≤ 1048576 := by omega
  replace zf : ¬ (1048576 : Int) < fs.length := zf
  by_cases zc : (1048576 : Int) < cs.length
  · go_enter Try.func15, Try.ntmps15
    go_wp2
    go_ret
    exact ⟨rfl, HB⟩
  have lc : cs.length ≤ 1048576 := by omega
  replace zc : ¬ (1048576 : Int) < cs.length := zc
  go_enter Try.func15, Try.ntmps15
  go_wp2_with fail
  refine (cToInts fa fc fs _ (hf.below HB) lf).mono ?_
  rintro e w1 ⟨gf0, rfl, Of0, hgf0, hb⟩
  clear hgf0
  replace HB := btrans HB hb
  clear hb
  go_wp2_with fail
  refine (cToBools ca cc cs _ (hc.below HB) lc).mono ?_
  rintro e w2 ⟨gc0, rfl, Oc0, hgc0, hb⟩
  clear hgc0
  replace HB := btrans HB hb
  replace Of0 := own_keep Of0 hb
  clear hb
  go_wp2_with fail
  refine (cPhS _ _ _ _ fs cs _ (Ints.of_owns Of0) (Bools.of_owns Oc0) lf lc).mono ?_
  rintro e w3 ⟨vW, rfl, W, hb⟩
  clear Of0 Oc0
  replace HB := btrans HB hb
  clear hb
  have bW := own_blk_lt W
  obtain ⟨Wa, Wc, rfl⟩ := own_form W
  go_wp2_with fail
  refine (cToInts fa fc fs _ (hf.below HB) lf).mono ?_
  rintro e w4 ⟨gf1, rfl, Of1, hgf1, hb⟩
  have yf1 := hgf1
  replace hgf1 := hide hgf1
  have xf : gf1 < w4.heap.size := owns_lt Of1
  have qW : ∀ k, (Value.slice Wa (phC fs cs).length Wc).ownBlock = some k → k < gf1 := fun k hk => by have := bW k hk; omega
  have uf1 : w.heap.size ≤ gf1 := by have := HB.size; omega
  clear yf1
  replace HB := btrans HB hb
  replace W := own_keep W hb
  clear hb
  go_wp2_with fail
  refine (cToBools ca cc cs _ (hc.below HB) lc).mono ?_
  rintro e w5 ⟨gc1, rfl, Oc1, hgc1, hb⟩
  have yc1 := hgc1
  replace hgc1 := hide hgc1
  have xc : gc1 < w5.heap.size := owns_lt Oc1
  have uc1 : w.heap.size ≤ gc1 := by have := HB.size; omega
  clear yc1
  replace HB := btrans HB hb
  replace W := own_keep W hb
  replace Of1 := own_keep Of1 hb
  clear hb
  go_wp2_with fail
  refine (cPhI _ _ _ _ fs cs _ (Ints.of_owns Of1) (Bools.of_owns Oc1) lf).mono ?_
  rintro e w6 ⟨vG, rfl, G, hb⟩
  have qG : ∀ k, vG.ownBlock = some k → gc1 < k := fun k hk => by have := own_from G (Nat.le_refl _) k hk; omega
  replace HB := btrans HB hb
  replace W := own_keep W hb
  replace Of1 := own_keep Of1 hb
  replace Oc1 := own_keep Oc1 hb
  clear hb
  obtain ⟨Ga, Gc, rfl⟩ := own_form G
  have hxx : gf1 < gc1 := by have := hgc1.out; omega
  have LG : (phC fs cs).length ≤ 1048576 := by have := phC_le fs cs; omega
  go_wp2_with fail
  refine (cEqIntsn _ _ _ _ _ (phC fs cs) _ rfl G W (by unfold maxLen; omega)).mono ?_
  rintro e w7 ⟨rfl, hb⟩
  replace HB := btrans HB hb
  replace W := own_keep W hb
  replace Of1 := own_keep Of1 hb
  replace Oc1 := own_keep Oc1 hb
  replace G := own_keep G hb
  clear hb
  go_wp2_with fail
  refine (cToInts fa fc fs _ (hf.below HB) lf).mono ?_
  rintro e w8 ⟨g5, rfl, O5, hg5, hb⟩
  clear hg5
  replace HB := btrans HB hb
  replace W := own_keep W hb
  replace Of1 := own_keep Of1 hb
  replace Oc1 := own_keep Oc1 hb
  replace G := own_keep G hb
  clear hb
  go_wp2_with fail
  refine (cEqInts _ _ _ _ fs _ (Ints.of_owns Of1) (Ints.of_owns O5) (by unfold maxLen; omega)).mono ?_
  rintro e w9 ⟨rfl, hb⟩
  clear O5
  replace HB := btrans HB hb
  replace W := own_keep W hb
  replace Of1 := own_keep Of1 hb
  replace Oc1 := own_keep Oc1 hb
  replace G := own_keep G hb
  clear hb
  go_wp2_with fail
  refine (cToBools ca cc cs _ (hc.below HB) lc).mono ?_
  rintro e w10 ⟨g5, rfl, O5, hg5, hb⟩
  clear hg5
  replace HB := btrans HB hb
  replace W := own_keep W hb
  replace Of1 := own_keep Of1 hb
  replace Oc1 := own_keep Oc1 hb
  replace G := own_keep G hb
  clear hb
  go_wp2_with fail
  refine (cEqBools _ _ _ _ cs _ (Bools.of_owns Oc1) (Bools.of_owns O5) (by unfold maxLen; omega)).mono ?_
  rintro e w11 ⟨rfl, hb⟩
  clear O5
  replace HB := btrans HB hb
  replace W := own_keep W hb
  replace Of1 := own_keep Of1 hb
  replace Oc1 := own_keep Oc1 hb
  replace G := own_keep G hb
  clear hb
  go_wp2_with fail
  refine (cMarkIntsg _ gf1 _ fs ((1 : Int)) _ Of1 lf (by omega) (by omega)).mono ?_
  rintro e w12 ⟨rfl, -, hg⟩
  clear Of1
  replace HB := HB.grown hg HB.size (fun j e => by simp at e; omega)
  replace W := own_far W hg (fun k hk e => by have := qW k hk; simp at e; omega)
  replace Oc1 := own_far Oc1 hg (fun k hk e => by simp [Value.ownBlock] at hk; simp at e; omega)
  replace G := own_far G hg (fun k hk e => by have := qG k hk; simp at e; omega)
  clear hg
  go_wp2_with fail
  refine (cMarkBoolsg _ gc1 _ cs ((1 : Int) + fs.length) _ Oc1 lc (by omega) (by omega)).mono ?_
  rintro e w13 ⟨rfl, -, hg⟩
  clear Oc1
  replace HB := HB.grown hg HB.size (fun j e => by simp at e; omega)
  replace W := own_far W hg (fun k hk e => by have := qW k hk; simp at e; omega)
  replace G := own_far G hg (fun k hk e => by have := qG k hk; simp at e; omega)
  clear hg
  have hk9 : ¬ ((1 : Int) + fs.length + cs.length < 0) := by omega
  go_wp2_with fail
  refine (cEqIntsn _ _ _ _ _ (phC fs cs) _ rfl G W (by unfold maxLen; omega)).mono ?_
  rintro e w14 ⟨rfl, hb⟩
  replace HB := btrans HB hb
  replace W := own_keep W hb
  replace G := own_keep G hb
  clear hb
  go_wp2_with fail
  refine (cMarkInts _ (phC fs cs).length _ (phC fs cs) (1 : Int) _ rfl G LG (by omega) (by omega)).mono ?_
  rintro e w15 ⟨rfl, Q, hg⟩
  clear G
  replace HB := HB.grown hg HB.size (fun j e => by have := qG j e; omega)
  replace W := own_far W hg (fun k hk e => by have h1 := qW k hk; have h2 := qG k e.symm; omega)
  clear hg
  have hqq : ¬ ((1 : Int) + (phC fs cs).length < 0) := by omega
  go_wp2_with fail
  refine (cHeldInts _ (phC fs cs).length _ (1 : Int) _ Q LG (by omega) (by omega)).mono ?_
  rintro e w16 ⟨rfl, hw⟩
  subst w16
  go_wp2_with fail
  refine (cToInts fa fc fs _ (hf.below HB) lf).mono ?_
  rintro e w17 ⟨gf2, rfl, Of2, hgf2, hb⟩
  clear hgf2
  replace HB := btrans HB hb
  replace W := own_keep W hb
  replace Q := own_keep Q hb
  clear hb
  go_wp2_with fail
  refine (cToBools ca cc cs _ (hc.below HB) lc).mono ?_
  rintro e w18 ⟨gc2, rfl, Oc2, hgc2, hb⟩
  clear hgc2
  replace HB := btrans HB hb
  replace W := own_keep W hb
  replace Q := own_keep Q hb
  replace Of2 := own_keep Of2 hb
  clear hb
  go_wp2_with fail
  refine (cPhI _ _ _ _ fs cs _ (Ints.of_owns Of2) (Bools.of_owns Oc2) lf).mono ?_
  rintro e w19 ⟨vH, rfl, H, hb⟩
  clear Of2 Oc2
  replace HB := btrans HB hb
  replace W := own_keep W hb
  replace Q := own_keep Q hb
  clear hb
  obtain ⟨Ha, Hc, rfl⟩ := own_form H
  go_wp2_with fail
  refine (cEqIntsn _ _ _ _ _ (phC fs cs) _ rfl H W (by unfold maxLen; omega)).mono ?_
  rintro e w20 ⟨rfl, hb⟩
  replace HB := btrans HB hb
  replace W := own_keep W hb
  replace Q := own_keep Q hb
  replace H := own_keep H hb
  clear hb
  go_wp2_with fail
  refine (cHeldInts _ (phC fs cs).length _ (1 : Int) _ Q LG (by omega) (by omega)).mono ?_
  rintro e w21 ⟨rfl, hw⟩
  subst w21
  go_wp2
  go_ret
  exact ⟨rfl, HB⟩

end Go.Proofs.Ytapnidhokpkmdaa
