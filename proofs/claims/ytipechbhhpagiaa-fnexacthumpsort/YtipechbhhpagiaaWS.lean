/- The walk of the law on the sort. -/
import Derived.Test.YtipechbhhpagiaaSH
import Derived.Deep.RegionHeld3
namespace Go.Proofs.Ytipechbhhpagiaa
open Go.RowKit
set_option maxRecDepth 20000 in
set_option maxHeartbeats 12800000 in
theorem walkHumpSort (za : Option Addr) (zc : Nat) (zs : List Int) (x : Int) (w : World) (hz : Ints w za zs) (_ : zs.length ≤ maxLen) :
    Calls Try.prog 10 #[.slice za zs.length zc, .int .i64 x] w fun e w' => e = .returned (.bool true) ∧ Below w.heap.size w w' := by
  have HB := Below.refl w.heap.size w
  by_cases hlz : (1048576 : Int) < zs.length
  · go_enter Try.func10, Try.ntmps10
    go_wp2
    go_ret
    exact ⟨rfl, HB⟩
  have lz : zs.length ≤ 1048576 := by omega
  replace hlz : ¬ (1048576 : Int) < zs.length := hlz
  go_enter Try.func10, Try.ntmps10
  go_wp2_with fail
  refine (cToInts za zc zs _ (hz.below HB) lz).mono ?_
  rintro e w1 ⟨gz0, rfl, Oz0, hgz0, hb⟩
  clear hgz0
  replace HB := btrans HB hb
  clear hb
  go_wp2_with fail
  refine (cSortS _ _ zs x _ (Ints.of_owns Oz0) lz).mono ?_
  rintro e w2 ⟨vW0, zsW, nW, rfl, hzW, W0, hb⟩
  clear Oz0
  replace HB := btrans HB hb
  clear hb
  have bW0 := own_blk_lt W0
  obtain ⟨Wa0, Wc0, rfl⟩ := own_form W0
  go_wp2_with fail
  have Sz := HB.size
  refine (cToInts za zc zs _ (hz.below HB) lz).mono ?_
  rintro e w3 ⟨gz1, rfl, Oz1, hgz1, hb⟩
  have yz1 := hgz1
  replace hgz1 := hide hgz1
  have xz : gz1 < w3.heap.size := owns_lt Oz1
  have hW0 : ∀ k, (Value.slice Wa0 zsW.length Wc0).ownBlock = some k → k < gz1 := fun k hk => by have := bW0 k hk; omega
  clear yz1
  replace HB := btrans HB hb
  replace W0 := own_keep W0 hb
  clear hb
  go_wp2_with fail
  refine (cSortI _ _ zs x _ (Ints.of_owns Oz1) (fun h => by cases h) lz).mono ?_
  rintro e w4 ⟨vG0, zsG, nG, rfl, hzG, G0, hb⟩
  obtain ⟨hzE, hnE⟩ := hzG.uniq hzW
  subst zsG
  subst nG
  clear hzG
  have hG0 : ∀ k, vG0.ownBlock = some k → gz1 < k := fun k hk => by have := own_from G0 (Nat.le_refl _) k hk; omega
  replace HB := btrans HB hb
  replace W0 := own_keep W0 hb
  replace Oz1 := own_keep Oz1 hb
  clear hb
  obtain ⟨Ga0, Gc0, rfl⟩ := own_form G0
  have hLen0 : zsW.length ≤ 1048576 := by have := hzW.len; omega
  have wz1 : w.heap.size ≤ gz1 := by have := hgz1.out; omega
  go_wp2_with fail
  refine (cEqInts _ _ _ _ zsW _ (Ints.own G0 rfl) (Ints.own W0 rfl) (by unfold maxLen; omega)).mono ?_
  rintro e w5 ⟨rfl, hb⟩
  replace HB := btrans HB hb
  replace W0 := own_keep W0 hb
  replace Oz1 := own_keep Oz1 hb
  replace G0 := own_keep G0 hb
  clear hb
  go_wp2_with fail
  refine (cToInts za zc zs _ (hz.below HB) lz).mono ?_
  rintro e w6 ⟨g5, rfl, O5, hg5, hb⟩
  clear hg5
  replace HB := btrans HB hb
  replace W0 := own_keep W0 hb
  replace Oz1 := own_keep Oz1 hb
  replace G0 := own_keep G0 hb
  clear hb
  go_wp2_with fail
  refine (cEqInts _ _ _ _ zs _ (Ints.of_owns Oz1) (Ints.of_owns O5) (by unfold maxLen; omega)).mono ?_
  rintro e w7 ⟨rfl, hb⟩
  clear O5
  replace HB := btrans HB hb
  replace W0 := own_keep W0 hb
  replace Oz1 := own_keep Oz1 hb
  replace G0 := own_keep G0 hb
  clear hb
  go_wp2_with fail
  refine (cMarkInts _ zs.length _ zs ((1 : Int)) _ rfl Oz1 lz (by omega) (by omega)).mono ?_
  rintro e w8 ⟨rfl, -, hg⟩
  clear Oz1
  replace HB := HB.grown hg HB.size (fun j e => by simp [Value.ownBlock] at e; omega)
  replace W0 := own_far W0 hg (fun k hk e => by have := hW0 k hk; simp [Value.ownBlock] at e; omega)
  replace G0 := own_far G0 hg (fun k hk e => by have := hG0 k hk; simp [Value.ownBlock] at e; omega)
  clear hg
  have hk9 : ¬ ((1 : Int) + zs.length < 0) := by omega
  go_wp2_with fail
  refine (cEqInts _ _ _ _ zsW _ (Ints.own G0 rfl) (Ints.own W0 rfl) (by unfold maxLen; omega)).mono ?_
  rintro e w9 ⟨rfl, hb⟩
  replace HB := btrans HB hb
  replace W0 := own_keep W0 hb
  replace G0 := own_keep G0 hb
  clear hb
  go_wp2_with fail
  have MB := own_blk_lt G0
  refine (cMarkInts _ zsW.length _ zsW ((1 : Int)) _ rfl G0 hLen0 (by omega) (by omega)).mono ?_
  rintro e w10 ⟨rfl, Q0, hg⟩
  have hrr : ∀ j, (Value.slice Ga0 zsW.length Gc0).ownBlock = some j → True ∧ (Value.slice Ga0 zsW.length Gc0).ownBlock = some j := fun j e => ⟨trivial, e⟩
  clear MB
  clear G0
  replace HB := HB.grown hg HB.size (fun j e => by have := hG0 j (hrr j e).2; omega)
  replace W0 := own_far W0 hg (fun k hk e => by have h1 := hW0 k hk; have h2 := hG0 k (hrr k e.symm).2; omega)
  clear hg hrr
  have hqq0 : ¬ ((((1 : Int) + zsW.length) : Int) < 0) := by omega
  go_wp2_with fail
  refine (cHeldInts _ zsW.length _ ((1 : Int)) _ Q0 hLen0 (by omega) (by omega)).mono ?_
  rintro e w11 ⟨rfl, hw⟩
  subst w11
  go_wp2_with fail
  refine (cToInts za zc zs _ (hz.below HB) lz).mono ?_
  rintro e w12 ⟨gz2, rfl, Oz2, hgz2, hb⟩
  clear hgz2
  replace Q0 := own_keep Q0 hb
  replace HB := btrans HB hb
  replace W0 := own_keep W0 hb
  clear hb
  go_wp2_with fail
  refine (cSortI _ _ zs x _ (Ints.of_owns Oz2) (fun h => by cases h) lz).mono ?_
  rintro e w13 ⟨vH0, zsH, nH, rfl, hzH, H0, hb⟩
  obtain ⟨hzE, hnE⟩ := hzH.uniq hzW
  subst zsH
  subst nH
  clear hzH
  clear Oz2
  replace Q0 := own_keep Q0 hb
  replace HB := btrans HB hb
  replace W0 := own_keep W0 hb
  clear hb
  obtain ⟨Ha0, Hc0, rfl⟩ := own_form H0
  go_wp2_with fail
  refine (cEqInts _ _ _ _ zsW _ (Ints.own H0 rfl) (Ints.own W0 rfl) (by unfold maxLen; omega)).mono ?_
  rintro e w14 ⟨rfl, hb⟩
  replace Q0 := own_keep Q0 hb
  replace HB := btrans HB hb
  replace W0 := own_keep W0 hb
  replace H0 := own_keep H0 hb
  clear hb
  go_wp2_with fail
  refine (cHeldInts _ zsW.length _ ((1 : Int)) _ Q0 hLen0 (by omega) (by omega)).mono ?_
  rintro e w15 ⟨rfl, hw⟩
  subst w15
  go_wp2
  go_ret
  exact ⟨rfl, HB⟩

end Go.Proofs.Ytipechbhhpagiaa
