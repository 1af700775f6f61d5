/- The walk of the law on Shunted. -/
import Derived.Test.YtfffnekbdegclaaWB
import Derived.Deep.RegionHeld3
namespace Go.Proofs.Ytfffnekbdegclaa
open Go.RowKit
set_option maxRecDepth 20000 in
set_option maxHeartbeats 12800000 in
theorem walkShunted (ea : Option Addr) (ec : Nat) (es : List UV) (za : Option Addr) (zc : Nat) (zs : List Int) (w : World) (he : Us w ea es) (ne : es.length ≤ maxLen) (hz : Ints w za zs) (_ : zs.length ≤ maxLen) :
    Calls Try.prog 11 #[.slice ea es.length ec, .slice za zs.length zc] w fun e w' => e = .returned (.bool true) ∧ Below w.heap.size w w' := by
  have HB := Below.refl w.heap.size w
  by_cases hlz : (1048576 : Int) < zs.length
  · go_enter Try.func11, Try.ntmps11
    go_wp2
    go_ret
    exact ⟨rfl, HB⟩
  have lz : zs.length ≤ 1048576 := by omega
  replace hlz : ¬ (1048576 : Int) < zs.length := hlz
  go_enter Try.func11, Try.ntmps11
  go_wp2_with fail
  refine (cSzUs ea _ ec 1048576 _ (by omega) (by omega) ne).mono ?_
  rintro e w1 ⟨r1, rfl, hr, hw⟩
  subst w1
  rcases hr with rfl | ⟨hr, hr0⟩
  · go_wp2
    go_ret
    exact ⟨rfl, HB⟩
  have le : es.length ≤ 1048576 := by omega
  have hr51 : ¬ r1 < 0 := by omega
  have hr61 : r1 ≤ 1048576 := by omega
  have hr71 := hr0
  clear hr hr0
  go_wp2_with fail
  refine (cToUs ea ec es _ (he.below HB) le).mono ?_
  rintro e w2 ⟨ge0, rfl, Oe0, hge0, hb⟩
  clear hge0
  replace HB := btrans HB hb
  clear hb
  go_wp2_with fail
  refine (cToInts za zc zs _ (hz.below HB) lz).mono ?_
  rintro e w3 ⟨gz0, rfl, Oz0, hgz0, hb⟩
  clear hgz0
  replace HB := btrans HB hb
  replace Oe0 := own_keep Oe0 hb
  clear hb
  go_wp2_with fail
  refine (cShS _ _ _ _ es zs _ (Us.of_owns Oe0) (Ints.of_owns Oz0) (by unfold maxLen; omega) lz).mono ?_
  rintro e w4 ⟨vW0, rfl, W0, hb⟩
  clear Oe0 Oz0
  replace HB := btrans HB hb
  clear hb
  have bW0 := own_blk_lt W0
  obtain ⟨Wa0, Wc0, rfl⟩ := own_form W0
  go_wp2_with fail
  have Se := HB.size
  refine (cToUs ea ec es _ (he.below HB) le).mono ?_
  rintro e w5 ⟨ge1, rfl, Oe1, hge1, hb⟩
  have ye1 := hge1
  replace hge1 := hide hge1
  have xe : ge1 < w5.heap.size := owns_lt Oe1
  have hW0 : ∀ k, (Value.slice Wa0 (shL es zs).length Wc0).ownBlock = some k → k < ge1 := fun k hk => by have := bW0 k hk; omega
  clear ye1
  replace HB := btrans HB hb
  replace W0 := own_keep W0 hb
  clear hb
  go_wp2_with fail
  have Sz := HB.size
  refine (cToInts za zc zs _ (hz.below HB) lz).mono ?_
  rintro e w6 ⟨gz1, rfl, Oz1, hgz1, hb⟩
  have yz1 := hgz1
  replace hgz1 := hide hgz1
  have xz : gz1 < w6.heap.size := owns_lt Oz1
  clear yz1
  replace HB := btrans HB hb
  replace W0 := own_keep W0 hb
  replace Oe1 := own_keep Oe1 hb
  clear hb
  go_wp2_with fail
  refine (cShI _ _ _ _ _ es zs _ (Us.of_owns Oe1) (Ints.of_owns Oz1) (by unfold maxLen; omega) lz).mono ?_
  rintro e w7 ⟨vG0, rfl, G0, hb⟩
  have hG0 : ∀ k, vG0.ownBlock = some k → gz1 < k := fun k hk => by have := own_from G0 (Nat.le_refl _) k hk; omega
  replace HB := btrans HB hb
  replace W0 := own_keep W0 hb
  replace Oe1 := own_keep Oe1 hb
  replace Oz1 := own_keep Oz1 hb
  clear hb
  obtain ⟨Ga0, Gc0, rfl⟩ := own_form G0
  have hLen0 : (shL es zs).length ≤ 1048576 := by have := shL_le es zs; omega
  have hxx : ge1 < gz1 := by have := hgz1.out; omega
  have we1 : w.heap.size ≤ ge1 := by have := hge1.out; omega
  have wz1 : w.heap.size ≤ gz1 := by have := hgz1.out; omega
  go_wp2_with fail
  refine (cEqUs _ _ _ _ (shL es zs) _ (Us.own G0) (Us.own W0) hLen0).mono ?_
  rintro e w8 ⟨rfl, hb⟩
  replace HB := btrans HB hb
  replace W0 := own_keep W0 hb
  replace Oe1 := own_keep Oe1 hb
  replace Oz1 := own_keep Oz1 hb
  replace G0 := own_keep G0 hb
  clear hb
  go_wp2_with fail
  refine (cToUs ea ec es _ (he.below HB) le).mono ?_
  rintro e w9 ⟨g5, rfl, O5, hg5, hb⟩
  clear hg5
  replace HB := btrans HB hb
  replace W0 := own_keep W0 hb
  replace Oe1 := own_keep Oe1 hb
  replace Oz1 := own_keep Oz1 hb
  replace G0 := own_keep G0 hb
  clear hb
  go_wp2_with fail
  refine (cEqUs _ _ _ _ es _ (Us.of_owns Oe1) (Us.of_owns O5) le).mono ?_
  rintro e w10 ⟨rfl, hb⟩
  clear O5
  replace HB := btrans HB hb
  replace W0 := own_keep W0 hb
  replace Oe1 := own_keep Oe1 hb
  replace Oz1 := own_keep Oz1 hb
  replace G0 := own_keep G0 hb
  clear hb
  go_wp2_with fail
  refine (cToInts za zc zs _ (hz.below HB) lz).mono ?_
  rintro e w11 ⟨g5, rfl, O5, hg5, hb⟩
  clear hg5
  replace HB := btrans HB hb
  replace W0 := own_keep W0 hb
  replace Oe1 := own_keep Oe1 hb
  replace Oz1 := own_keep Oz1 hb
  replace G0 := own_keep G0 hb
  clear hb
  go_wp2_with fail
  refine (cEqInts _ _ _ _ zs _ (Ints.of_owns Oz1) (Ints.of_owns O5) (by unfold maxLen; omega)).mono ?_
  rintro e w12 ⟨rfl, hb⟩
  clear O5
  replace HB := btrans HB hb
  replace W0 := own_keep W0 hb
  replace Oe1 := own_keep Oe1 hb
  replace Oz1 := own_keep Oz1 hb
  replace G0 := own_keep G0 hb
  clear hb
  go_wp2_with fail
  refine (cMarkUsg _ ge1 _ es ((1 : Int)) _ Oe1 le (by omega) (by omega)).mono ?_
  rintro e w13 ⟨rfl, -, hg⟩
  clear Oe1
  replace HB := HB.grown hg HB.size (fun j e => by simp at e; omega)
  replace W0 := own_far W0 hg (fun k hk e => by have := hW0 k hk; simp at e; omega)
  replace Oz1 := own_far Oz1 hg (fun k hk e => by simp [Value.ownBlock] at hk; simp at e; omega)
  replace G0 := own_far G0 hg (fun k hk e => by have := hG0 k hk; simp at e; omega)
  clear hg
  go_wp2_with fail
  refine (cMarkInts _ zs.length _ zs ((1 : Int) + 4 * es.length) _ rfl Oz1 lz (by omega) (by omega)).mono ?_
  rintro e w14 ⟨rfl, -, hg⟩
  clear Oz1
  replace HB := HB.grown hg HB.size (fun j e => by simp [Value.ownBlock] at e; omega)
  replace W0 := own_far W0 hg (fun k hk e => by have := hW0 k hk; simp [Value.ownBlock] at e; omega)
  replace G0 := own_far G0 hg (fun k hk e => by have := hG0 k hk; simp [Value.ownBlock] at e; omega)
  clear hg
  have hk9 : ¬ ((1 : Int) + 4 * es.length + zs.length < 0) := by omega
  go_wp2_with fail
  refine (cEqUs _ _ _ _ (shL es zs) _ (Us.own G0) (Us.own W0) hLen0).mono ?_
  rintro e w15 ⟨rfl, hb⟩
  replace HB := btrans HB hb
  replace W0 := own_keep W0 hb
  replace G0 := own_keep G0 hb
  clear hb
  go_wp2_with fail
  have MB := own_blk_lt G0
  refine (cMarkUs _ (shL es zs).length _ (shL es zs) ((1 : Int)) _ (.inl G0) hLen0 (by omega) (by omega)).mono ?_
  rintro e w16 ⟨rfl, Q0, rr, hg, hrr⟩
  clear MB
  clear G0
  replace HB := HB.grown hg HB.size (fun j e => by have := hG0 j (hrr j e).2; omega)
  replace W0 := own_far W0 hg (fun k hk e => by have h1 := hW0 k hk; have h2 := hG0 k (hrr k e.symm).2; omega)
  clear hg hrr rr
  have hqq0 : ¬ ((((1 : Int) + 4 * (shL es zs).length) : Int) < 0) := by omega
  go_wp2_with fail
  refine (cHeldUs _ (shL es zs).length _ ((1 : Int)) _ Q0 hLen0 (by omega) (by omega)).mono ?_
  rintro e w17 ⟨rfl, hw⟩
  subst w17
  go_wp2_with fail
  refine (cToUs ea ec es _ (he.below HB) le).mono ?_
  rintro e w18 ⟨ge2, rfl, Oe2, hge2, hb⟩
  clear hge2
  replace Q0 := Q0.keep hb
  replace HB := btrans HB hb
  replace W0 := own_keep W0 hb
  clear hb
  go_wp2_with fail
  refine (cToInts za zc zs _ (hz.below HB) lz).mono ?_
  rintro e w19 ⟨gz2, rfl, Oz2, hgz2, hb⟩
  clear hgz2
  replace Q0 := Q0.keep hb
  replace HB := btrans HB hb
  replace W0 := own_keep W0 hb
  replace Oe2 := own_keep Oe2 hb
  clear hb
  go_wp2_with fail
  refine (cShI _ _ _ _ _ es zs _ (Us.of_owns Oe2) (Ints.of_owns Oz2) (by unfold maxLen; omega) lz).mono ?_
  rintro e w20 ⟨vH0, rfl, H0, hb⟩
  clear Oe2 Oz2
  replace Q0 := Q0.keep hb
  replace HB := btrans HB hb
  replace W0 := own_keep W0 hb
  clear hb
  obtain ⟨Ha0, Hc0, rfl⟩ := own_form H0
  go_wp2_with fail
  refine (cEqUs _ _ _ _ (shL es zs) _ (Us.own H0) (Us.own W0) hLen0).mono ?_
  rintro e w21 ⟨rfl, hb⟩
  replace Q0 := Q0.keep hb
  replace HB := btrans HB hb
  replace W0 := own_keep W0 hb
  replace H0 := own_keep H0 hb
  clear hb
  go_wp2_with fail
  refine (cHeldUs _ (shL es zs).length _ ((1 : Int)) _ Q0 hLen0 (by omega) (by omega)).mono ?_
  rintro e w22 ⟨rfl, hw⟩
  subst w22
  go_wp2
  go_ret
  exact ⟨rfl, HB⟩

end Go.Proofs.Ytfffnekbdegclaa
