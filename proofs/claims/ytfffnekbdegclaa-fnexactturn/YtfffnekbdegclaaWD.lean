/- The walk of the law on Turn. -/
import Derived.Test.YtfffnekbdegclaaWB
import Derived.Deep.RegionHeld3
namespace Go.Proofs.Ytfffnekbdegclaa
open Go.RowKit
set_option maxRecDepth 20000 in
set_option maxHeartbeats 12800000 in
theorem walkTurn (ea : Option Addr) (ec : Nat) (es : List UV) (w : World) (he : Us w ea es) (ne : es.length ≤ maxLen) :
    Calls Try.prog 10 #[.slice ea es.length ec] w fun e w' => e = .returned (.bool true) ∧ Below w.heap.size w w' := by
  have HB := Below.refl w.heap.size w
  go_enter Try.func10, Try.ntmps10
  go_wp2_with fail
  refine (cSzUs ea _ ec 1048576 _ (by omega) (by omega) ne).mono ?_
  rintro e w1 ⟨r1, rfl, hr, hw⟩
  subst w1
  rcases hr with rfl | ⟨hr, hr0⟩
  · go_wp2
    go_ret
    exact ⟨rfl, HB⟩
  have le : es.length ≤ 1048576 := by omega
  have hr51 : ¬ r1 < 0 := by omega
  have hr61 : r1 ≤ 1048576 := by omega
  have hr71 := hr0
  clear hr hr0
  go_wp2_with fail
  refine (cToUs ea ec es _ (he.below HB) le).mono ?_
  rintro e w2 ⟨ge0, rfl, Oe0, hge0, hb⟩
  clear hge0
  replace HB := btrans HB hb
  clear hb
  go_wp2_with fail
  refine (cTurnS _ _ es _ (Us.of_owns Oe0) (by unfold maxLen; omega)).mono ?_
  rintro e w3 ⟨vW0, rfl, W0, hb⟩
  clear Oe0
  replace HB := btrans HB hb
  clear hb
  have bW0 := own_blk_lt W0
  obtain ⟨Wa0, Wc0, rfl⟩ := own_form W0
  go_wp2_with fail
  have Se := HB.size
  refine (cToUs ea ec es _ (he.below HB) le).mono ?_
  rintro e w4 ⟨ge1, rfl, Oe1, hge1, hb⟩
  have ye1 := hge1
  replace hge1 := hide hge1
  have xe : ge1 < w4.heap.size := owns_lt Oe1
  have hW0 : ∀ k, (Value.slice Wa0 (turnL es).length Wc0).ownBlock = some k → k < ge1 := fun k hk => by have := bW0 k hk; omega
  clear ye1
  replace HB := btrans HB hb
  replace W0 := own_keep W0 hb
  clear hb
  go_wp2_with fail
  refine (cTurnI _ _ es _ (Us.of_owns Oe1) (by unfold maxLen; omega)).mono ?_
  rintro e w5 ⟨vG0, rfl, G0, hb⟩
  have hG0 : ∀ k, vG0.ownBlock = some k → ge1 < k := fun k hk => by have := own_from G0 (Nat.le_refl _) k hk; omega
  replace HB := btrans HB hb
  replace W0 := own_keep W0 hb
  replace Oe1 := own_keep Oe1 hb
  clear hb
  obtain ⟨Ga0, Gc0, rfl⟩ := own_form G0
  have hLen0 : (turnL es).length ≤ 1048576 := by have := turnL_le es; omega
  have we1 : w.heap.size ≤ ge1 := by have := hge1.out; omega
  go_wp2_with fail
  refine (cEqUs _ _ _ _ (turnL es) _ (Us.own G0) (Us.own W0) hLen0).mono ?_
  rintro e w6 ⟨rfl, hb⟩
  replace HB := btrans HB hb
  replace W0 := own_keep W0 hb
  replace Oe1 := own_keep Oe1 hb
  replace G0 := own_keep G0 hb
  clear hb
  go_wp2_with fail
  refine (cToUs ea ec es _ (he.below HB) le).mono ?_
  rintro e w7 ⟨g5, rfl, O5, hg5, hb⟩
  clear hg5
  replace HB := btrans HB hb
  replace W0 := own_keep W0 hb
  replace Oe1 := own_keep Oe1 hb
  replace G0 := own_keep G0 hb
  clear hb
  go_wp2_with fail
  refine (cEqUs _ _ _ _ es _ (Us.of_owns Oe1) (Us.of_owns O5) le).mono ?_
  rintro e w8 ⟨rfl, hb⟩
  clear O5
  replace HB := btrans HB hb
  replace W0 := own_keep W0 hb
  replace Oe1 := own_keep Oe1 hb
  replace G0 := own_keep G0 hb
  clear hb
  go_wp2_with fail
  refine (cMarkUsg _ ge1 _ es ((1 : Int)) _ Oe1 le (by omega) (by omega)).mono ?_
  rintro e w9 ⟨rfl, -, hg⟩
  clear Oe1
  replace HB := HB.grown hg HB.size (fun j e => by simp at e; omega)
  replace W0 := own_far W0 hg (fun k hk e => by have := hW0 k hk; simp at e; omega)
  replace G0 := own_far G0 hg (fun k hk e => by have := hG0 k hk; simp at e; omega)
  clear hg
  have hk9 : ¬ ((1 : Int) + 4 * es.length < 0) := by omega
  go_wp2_with fail
  refine (cEqUs _ _ _ _ (turnL es) _ (Us.own G0) (Us.own W0) hLen0).mono ?_
  rintro e w10 ⟨rfl, hb⟩
  replace HB := btrans HB hb
  replace W0 := own_keep W0 hb
  replace G0 := own_keep G0 hb
  clear hb
  go_wp2_with fail
  have MB := own_blk_lt G0
  refine (cMarkUs _ (turnL es).length _ (turnL es) ((1 : Int)) _ (.inl G0) hLen0 (by omega) (by omega)).mono ?_
  rintro e w11 ⟨rfl, Q0, rr, hg, hrr⟩
  clear MB
  clear G0
  replace HB := HB.grown hg HB.size (fun j e => by have := hG0 j (hrr j e).2; omega)
  replace W0 := own_far W0 hg (fun k hk e => by have h1 := hW0 k hk; have h2 := hG0 k (hrr k e.symm).2; omega)
  clear hg hrr rr
  have hqq0 : ¬ ((((1 : Int) + 4 * (turnL es).length) : Int) < 0) := by omega
  go_wp2_with fail
  refine (cHeldUs _ (turnL es).length _ ((1 : Int)) _ Q0 hLen0 (by omega) (by omega)).mono ?_
  rintro e w12 ⟨rfl, hw⟩
  subst w12
  go_wp2_with fail
  refine (cToUs ea ec es _ (he.below HB) le).mono ?_
  rintro e w13 ⟨ge2, rfl, Oe2, hge2, hb⟩
  clear hge2
  replace Q0 := Q0.keep hb
  replace HB := btrans HB hb
  replace W0 := own_keep W0 hb
  clear hb
  go_wp2_with fail
  refine (cTurnI _ _ es _ (Us.of_owns Oe2) (by unfold maxLen; omega)).mono ?_
  rintro e w14 ⟨vH0, rfl, H0, hb⟩
  clear Oe2
  replace Q0 := Q0.keep hb
  replace HB := btrans HB hb
  replace W0 := own_keep W0 hb
  clear hb
  obtain ⟨Ha0, Hc0, rfl⟩ := own_form H0
  go_wp2_with fail
  refine (cEqUs _ _ _ _ (turnL es) _ (Us.own H0) (Us.own W0) hLen0).mono ?_
  rintro e w15 ⟨rfl, hb⟩
  replace Q0 := Q0.keep hb
  replace HB := btrans HB hb
  replace W0 := own_keep W0 hb
  replace H0 := own_keep H0 hb
  clear hb
  go_wp2_with fail
  refine (cHeldUs _ (turnL es).length _ ((1 : Int)) _ Q0 hLen0 (by omega) (by omega)).mono ?_
  rintro e w16 ⟨rfl, hw⟩
  subst w16
  go_wp2
  go_ret
  exact ⟨rfl, HB⟩

end Go.Proofs.Ytfffnekbdegclaa
