/- The law of Sums. -/
import Derived.Test.YtapnidhokpkmdaaZF
namespace Go.Proofs.Ytapnidhokpkmdaa
open Go.RowKit Fl
theorem sumsC_le (l : List C2) : (sumsC l).length ≤ 40 := by
  unfold sumsC
  split
  · simp
  · simp; omega
set_option maxRecDepth 20000 in
set_option maxHeartbeats 12800000 in
theorem walkSums (da : Option Addr) (dc : Nat) (ds : List ZV) (w : World) (hd : Zs w da ds) (nd : ds.length ≤ maxLen) :
    Calls Try.prog 10 #[.slice da ds.length dc] w fun e w' => e = .returned (.bool true) ∧ Below w.heap.size w w' := by
  have HB := Below.refl w.heap.size w
  go_enter Try.func10, Try.ntmps10
  go_wp2_with fail
  refine (cSzZs da _ dc 1048576 _ (by omega) (by omega) nd).mono ?_
  rintro e w1 ⟨r1, rfl, hr, hw⟩
  subst w1
  rcases hr with rfl | ⟨hr, hr0⟩
  · go_wp2
    go_ret
    exact ⟨rfl, HB⟩
  have ld : ds.length ≤ 1048576 := by omega
  have hr51 : ¬ r1 < 0 := by omega
  have hr61 : r1 ≤ 1048576 := by omega
  have hr71 := hr0
  clear hr hr0
  go_wp2_with fail
  refine (cToZs da dc ds _ (hd.below HB) ld).mono ?_
  rintro e w2 ⟨gd0, rfl, Od0, hgd0, hb⟩
  clear hgd0
  replace HB := btrans HB hb
  clear hb
  go_wp2_with fail
  refine (cSumsS _ _ ds _ (Zs.of_owns Od0) (by unfold maxLen; omega)).mono ?_
  rintro e w3 ⟨vW, Ws, rfl, W, hW, hb⟩
  clear Od0
  replace HB := btrans HB hb
  clear hb
  have bW := own_blk_lt W
  obtain ⟨Wa, Wc, rfl⟩ := own_form W
  go_wp2_with fail
  refine (cToZs da dc ds _ (hd.below HB) ld).mono ?_
  rintro e w4 ⟨gd1, rfl, Od1, hgd1, hb⟩
  have yd1 := hgd1
  replace hgd1 := hide hgd1
  have xd : gd1 < w4.heap.size := owns_lt Od1
  have qW : ∀ k, (Value.slice Wa Ws.length Wc).ownBlock = some k → k < gd1 := fun k hk => by have := bW k hk; omega
  have ud1 : w.heap.size ≤ gd1 := by have := HB.size; omega
  clear yd1
  replace HB := btrans HB hb
  replace W := own_keep W hb
  clear hb
  go_wp2_with fail
  refine (cSumsI _ _ ds _ (Zs.of_owns Od1) (by unfold maxLen; omega)).mono ?_
  rintro e w5 ⟨vG, Gs, rfl, G, hG, hb⟩
  have qG : ∀ k, vG.ownBlock = some k → gd1 < k := fun k hk => by have := own_from G (Nat.le_refl _) k hk; omega
  replace HB := btrans HB hb
  replace W := own_keep W hb
  replace Od1 := own_keep Od1 hb
  clear hb
  obtain ⟨Ga, Gc, rfl⟩ := own_form G
  have LW : Ws.length ≤ 1048576 := by have := sumsC_le (cs ds); have h8 := congrArg List.length hW; rw [cs_len] at h8; omega
  have LG : Gs.length ≤ 1048576 := by have := sumsC_le (cs ds); have h8 := congrArg List.length hG; rw [cs_len] at h8; omega
  go_wp2_with fail
  refine (cEqZs _ _ _ _ Gs Ws _ (Zs.own G) (Zs.own W) LG (hG.trans hW.symm)).mono ?_
  rintro e w6 ⟨rfl, hb⟩
  replace HB := btrans HB hb
  replace W := own_keep W hb
  replace Od1 := own_keep Od1 hb
  replace G := own_keep G hb
  clear hb
  go_wp2_with fail
  refine (cToZs da dc ds _ (hd.below HB) ld).mono ?_
  rintro e w7 ⟨g5, rfl, O5, hg5, hb⟩
  clear hg5
  replace HB := btrans HB hb
  replace W := own_keep W hb
  replace Od1 := own_keep Od1 hb
  replace G := own_keep G hb
  clear hb
  go_wp2_with fail
  refine (cEqZs _ _ _ _ ds ds _ (Zs.of_owns Od1) (Zs.of_owns O5) ld rfl).mono ?_
  rintro e w8 ⟨rfl, hb⟩
  clear O5
  replace HB := btrans HB hb
  replace W := own_keep W hb
  replace Od1 := own_keep Od1 hb
  replace G := own_keep G hb
  clear hb
  go_wp2_with fail
  refine (cMarkZsg _ gd1 _ ds ((1 : Int)) _ Od1 ld (by omega) (by omega)).mono ?_
  rintro e w9 ⟨rfl, -, hg⟩
  clear Od1
  replace HB := HB.grown hg HB.size (fun j e => by simp at e; omega)
  replace W := own_far W hg (fun k hk e => by have := qW k hk; simp at e; omega)
  replace G := own_far G hg (fun k hk e => by have := qG k hk; simp at e; omega)
  clear hg
  have hk9 : ¬ ((1 : Int) + 2 * ds.length < 0) := by omega
  go_wp2_with fail
  refine (cEqZs _ _ _ _ Gs Ws _ (Zs.own G) (Zs.own W) LG (hG.trans hW.symm)).mono ?_
  rintro e w10 ⟨rfl, hb⟩
  replace HB := btrans HB hb
  replace W := own_keep W hb
  replace G := own_keep G hb
  clear hb
  go_wp2_with fail
  refine (cMarkZs _ Gs.length _ Gs (1 : Int) _ (.inl G) LG (by omega) (by omega)).mono ?_
  rintro e w11 ⟨rfl, Q, rr, hg, hrr⟩
  clear G
  replace HB := HB.grown hg HB.size (fun j e => by have := qG j (hrr j e).2; omega)
  replace W := own_far W hg (fun k hk e => by have h1 := qW k hk; have h2 := qG k (hrr k e.symm).2; omega)
  clear hg hrr rr
  have hqq : ¬ ((1 : Int) + 2 * Gs.length < 0) := by omega
  go_wp2_with fail
  refine (cHeldZs _ Gs.length _ (1 : Int) _ Q LG (by omega) (by omega)).mono ?_
  rintro e w12 ⟨rfl, hw⟩
  subst w12
  go_wp2_with fail
  refine (cToZs da dc ds _ (hd.below HB) ld).mono ?_
  rintro e w13 ⟨gd2, rfl, Od2, hgd2, hb⟩
  clear hgd2
  replace HB := btrans HB hb
  replace W := own_keep W hb
  replace Q := Q.keep hb
  clear hb
  go_wp2_with fail
  refine (cSumsI _ _ ds _ (Zs.of_owns Od2) (by unfold maxLen; omega)).mono ?_
  rintro e w14 ⟨vH, Hs, rfl, H, hH, hb⟩
  clear Od2
  replace HB := btrans HB hb
  replace W := own_keep W hb
  replace Q := Q.keep hb
  clear hb
  obtain ⟨Ha, Hc, rfl⟩ := own_form H
  have LH : Hs.length ≤ 1048576 := by have := sumsC_le (cs ds); have h8 := congrArg List.length hH; rw [cs_len] at h8; omega
  go_wp2_with fail
  refine (cEqZs _ _ _ _ Hs Ws _ (Zs.own H) (Zs.own W) LH (hH.trans hW.symm)).mono ?_
  rintro e w15 ⟨rfl, hb⟩
  replace HB := btrans HB hb
  replace W := own_keep W hb
  replace H := own_keep H hb
  replace Q := Q.keep hb
  clear hb
  go_wp2_with fail
  refine (cHeldZs _ Gs.length _ (1 : Int) _ Q LG (by omega) (by omega)).mono ?_
  rintro e w16 ⟨rfl, hw⟩
  subst w16
  go_wp2
  go_ret
  exact ⟨rfl, HB⟩

end Go.Proofs.Ytapnidhokpkmdaa
