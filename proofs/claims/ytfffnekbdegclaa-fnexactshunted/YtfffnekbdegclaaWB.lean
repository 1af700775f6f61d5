/- The walks of the laws on what is coupled, parted, turned and shunted. -/
import Derived.Test.YtfffnekbdegclaaCL
import Derived.Deep.RegionHeld3
namespace Go.Proofs.Ytfffnekbdegclaa
open Go.RowKit
theorem formL_le {l : List UV} (h : formB l = true) : l.length ≤ 30 := (formB_iff.1 h).1
theorem turnL_le (l : List UV) : (turnL l).length ≤ 30 := by
  unfold turnL; split
  · rw [turned_len]; exact formL_le (by assumption)
  · simp
theorem coupL_le (a b : List UV) : (coupL a b).length ≤ 30 := by
  unfold coupL; split
  · rename_i h; simp only [coupB, Bool.and_eq_true] at h; exact run_len h.2
  · simp
theorem headL_le (l : List UV) (k : Int) : (headL l k).length ≤ 30 := by
  unfold headL; split
  · rename_i h; simp only [partB, Bool.and_eq_true] at h; have := formL_le h.1; rw [List.length_take]; omega
  · simp
theorem restL_le (l : List UV) (k : Int) : (restL l k).length ≤ 30 := by
  unfold restL; split
  · rename_i h; simp only [partB, Bool.and_eq_true] at h; have := formL_le h.1; rw [List.length_drop]; omega
  · simp
theorem shL_le (l : List UV) (cs : List Int) : (shL l cs).length ≤ 30 := by
  unfold shL; split
  · rename_i h; simp only [shB, Bool.and_eq_true] at h; rw [shTo_len]; exact formL_le h.1.1
  · simp
theorem rw_far {w w' : World} {B e sz n : Nat} {v : Value} {xs : List Value} {r : Option Nat} (h : Rw w B e sz v n xs) (hg : w.grownBy w' r) (hne : ∀ k, v.ownBlock = some k → some k ≠ r) : Rw w' B e sz v n xs := by
  rcases h with h | h
  · exact .inl (own_far h hg hne)
  · exact .inr h

set_option maxRecDepth 20000 in
set_option maxHeartbeats 12800000 in
theorem walkCouple (ea : Option Addr) (ec : Nat) (es : List UV) (fa : Option Addr) (fc : Nat) (fs : List UV) (w : World) (he : Us w ea es) (ne : es.length ≤ maxLen) (hf : Us w fa fs) (nf : fs.length ≤ maxLen) :
    Calls Try.prog 8 #[.slice ea es.length ec, .slice fa fs.length fc] w fun e w' => e = .returned (.bool true) ∧ Below w.heap.size w w' := by
  have HB := Below.refl w.heap.size w
  go_enter Try.func8, Try.ntmps8
  go_wp2_with fail
  refine (cSzUs ea _ ec 1048576 _ (by omega) (by omega) ne).mono ?_
  rintro e w1 ⟨r1, rfl, hr, hw⟩
  subst w1
  rcases hr with rfl | ⟨hr, hr0⟩
  · go_wp2
    go_ret
    exact ⟨rfl, HB⟩
  have le : es.length ≤ 1048576 := by omega
  have hr51 : ¬ r1 < 0 := by omega
  have hr61 : r1 ≤ 1048576 := by omega
  have hr71 := hr0
  clear hr hr0
  go_wp2_with fail
  refine (cSzUs fa _ fc r1 _ hr71 hr61 nf).mono ?_
  rintro e w2 ⟨r2, rfl, hr, hw⟩
  subst w2
  rcases hr with rfl | ⟨hr, hr0⟩
  · go_wp2
    go_ret
    exact ⟨rfl, HB⟩
  have lf : fs.length ≤ 1048576 := by omega
  have hr52 : ¬ r2 < 0 := by omega
  have hr62 : r2 ≤ 1048576 := by omega
  have hr72 := hr0
  clear hr hr0
  go_wp2_with fail
  refine (cToUs ea ec es _ (he.below HB) le).mono ?_
  rintro e w3 ⟨ge0, rfl, Oe0, hge0, hb⟩
  clear hge0
  replace HB := btrans HB hb
  clear hb
  go_wp2_with fail
  refine (cToUs fa fc fs _ (hf.below HB) lf).mono ?_
  rintro e w4 ⟨gf0, rfl, Of0, hgf0, hb⟩
  clear hgf0
  replace HB := btrans HB hb
  replace Oe0 := own_keep Oe0 hb
  clear hb
  go_wp2_with fail
  refine (cCoupS _ _ _ _ es fs _ (Us.of_owns Oe0) (Us.of_owns Of0) le lf).mono ?_
  rintro e w5 ⟨vW0, rfl, W0, hb⟩
  clear Oe0 Of0
  replace HB := btrans HB hb
  clear hb
  have bW0 := own_blk_lt W0
  obtain ⟨Wa0, Wc0, rfl⟩ := own_form W0
  go_wp2_with fail
  have Se := HB.size
  refine (cToUs ea ec es _ (he.below HB) le).mono ?_
  rintro e w6 ⟨ge1, rfl, Oe1, hge1, hb⟩
  have ye1 := hge1
  replace hge1 := hide hge1
  have xe : ge1 < w6.heap.size := owns_lt Oe1
  have hW0 : ∀ k, (Value.slice Wa0 (coupL es fs).length Wc0).ownBlock = some k → k < ge1 := fun k hk => by have := bW0 k hk; omega
  clear ye1
  replace HB := btrans HB hb
  replace W0 := own_keep W0 hb
  clear hb
  go_wp2_with fail
  have Sf := HB.size
  refine (cToUs fa fc fs _ (hf.below HB) lf).mono ?_
  rintro e w7 ⟨gf1, rfl, Of1, hgf1, hb⟩
  have yf1 := hgf1
  replace hgf1 := hide hgf1
  have xf : gf1 < w7.heap.size := owns_lt Of1
  clear yf1
  replace HB := btrans HB hb
  replace W0 := own_keep W0 hb
  replace Oe1 := own_keep Oe1 hb
  clear hb
  go_wp2_with fail
  refine (cCoupI _ _ _ _ es fs _ (Us.of_owns Oe1) (Us.of_owns Of1) (Nat.le_refl _) (by unfold maxLen; omega) (Nat.le_refl _) (by unfold maxLen; omega)).mono ?_
  rintro e w8 ⟨vG0, rfl, G0, hb⟩
  have hG0 : ∀ k, vG0.ownBlock = some k → gf1 < k := fun k hk => by have := own_from G0 (Nat.le_refl _) k hk; omega
  replace HB := btrans HB hb
  replace W0 := own_keep W0 hb
  replace Oe1 := own_keep Oe1 hb
  replace Of1 := own_keep Of1 hb
  clear hb
  obtain ⟨Ga0, Gc0, rfl⟩ := own_form G0
  have hLen0 : (coupL es fs).length ≤ 1048576 := by have := coupL_le es fs; omega
  have hxx : ge1 < gf1 := by have := hgf1.out; omega
  have we1 : w.heap.size ≤ ge1 := by have := hge1.out; omega
  have wf1 : w.heap.size ≤ gf1 := by have := hgf1.out; omega
  go_wp2_with fail
  refine (cEqUs _ _ _ _ (coupL es fs) _ (Us.own G0) (Us.own W0) hLen0).mono ?_
  rintro e w9 ⟨rfl, hb⟩
  replace HB := btrans HB hb
  replace W0 := own_keep W0 hb
  replace Oe1 := own_keep Oe1 hb
  replace Of1 := own_keep Of1 hb
  replace G0 := own_keep G0 hb
  clear hb
  go_wp2_with fail
  refine (cToUs ea ec es _ (he.below HB) le).mono ?_
  rintro e w10 ⟨g5, rfl, O5, hg5, hb⟩
  clear hg5
  replace HB := btrans HB hb
  replace W0 := own_keep W0 hb
  replace Oe1 := own_keep Oe1 hb
  replace Of1 := own_keep Of1 hb
  replace G0 := own_keep G0 hb
  clear hb
  go_wp2_with fail
  refine (cEqUs _ _ _ _ es _ (Us.of_owns Oe1) (Us.of_owns O5) le).mono ?_
  rintro e w11 ⟨rfl, hb⟩
  clear O5
  replace HB := btrans HB hb
  replace W0 := own_keep W0 hb
  replace Oe1 := own_keep Oe1 hb
  replace Of1 := own_keep Of1 hb
  replace G0 := own_keep G0 hb
  clear hb
  go_wp2_with fail
  refine (cToUs fa fc fs _ (hf.below HB) lf).mono ?_
  rintro e w12 ⟨g5, rfl, O5, hg5, hb⟩
  clear hg5
  replace HB := btrans HB hb
  replace W0 := own_keep W0 hb
  replace Oe1 := own_keep Oe1 hb
  replace Of1 := own_keep Of1 hb
  replace G0 := own_keep G0 hb
  clear hb
  go_wp2_with fail
  refine (cEqUs _ _ _ _ fs _ (Us.of_owns Of1) (Us.of_owns O5) lf).mono ?_
  rintro e w13 ⟨rfl, hb⟩
  clear O5
  replace HB := btrans HB hb
  replace W0 := own_keep W0 hb
  replace Oe1 := own_keep Oe1 hb
  replace Of1 := own_keep Of1 hb
  replace G0 := own_keep G0 hb
  clear hb
  go_wp2_with fail
  refine (cMarkUsg _ ge1 _ es ((1 : Int)) _ Oe1 le (by omega) (by omega)).mono ?_
  rintro e w14 ⟨rfl, -, hg⟩
  clear Oe1
  replace HB := HB.grown hg HB.size (fun j e => by simp at e; omega)
  replace W0 := own_far W0 hg (fun k hk e => by have := hW0 k hk; simp at e; omega)
  replace Of1 := own_far Of1 hg (fun k hk e => by simp [Value.ownBlock] at hk; simp at e; omega)
  replace G0 := own_far G0 hg (fun k hk e => by have := hG0 k hk; simp at e; omega)
  clear hg
  go_wp2_with fail
  refine (cMarkUsg _ gf1 _ fs ((1 : Int) + 4 * es.length) _ Of1 lf (by omega) (by omega)).mono ?_
  rintro e w15 ⟨rfl, -, hg⟩
  clear Of1
  replace HB := HB.grown hg HB.size (fun j e => by simp at e; omega)
  replace W0 := own_far W0 hg (fun k hk e => by have := hW0 k hk; simp at e; omega)
  replace G0 := own_far G0 hg (fun k hk e => by have := hG0 k hk; simp at e; omega)
  clear hg
  have hk9 : ¬ ((1 : Int) + 4 * es.length + 4 * fs.length < 0) := by omega
  go_wp2_with fail
  refine (cEqUs _ _ _ _ (coupL es fs) _ (Us.own G0) (Us.own W0) hLen0).mono ?_
  rintro e w16 ⟨rfl, hb⟩
  replace HB := btrans HB hb
  replace W0 := own_keep W0 hb
  replace G0 := own_keep G0 hb
  clear hb
  go_wp2_with fail
  have MB := own_blk_lt G0
  refine (cMarkUs _ (coupL es fs).length _ (coupL es fs) ((1 : Int)) _ (.inl G0) hLen0 (by omega) (by omega)).mono ?_
  rintro e w17 ⟨rfl, Q0, rr, hg, hrr⟩
  clear MB
  clear G0
  replace HB := HB.grown hg HB.size (fun j e => by have := hG0 j (hrr j e).2; omega)
  replace W0 := own_far W0 hg (fun k hk e => by have h1 := hW0 k hk; have h2 := hG0 k (hrr k e.symm).2; omega)
  clear hg hrr rr
  have hqq0 : ¬ ((((1 : Int) + 4 * (coupL es fs).length) : Int) < 0) := by omega
  go_wp2_with fail
  refine (cHeldUs _ (coupL es fs).length _ ((1 : Int)) _ Q0 hLen0 (by omega) (by omega)).mono ?_
  rintro e w18 ⟨rfl, hw⟩
  subst w18
  go_wp2_with fail
  refine (cToUs ea ec es _ (he.below HB) le).mono ?_
  rintro e w19 ⟨ge2, rfl, Oe2, hge2, hb⟩
  clear hge2
  replace Q0 := Q0.keep hb
  replace HB := btrans HB hb
  replace W0 := own_keep W0 hb
  clear hb
  go_wp2_with fail
  refine (cToUs fa fc fs _ (hf.below HB) lf).mono ?_
  rintro e w20 ⟨gf2, rfl, Of2, hgf2, hb⟩
  clear hgf2
  replace Q0 := Q0.keep hb
  replace HB := btrans HB hb
  replace W0 := own_keep W0 hb
  replace Oe2 := own_keep Oe2 hb
  clear hb
  go_wp2_with fail
  refine (cCoupI _ _ _ _ es fs _ (Us.of_owns Oe2) (Us.of_owns Of2) (Nat.le_refl _) (by unfold maxLen; omega) (Nat.le_refl _) (by unfold maxLen; omega)).mono ?_
  rintro e w21 ⟨vH0, rfl, H0, hb⟩
  clear Oe2 Of2
  replace Q0 := Q0.keep hb
  replace HB := btrans HB hb
  replace W0 := own_keep W0 hb
  clear hb
  obtain ⟨Ha0, Hc0, rfl⟩ := own_form H0
  go_wp2_with fail
  refine (cEqUs _ _ _ _ (coupL es fs) _ (Us.own H0) (Us.own W0) hLen0).mono ?_
  rintro e w22 ⟨rfl, hb⟩
  replace Q0 := Q0.keep hb
  replace HB := btrans HB hb
  replace W0 := own_keep W0 hb
  replace H0 := own_keep H0 hb
  clear hb
  go_wp2_with fail
  refine (cHeldUs _ (coupL es fs).length _ ((1 : Int)) _ Q0 hLen0 (by omega) (by omega)).mono ?_
  rintro e w23 ⟨rfl, hw⟩
  subst w23
  go_wp2
  go_ret
  exact ⟨rfl, HB⟩

end Go.Proofs.Ytfffnekbdegclaa
