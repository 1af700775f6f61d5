/- The walk of the law on chains. -/
import Derived.Test.YtbnhkkaiohmllaaSN
import Derived.Deep.RegionHeld3
namespace Go.Proofs.Ytbnhkkaiohmllaa
open Go.RowKit
theorem ChA.len {ts : List TaskV} {n : Int} {zs : List Int} (h : ChA ts n zs) : zs.length ≤ 40 := by
  rcases h with ⟨_, rfl⟩ | ⟨h1, os, hh, _, _, rfl⟩
  · simp
  · rw [uL_len]
    simp only [Bool.and_eq_true, tasksB, decide_eq_true_eq] at h1; exact h1.1.1
theorem UnA.len {ts : List TaskV} {n : Int} {tell : List Nat → Int} {zs : List Int} (h : UnA ts n tell zs) : zs.length ≤ 40 := by
  rcases h with ⟨_, rfl⟩ | ⟨h1, os, hh, h2, h3, rfl⟩
  · simp
  · rw [List.length_map, List.length_range]
    simp only [Bool.and_eq_true, tasksB, decide_eq_true_eq] at h1
    have h4 := h3.nU_le
    have h5 := congrArg List.length h3.places
    rw [List.length_map] at h5
    have := h2.len
    omega

set_option maxRecDepth 20000 in
set_option maxHeartbeats 12800000 in
theorem walkChains (ea : Option Addr) (ec : Nat) (es : List TaskV) (x : Int) (w : World) (he : Tasks w ea es) (ne : es.length ≤ maxLen) :
    Calls Try.prog 9 #[.slice ea es.length ec, .int .i64 x] w fun e w' => e = .returned (.bool true) ∧ Below w.heap.size w w' := by
  have HB := Below.refl w.heap.size w
  go_enter Try.func9, Try.ntmps9
  go_wp2_with fail
  refine (cSzTasks ea _ ec 1048576 _ (by omega) (by omega) ne).mono ?_
  rintro e w1 ⟨r1, rfl, hr, hw⟩
  subst w1
  rcases hr with rfl | ⟨hr, hr0⟩
  · go_wp2
    go_ret
    exact ⟨rfl, HB⟩
  have le : es.length ≤ 1048576 := by omega
  have hr51 : ¬ r1 < 0 := by omega
  have hr61 : r1 ≤ 1048576 := by omega
  have hr71 := hr0
  clear hr hr0
  go_wp2_with fail
  refine (cToTasks ea ec es _ (he.below HB) le).mono ?_
  rintro e w2 ⟨ge0, rfl, Oe0, hge0, hb⟩
  clear hge0
  replace HB := btrans HB hb
  clear hb
  go_wp2_with fail
  refine (cChainsS _ _ es x _ (Tasks.of_owns Oe0) le).mono ?_
  rintro e w3 ⟨vW0, zsW, rfl, hzW, W0, hb⟩
  clear Oe0
  replace HB := btrans HB hb
  clear hb
  have bW0 := own_blk_lt W0
  obtain ⟨Wa0, Wc0, rfl⟩ := own_form W0
  go_wp2_with fail
  have Se := HB.size
  refine (cToTasks ea ec es _ (he.below HB) le).mono ?_
  rintro e w4 ⟨ge1, rfl, Oe1, hge1, hb⟩
  have ye1 := hge1
  replace hge1 := hide hge1
  have xe : ge1 < w4.heap.size := owns_lt Oe1
  have hW0 : ∀ k, (Value.slice Wa0 zsW.length Wc0).ownBlock = some k → k < ge1 := fun k hk => by have := bW0 k hk; omega
  clear ye1
  replace HB := btrans HB hb
  replace W0 := own_keep W0 hb
  clear hb
  go_wp2_with fail
  refine (cChainsI _ _ es x _ (Tasks.of_owns Oe1) le).mono ?_
  rintro e w5 ⟨vG0, zsG, rfl, hzG, G0, hb⟩
  have hzE := hzG.uniq hzW
  subst zsG
  clear hzG
  have hG0 : ∀ k, vG0.ownBlock = some k → ge1 < k := fun k hk => by have := own_from G0 (Nat.le_refl _) k hk; omega
  replace HB := btrans HB hb
  replace W0 := own_keep W0 hb
  replace Oe1 := own_keep Oe1 hb
  clear hb
  obtain ⟨Ga0, Gc0, rfl⟩ := own_form G0
  have hLen0 : zsW.length ≤ 1048576 := by have := hzW.len; omega
  have we1 : w.heap.size ≤ ge1 := by have := hge1.out; omega
  go_wp2_with fail
  refine (cEqInts _ _ _ _ zsW _ (Ints.own G0 rfl) (Ints.own W0 rfl) (by unfold maxLen; omega)).mono ?_
  rintro e w6 ⟨rfl, hb⟩
  replace HB := btrans HB hb
  replace W0 := own_keep W0 hb
  replace Oe1 := own_keep Oe1 hb
  replace G0 := own_keep G0 hb
  clear hb
  go_wp2_with fail
  refine (cToTasks ea ec es _ (he.below HB) le).mono ?_
  rintro e w7 ⟨g5, rfl, O5, hg5, hb⟩
  clear hg5
  replace HB := btrans HB hb
  replace W0 := own_keep W0 hb
  replace Oe1 := own_keep Oe1 hb
  replace G0 := own_keep G0 hb
  clear hb
  go_wp2_with fail
  refine (cEqTasks _ _ _ _ es _ (Tasks.of_owns Oe1) (Tasks.of_owns O5) le).mono ?_
  rintro e w8 ⟨rfl, hb⟩
  clear O5
  replace HB := btrans HB hb
  replace W0 := own_keep W0 hb
  replace Oe1 := own_keep Oe1 hb
  replace G0 := own_keep G0 hb
  clear hb
  go_wp2_with fail
  refine (cMarkTasksg _ ge1 _ es ((1 : Int)) _ Oe1 le (by omega) (by omega)).mono ?_
  rintro e w9 ⟨rfl, -, hg⟩
  clear Oe1
  replace HB := HB.grown hg HB.size (fun j e => by simp at e; omega)
  replace W0 := own_far W0 hg (fun k hk e => by have := hW0 k hk; simp at e; omega)
  replace G0 := own_far G0 hg (fun k hk e => by have := hG0 k hk; simp at e; omega)
  clear hg
  have hk9 : ¬ ((1 : Int) + 5 * es.length < 0) := by omega
  go_wp2_with fail
  refine (cEqInts _ _ _ _ zsW _ (Ints.own G0 rfl) (Ints.own W0 rfl) (by unfold maxLen; omega)).mono ?_
  rintro e w10 ⟨rfl, hb⟩
  replace HB := btrans HB hb
  replace W0 := own_keep W0 hb
  replace G0 := own_keep G0 hb
  clear hb
  go_wp2_with fail
  have MB := own_blk_lt G0
  refine (cMarkInts _ zsW.length _ zsW ((1 : Int)) _ rfl G0 hLen0 (by omega) (by omega)).mono ?_
  rintro e w11 ⟨rfl, Q0, hg⟩
  have hrr : ∀ j, (Value.slice Ga0 zsW.length Gc0).ownBlock = some j → True ∧ (Value.slice Ga0 zsW.length Gc0).ownBlock = some j := fun j e => ⟨trivial, e⟩
  clear MB
  clear G0
  replace HB := HB.grown hg HB.size (fun j e => by have := hG0 j (hrr j e).2; omega)
  replace W0 := own_far W0 hg (fun k hk e => by have h1 := hW0 k hk; have h2 := hG0 k (hrr k e.symm).2; omega)
  clear hg hrr
  have hqq0 : ¬ ((((1 : Int) + zsW.length) : Int) < 0) := by omega
  go_wp2_with fail
  refine (cHeldInts _ zsW.length _ ((1 : Int)) _ Q0 hLen0 (by omega) (by omega)).mono ?_
  rintro e w12 ⟨rfl, hw⟩
  subst w12
  go_wp2_with fail
  refine (cToTasks ea ec es _ (he.below HB) le).mono ?_
  rintro e w13 ⟨ge2, rfl, Oe2, hge2, hb⟩
  clear hge2
  replace Q0 := own_keep Q0 hb
  replace HB := btrans HB hb
  replace W0 := own_keep W0 hb
  clear hb
  go_wp2_with fail
  refine (cChainsI _ _ es x _ (Tasks.of_owns Oe2) le).mono ?_
  rintro e w14 ⟨vH0, zsH, rfl, hzH, H0, hb⟩
  have hzE := hzH.uniq hzW
  subst zsH
  clear hzH
  clear Oe2
  replace Q0 := own_keep Q0 hb
  replace HB := btrans HB hb
  replace W0 := own_keep W0 hb
  clear hb
  obtain ⟨Ha0, Hc0, rfl⟩ := own_form H0
  go_wp2_with fail
  refine (cEqInts _ _ _ _ zsW _ (Ints.own H0 rfl) (Ints.own W0 rfl) (by unfold maxLen; omega)).mono ?_
  rintro e w15 ⟨rfl, hb⟩
  replace Q0 := own_keep Q0 hb
  replace HB := btrans HB hb
  replace W0 := own_keep W0 hb
  replace H0 := own_keep H0 hb
  clear hb
  go_wp2_with fail
  refine (cHeldInts _ zsW.length _ ((1 : Int)) _ Q0 hLen0 (by omega) (by omega)).mono ?_
  rintro e w16 ⟨rfl, hw⟩
  subst w16
  go_wp2
  go_ret
  exact ⟨rfl, HB⟩

end Go.Proofs.Ytbnhkkaiohmllaa
