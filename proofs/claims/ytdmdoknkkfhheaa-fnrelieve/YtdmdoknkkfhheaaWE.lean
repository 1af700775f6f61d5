/- The walk of the law on Relieve. -/
import Derived.Test.YtdmdoknkkfhheaaSD
import Derived.Test.YtdmdoknkkfhheaaSC
import Derived.Deep.RegionHeld3
namespace Go.Proofs.Ytdmdoknkkfhheaa
open Go.RowKit
theorem RelA.len {ts : List TaskV} {ps : List Int} {r : RuleV} {zs : List Int} {ok : Bool} (h : RelA ts ps r zs ok) : zs.length ≤ 40 := by
  rcases h with ⟨_, rfl, _⟩ | ⟨h1, D, hD, ⟨_, rfl, _⟩ | ⟨_, _, l, hl, rfl⟩⟩
  · simp
  · simp
  · rw [List.length_map]
    simp only [Bool.and_eq_true] at h1
    have := (plB_iff.1 h1.1).2.1
    have := hl.len.1
    omega
theorem AnsRel.parts {w w' : World} {ts : List TaskV} {ps : List Int} {r : RuleV} {e : Ending} (h : AnsRel w ts ps r e w') : ∃ v zs ok, e = .returned (.tuple #[v, .bool ok]) ∧ RelA ts ps r zs ok ∧ w'.ownsRow w.heap.size 3 1 v (List.length zs) (zs.map (Value.int .i64)) ∧ Below w.heap.size w w' := h
set_option maxRecDepth 20000 in
set_option maxHeartbeats 12800000 in
theorem walkRelieve (ea : Option Addr) (ec : Nat) (es : List TaskV) (za : Option Addr) (zc : Nat) (zs : List Int) (r : RuleV) (w : World) (he : Tasks w ea es) (ne : es.length ≤ maxLen) (hz : Ints w za zs) (_ : zs.length ≤ maxLen) :
    Calls Try.prog 9 #[.slice ea es.length ec, .slice za zs.length zc, r.val] w fun e w' => e = .returned (.bool true) ∧ Below w.heap.size w w' := by
  have hWb := balloc w (.cells #[.int .i64 r.p, .int .i64 r.d, .int .i64 r.r, .int .i64 r.s] 41)
  have hX := Rul.new w r 41
  have hWs := sz1 w (.cells #[.int .i64 r.p, .int .i64 r.d, .int .i64 r.r, .int .i64 r.s] 41)
  have TR := fun w => cToRule r w
  have VS := fun a c z w ht hz (le : es.length ≤ 1048576) => (cRelieveS a c es z zs.length zs r w ht hz le (Nat.le_refl _)).mono (fun e w' h => h.parts)
  have VI := fun a c z w ht hz (le : es.length ≤ 1048576) => (cRelieveI a c es z zs.length zs r w ht hz le (Nat.le_refl _)).mono (fun e w' h => h.parts)
  unfold RuleV.val at *
  by_cases hlz : (1048576 : Int) < zs.length
  · go_enter Try.func9, Try.ntmps9
    go_wp2
    go_ret
    exact ⟨rfl, hWb⟩
  have lz : zs.length ≤ 1048576 := by omega
  replace hlz : ¬ (1048576 : Int) < zs.length := hlz
  go_enter Try.func9, Try.ntmps9
  go_wp2_with fail
  refine (cSzTasks ea _ ec 1048576 _ (by omega) (by omega) ne).mono ?_
  rintro e w1 ⟨r1, rfl, hr, hw⟩
  subst w1
  rcases hr with rfl | ⟨hr, hr0⟩
  · go_wp2
    go_ret
    exact ⟨rfl, hWb⟩
  have le : es.length ≤ 1048576 := by omega
  have hr5 : ¬ r1 < 0 := by omega
  clear hr hr0
  generalize w.alloc (.cells #[.int .i64 r.p, .int .i64 r.d, .int .i64 r.r, .int .i64 r.s] 41) = W at *
  replace he := he.below hWb
  replace hz := hz.below hWb
  have HB := Below.refl W.heap.size W
  have hTd : Tasks W.drew ea es := (he.below HB).below (bdraw (Below.refl _ _) 1)
  have T0 := cToTasks ea ec es W.drew hTd le
  clear hTd
  have X1 := hX.below HB
  obtain ⟨c0, c1, c2, c3⟩ := X1.parts
  go_wp2_with fail
  go_region_held3 (fun w' => w'.cell? ⟨w.heap.size, 0, none⟩ = some (.int .i64 r.p) ∧ w'.cell? ⟨w.heap.size, 1, none⟩ = some (.int .i64 r.d) ∧ w'.cell? ⟨w.heap.size, 2, none⟩ = some (.int .i64 r.r) ∧ w'.cell? ⟨w.heap.size, 3, none⟩ = some (.int .i64 r.s)) (go_keep) (first
    | (go_at_call 14; with_reducible refine (VS _ _ _ _ (Tasks.of_owns Oe2) (Ints.of_owns Oz1) le).mono ?_; rintro e wd ⟨vW, zsW, okW, rfl, hzW, W0, hbd⟩; have Bd := btrans Bc hbd; obtain ⟨Wa0, Wc0, rfl⟩ := own_form W0; have l0 := ble Bd c0; have l1 := ble Bd c1; have l2 := ble Bd c2; have l3 := ble Bd c3)
    | (go_at_call 25; with_reducible refine (TR _).mono ?_; rintro e wc ⟨rfl, hbc⟩; have Bc := btrans Bb hbc; have k0 := ble Bc c0; have k1 := ble Bc c1; have k2 := ble Bc c2; have k3 := ble Bc c3; have Oe2 := own_keep Oe1 hbc; have Oz1 := own_keep Oz0 hbc)
    | (go_at_call 29; with_reducible refine (cToInts za zc zs _ ((hz.below HB).below Ba) lz).mono ?_; rintro e wb ⟨gz, rfl, Oz0, -, hbb⟩; have Bb := btrans Ba hbb; have j0 := ble Bb c0; have j1 := ble Bb c1; have j2 := ble Bb c2; have j3 := ble Bb c3; have Oe1 := own_keep Oe0 hbb)
    | (go_at_call 28; with_reducible refine T0.mono ?_; rintro e wa ⟨ge, rfl, Oe0, -, hba⟩; have Ba := undrew hba; have i0 := ble Ba c0; have i1 := ble Ba c1; have i2 := ble Ba c2; have i3 := ble Ba c3))
  clear Ba Bb Bc hba hbb hbc hbd Oe0 Oe1 Oe2 Oz0 Oz1 T0 VS X1 c0 c1 c2 c3 i0 i1 i2 i3 j0 j1 j2 j3 k0 k1 k2 k3 l0 l1 l2 l3
  replace HB := btrans HB Bd
  clear Bd
  have bW0 := own_blk_lt W0
  go_wp2_with fail
  refine (cToTasks ea ec es _ (he.below HB) le).mono ?_
  have se1 := HB.size
  rintro e vw1 ⟨ge1, rfl, Oe1, hge1, hb⟩
  have we1 : W.heap.size ≤ ge1 := by omega
  have hW0 : ∀ k, (Value.slice Wa0 zsW.length Wc0).ownBlock = some k → k < ge1 := fun k hk => by have := bW0 k hk; omega
  have xe : ge1 < vw1.heap.size := owns_lt Oe1
  clear hge1 se1 bW0
  replace HB := btrans HB hb
  replace W0 := own_keep W0 hb
  clear hb
  go_wp2_with fail
  refine (cToInts za zc zs _ (hz.below HB) lz).mono ?_
  rintro e vw2 ⟨gz1, rfl, Oz1, hgz1, hb⟩
  have hxx : ge1 < gz1 := by omega
  have xz : gz1 < vw2.heap.size := owns_lt Oz1
  clear hgz1 xe
  replace HB := btrans HB hb
  replace W0 := own_keep W0 hb
  replace Oe1 := own_keep Oe1 hb
  clear hb
  have X1 := hX.below HB
  obtain ⟨c0, c1, c2, c3⟩ := X1.parts
  go_wp2_with fail
  refine (TR _).mono ?_
  have sz2 := xz
  rintro e vw3 ⟨rfl, hb⟩
  replace xz := Nat.lt_of_lt_of_le xz hb.size
  clear sz2 c0 c1 c2 c3 X1
  replace HB := btrans HB hb
  replace W0 := own_keep W0 hb
  replace Oe1 := own_keep Oe1 hb
  replace Oz1 := own_keep Oz1 hb
  clear hb
  go_wp2_with fail
  refine (VI _ _ _ _ (Tasks.of_owns Oe1) (Ints.of_owns Oz1) le).mono ?_
  rintro e vw4 ⟨vG, zsG, okG, rfl, hzG, G0, hb⟩
  obtain ⟨hzE, hoE⟩ := hzG.uniq hzW
  subst zsG
  subst okG
  clear hzG
  have hG0 : ∀ k, vG.ownBlock = some k → gz1 < k := fun k hk => by have := own_from G0 (Nat.le_refl _) k hk; omega
  replace HB := btrans HB hb
  replace W0 := own_keep W0 hb
  replace Oe1 := own_keep Oe1 hb
  replace Oz1 := own_keep Oz1 hb
  clear hb
  obtain ⟨Ga0, Gc0, rfl⟩ := own_form G0
  have hLen0 : zsW.length ≤ 1048576 := by have := hzW.len; omega
  have hLen1 : zsW.length ≤ 40 := hzW.len
  clear xz
  go_wp2_with fail
  refine (cEqInts _ _ _ _ zsW _ (Ints.own G0 rfl) (Ints.own W0 rfl) (by unfold maxLen; omega)).mono ?_
  rintro e vw5 ⟨rfl, hb⟩
  replace HB := btrans HB hb
  replace W0 := own_keep W0 hb
  replace Oe1 := own_keep Oe1 hb
  replace Oz1 := own_keep Oz1 hb
  replace G0 := own_keep G0 hb
  clear hb
  go_wp2_with fail
  refine (cToTasks ea ec es _ (he.below HB) le).mono ?_
  rintro e vw6 ⟨g5, rfl, O5, hg5, hb⟩
  clear hg5
  replace HB := btrans HB hb
  replace W0 := own_keep W0 hb
  replace Oe1 := own_keep Oe1 hb
  replace Oz1 := own_keep Oz1 hb
  replace G0 := own_keep G0 hb
  clear hb
  go_wp2_with fail
  refine (cEqTasks _ _ _ _ es _ (Tasks.of_owns Oe1) (Tasks.of_owns O5) le).mono ?_
  rintro e vw7 ⟨rfl, hb⟩
  clear O5
  replace HB := btrans HB hb
  replace W0 := own_keep W0 hb
  replace Oe1 := own_keep Oe1 hb
  replace Oz1 := own_keep Oz1 hb
  replace G0 := own_keep G0 hb
  clear hb
  go_wp2_with fail
  refine (cToInts za zc zs _ (hz.below HB) lz).mono ?_
  rintro e vw8 ⟨g5, rfl, O5, hg5, hb⟩
  clear hg5
  replace HB := btrans HB hb
  replace W0 := own_keep W0 hb
  replace Oe1 := own_keep Oe1 hb
  replace Oz1 := own_keep Oz1 hb
  replace G0 := own_keep G0 hb
  clear hb
  go_wp2_with fail
  refine (cEqInts _ _ _ _ zs _ (Ints.of_owns Oz1) (Ints.of_owns O5) (by unfold maxLen; omega)).mono ?_
  rintro e vw9 ⟨rfl, hb⟩
  clear O5
  replace HB := btrans HB hb
  replace W0 := own_keep W0 hb
  replace Oe1 := own_keep Oe1 hb
  replace Oz1 := own_keep Oz1 hb
  replace G0 := own_keep G0 hb
  clear hb
  go_wp2_with fail
  refine (cMarkTasksg _ ge1 _ es ((1 : Int)) _ Oe1 le (by omega) (by omega)).mono ?_
  rintro e vw10 ⟨rfl, -, hg⟩
  clear Oe1
  replace HB := HB.grown hg HB.size (fun j e => by simp at e; omega)
  replace W0 := own_far W0 hg (fun k hk e => by have := hW0 k hk; simp at e; omega)
  replace G0 := own_far G0 hg (fun k hk e => by have := hG0 k hk; simp at e; omega)
  replace Oz1 := own_far Oz1 hg (fun k hk e => by simp [Value.ownBlock] at hk; simp at e; omega)
  clear hg
  go_wp2_with fail
  refine (cMarkInts _ zs.length _ zs ((1 : Int) + 5 * es.length) _ rfl Oz1 lz (by omega) (by omega)).mono ?_
  rintro e vw11 ⟨rfl, -, hg⟩
  clear Oz1
  replace HB := HB.grown hg HB.size (fun j e => by simp [Value.ownBlock] at e; omega)
  replace W0 := own_far W0 hg (fun k hk e => by have := hW0 k hk; simp [Value.ownBlock] at e; omega)
  replace G0 := own_far G0 hg (fun k hk e => by have := hG0 k hk; simp [Value.ownBlock] at e; omega)
  clear hg
  have hk9 : ¬ ((1 : Int) + 5 * es.length + zs.length < 0) := by omega
  go_wp2_with fail
  refine (cEqInts _ _ _ _ zsW _ (Ints.own G0 rfl) (Ints.own W0 rfl) (by unfold maxLen; omega)).mono ?_
  rintro e vw12 ⟨rfl, hb⟩
  replace HB := btrans HB hb
  replace W0 := own_keep W0 hb
  replace G0 := own_keep G0 hb
  clear hb
  go_wp2_with fail
  refine (cMarkInts _ zsW.length _ zsW ((1 : Int)) _ rfl G0 hLen0 (by omega) (by omega)).mono ?_
  rintro e vw13 ⟨rfl, Q0, hg⟩
  clear G0
  replace HB := HB.grown hg HB.size (fun j e => by have := hG0 j e; omega)
  replace W0 := own_far W0 hg (fun k hk e => by have h1 := hW0 k hk; have h2 := hG0 k e.symm; omega)
  clear hg
  have hqq0 : ¬ ((((1 : Int) + zsW.length) : Int) < 0) := by omega
  go_wp2_with fail
  refine (cHeldInts _ zsW.length _ ((1 : Int)) _ Q0 hLen0 (by omega) (by omega)).mono ?_
  rintro e vw14 ⟨rfl, hw⟩
  subst vw14
  have hTd : Tasks vw13.drew ea es := (he.below HB).below (bdraw (Below.refl _ _) 1)
  have T0 := cToTasks ea ec es vw13.drew hTd le
  clear hTd
  have X1 := hX.below HB
  obtain ⟨c0, c1, c2, c3⟩ := X1.parts
  go_wp2_with fail
  go_region_held3 (fun w' => w'.cell? ⟨w.heap.size, 0, none⟩ = some (.int .i64 r.p) ∧ w'.cell? ⟨w.heap.size, 1, none⟩ = some (.int .i64 r.d) ∧ w'.cell? ⟨w.heap.size, 2, none⟩ = some (.int .i64 r.r) ∧ w'.cell? ⟨w.heap.size, 3, none⟩ = some (.int .i64 r.s)) (go_keep) (first
    | (go_at_call 13; with_reducible refine (VI _ _ _ _ (Tasks.of_owns Oe2) (Ints.of_owns Oz1) le).mono ?_; rintro e wd ⟨vH, zsH, okH, rfl, hzH, H0, hbd⟩; have Bd := btrans Bc hbd; obtain ⟨Ha0, Hc0, rfl⟩ := own_form H0; have l0 := ble Bd c0; have l1 := ble Bd c1; have l2 := ble Bd c2; have l3 := ble Bd c3)
    | (go_at_call 25; with_reducible refine (TR _).mono ?_; rintro e wc ⟨rfl, hbc⟩; have Bc := btrans Bb hbc; have k0 := ble Bc c0; have k1 := ble Bc c1; have k2 := ble Bc c2; have k3 := ble Bc c3; have Oe2 := own_keep Oe1 hbc; have Oz1 := own_keep Oz0 hbc)
    | (go_at_call 29; with_reducible refine (cToInts za zc zs _ ((hz.below HB).below Ba) lz).mono ?_; rintro e wb ⟨gz, rfl, Oz0, -, hbb⟩; have Bb := btrans Ba hbb; have j0 := ble Bb c0; have j1 := ble Bb c1; have j2 := ble Bb c2; have j3 := ble Bb c3; have Oe1 := own_keep Oe0 hbb)
    | (go_at_call 28; with_reducible refine T0.mono ?_; rintro e wa ⟨ge, rfl, Oe0, -, hba⟩; have Ba := undrew hba; have i0 := ble Ba c0; have i1 := ble Ba c1; have i2 := ble Ba c2; have i3 := ble Ba c3))
  clear Ba Bb Bc hba hbb hbc hbd Oe0 Oe1 Oe2 Oz0 Oz1 T0 VI X1 c0 c1 c2 c3 i0 i1 i2 i3 j0 j1 j2 j3 k0 k1 k2 k3 l0 l1 l2 l3
  obtain ⟨hzE, hoE⟩ := hzH.uniq hzW
  subst zsH
  subst okH
  clear hzH
  replace HB := btrans HB Bd
  replace W0 := own_keep W0 Bd
  replace Q0 := own_keep Q0 Bd
  clear Bd
  go_wp2_with fail
  refine (cEqInts _ _ _ _ zsW _ (Ints.own H0 rfl) (Ints.own W0 rfl) (by unfold maxLen; omega)).mono ?_
  rintro e vw15 ⟨rfl, hb⟩
  replace HB := btrans HB hb
  replace W0 := own_keep W0 hb
  replace Q0 := own_keep Q0 hb
  replace H0 := own_keep H0 hb
  clear hb
  go_wp2_with fail
  refine (cHeldInts _ zsW.length _ ((1 : Int)) _ Q0 hLen0 (by omega) (by omega)).mono ?_
  rintro e vw16 ⟨rfl, hw⟩
  subst vw16
  go_wp2
  go_ret
  exact ⟨rfl, btrans hWb HB⟩
end Go.Proofs.Ytdmdoknkkfhheaa
