/- The walks of the laws on the codes of duties and wages. -/
import Derived.Test.YtdmdoknkkfhheaaSC
import Derived.Deep.RegionHeld3
namespace Go.Proofs.Ytdmdoknkkfhheaa
open Go.RowKit
set_option maxRecDepth 20000 in
set_option maxHeartbeats 12800000 in
theorem walkDutyCode (ea : Option Addr) (ec : Nat) (es : List TaskV) (za : Option Addr) (zc : Nat) (zs : List Int) (r : RuleV) (w : World) (he : Tasks w ea es) (ne : es.length ≤ maxLen) (hz : Ints w za zs) (_ : zs.length ≤ maxLen) :
    Calls Try.prog 8 #[.slice ea es.length ec, .slice za zs.length zc, r.val] w fun e w' => e = .returned (.bool true) ∧ Below w.heap.size w w' := by
  have HB := balloc w (.cells #[.int .i64 r.p, .int .i64 r.d, .int .i64 r.r, .int .i64 r.s] 41)
  have hX := Rul.new w r 41
  have TR := fun w => cToRule r w
  unfold RuleV.val at *
  by_cases hlz : (1048576 : Int) < zs.length
  · go_enter Try.func8, Try.ntmps8
    go_wp2
    go_ret
    exact ⟨rfl, HB⟩
  have lz : zs.length ≤ 1048576 := by omega
  replace hlz : ¬ (1048576 : Int) < zs.length := hlz
  go_enter Try.func8, Try.ntmps8
  go_wp2_with fail
  refine (cSzTasks ea _ ec 1048576 _ (by omega) (by omega) ne).mono ?_
  rintro e w1 ⟨r1, rfl, hr, hw⟩
  subst w1
  rcases hr with rfl | ⟨hr, hr0⟩
  · go_wp2
    go_ret
    exact ⟨rfl, HB⟩
  have le : es.length ≤ 1048576 := by omega
  have hr5 : ¬ r1 < 0 := by omega
  clear hr hr0
  go_wp2_with fail
  generalize w.alloc _ = W at *
  obtain ⟨c0, c1, c2, c3⟩ := hX.parts
  have VS := fun a c z w ht hz => cDutyCodeS a c es z zs.length zs r w ht hz le (Nat.le_refl _)
  have VI := fun a c z w ht hz => cDutyCodeI a c es z zs.length zs r w ht hz le (Nat.le_refl _)
  unfold RuleV.val at VS VI
  have hTd : Tasks W.drew ea es := (he.below HB).below (bdraw (Below.refl _ _) 1)
  have T0 := cToTasks ea ec es W.drew hTd le
  clear hTd
  go_region_held3 (fun w' => w'.cell? ⟨w.heap.size, 0, none⟩ = some (.int .i64 r.p) ∧ w'.cell? ⟨w.heap.size, 1, none⟩ = some (.int .i64 r.d) ∧ w'.cell? ⟨w.heap.size, 2, none⟩ = some (.int .i64 r.r) ∧ w'.cell? ⟨w.heap.size, 3, none⟩ = some (.int .i64 r.s)) (go_keep) (first
    | (go_at_call 21; with_reducible refine (VS _ _ _ _ (Tasks.of_owns Oe2) (Ints.of_owns Oz1)).mono ?_; rintro e wd ⟨rfl, hbd⟩; have Bd := btrans Bc hbd; have l0 := ble Bd c0; have l1 := ble Bd c1; have l2 := ble Bd c2; have l3 := ble Bd c3)
    | (go_at_call 25; with_reducible refine (TR _).mono ?_; rintro e wc ⟨rfl, hbc⟩; have Bc := btrans Bb hbc; have k0 := ble Bc c0; have k1 := ble Bc c1; have k2 := ble Bc c2; have k3 := ble Bc c3; have Oe2 := own_keep Oe1 hbc; have Oz1 := own_keep Oz0 hbc)
    | (go_at_call 29; with_reducible refine (cToInts za zc zs _ ((hz.below HB).below Ba) lz).mono ?_; rintro e wb ⟨gz, rfl, Oz0, -, hbb⟩; have Bb := btrans Ba hbb; have j0 := ble Bb c0; have j1 := ble Bb c1; have j2 := ble Bb c2; have j3 := ble Bb c3; have Oe1 := own_keep Oe0 hbb)
    | (go_at_call 28; with_reducible refine T0.mono ?_; rintro e wa ⟨ge, rfl, Oe0, -, hba⟩; have Ba := undrew hba; have i0 := ble Ba c0; have i1 := ble Ba c1; have i2 := ble Ba c2; have i3 := ble Ba c3))
  replace HB := btrans HB Bd
  replace hX := hX.below Bd
  clear Ba Bb Bc Bd hba hbb hbc hbd Oe0 Oe1 Oe2 Oz0 Oz1 T0 VS c0 c1 c2 c3 i0 i1 i2 i3 j0 j1 j2 j3 k0 k1 k2 k3 l0 l1 l2 l3
  go_wp2_with fail
  refine (cToTasks ea ec es _ (he.below HB) le).mono ?_
  rintro e w1 ⟨g1, rfl, O1, hg, hb⟩
  clear hg
  replace HB := btrans HB hb
  replace hX := hX.below hb
  clear hb
  go_wp2_with fail
  refine (cToInts za zc zs _ (hz.below HB) lz).mono ?_
  rintro e w2 ⟨g2, rfl, O2, hg, hb⟩
  clear hg
  replace HB := btrans HB hb
  replace hX := hX.below hb
  replace O1 := own_keep O1 hb
  clear hb
  obtain ⟨c0, c1, c2, c3⟩ := hX.parts
  go_wp2_with fail
  refine (TR _).mono ?_
  rintro e w3 ⟨rfl, hb⟩
  replace HB := btrans HB hb
  replace O1 := own_keep O1 hb
  replace O2 := own_keep O2 hb
  clear hb c0 c1 c2 c3 hX
  go_wp2_with fail
  refine (VI _ _ _ _ (Tasks.of_owns O1) (Ints.of_owns O2)).mono ?_
  rintro e w4 ⟨rfl, hb⟩
  replace HB := btrans HB hb
  replace O1 := own_keep O1 hb
  replace O2 := own_keep O2 hb
  clear hb VI
  go_wp2_with fail
  refine (cToTasks ea ec es _ (he.below HB) le).mono ?_
  rintro e w5 ⟨g5, rfl, O5, hg, hb⟩
  clear hg
  replace HB := btrans HB hb
  replace O1 := own_keep O1 hb
  replace O2 := own_keep O2 hb
  clear hb
  go_wp2_with fail
  refine (cEqTasks _ _ _ _ es _ (Tasks.of_owns O1) (Tasks.of_owns O5) le).mono ?_
  rintro e w6 ⟨rfl, hb⟩
  replace HB := btrans HB hb
  replace O2 := own_keep O2 hb
  clear hb O5 O1
  go_wp2_with fail
  refine (cToInts za zc zs _ (hz.below HB) lz).mono ?_
  rintro e w7 ⟨g5, rfl, O5, hg, hb⟩
  clear hg
  replace HB := btrans HB hb
  replace O2 := own_keep O2 hb
  clear hb
  go_wp2_with fail
  refine (cEqInts _ _ _ _ zs _ (Ints.of_owns O2) (Ints.of_owns O5) (by unfold maxLen; omega)).mono ?_
  rintro e w8 ⟨rfl, hb⟩
  replace HB := btrans HB hb
  go_wp2
  go_ret
  exact ⟨rfl, HB⟩

set_option maxRecDepth 20000 in
set_option maxHeartbeats 12800000 in
theorem walkWage (ea : Option Addr) (ec : Nat) (es : List TaskV) (za : Option Addr) (zc : Nat) (zs : List Int) (r : RuleV) (x : Int) (w : World) (he : Tasks w ea es) (ne : es.length ≤ maxLen) (hz : Ints w za zs) (_ : zs.length ≤ maxLen) :
    Calls Try.prog 10 #[.slice ea es.length ec, .slice za zs.length zc, r.val, .int .i64 x] w fun e w' => e = .returned (.bool true) ∧ Below w.heap.size w w' := by
  have HB := balloc w (.cells #[.int .i64 r.p, .int .i64 r.d, .int .i64 r.r, .int .i64 r.s] 41)
  have hX := Rul.new w r 41
  have TR := fun w => cToRule r w
  unfold RuleV.val at *
  by_cases hlz : (1048576 : Int) < zs.length
  · go_enter Try.func10, Try.ntmps10
    go_wp2
    go_ret
    exact ⟨rfl, HB⟩
  have lz : zs.length ≤ 1048576 := by omega
  replace hlz : ¬ (1048576 : Int) < zs.length := hlz
  go_enter Try.func10, Try.ntmps10
  go_wp2_with fail
  refine (cSzTasks ea _ ec 1048576 _ (by omega) (by omega) ne).mono ?_
  rintro e w1 ⟨r1, rfl, hr, hw⟩
  subst w1
  rcases hr with rfl | ⟨hr, hr0⟩
  · go_wp2
    go_ret
    exact ⟨rfl, HB⟩
  have le : es.length ≤ 1048576 := by omega
  have hr5 : ¬ r1 < 0 := by omega
  clear hr hr0
  go_wp2_with fail
  generalize w.alloc _ = W at *
  obtain ⟨c0, c1, c2, c3⟩ := hX.parts
  have VS := fun a c z w ht hz => cWageS a c es z zs.length zs r x w ht hz le (Nat.le_refl _)
  have VI := fun a c z w ht hz => cWageI a c es z zs.length zs r x w ht hz le (Nat.le_refl _)
  unfold RuleV.val at VS VI
  have hTd : Tasks W.drew ea es := (he.below HB).below (bdraw (Below.refl _ _) 1)
  have T0 := cToTasks ea ec es W.drew hTd le
  clear hTd
  go_region_held3 (fun w' => w'.cell? ⟨w.heap.size, 0, none⟩ = some (.int .i64 r.p) ∧ w'.cell? ⟨w.heap.size, 1, none⟩ = some (.int .i64 r.d) ∧ w'.cell? ⟨w.heap.size, 2, none⟩ = some (.int .i64 r.r) ∧ w'.cell? ⟨w.heap.size, 3, none⟩ = some (.int .i64 r.s)) (go_keep) (first
    | (go_at_call 35; with_reducible refine (VS _ _ _ _ (Tasks.of_owns Oe2) (Ints.of_owns Oz1)).mono ?_; rintro e wd ⟨rfl, hbd⟩; have Bd := btrans Bc hbd; have l0 := ble Bd c0; have l1 := ble Bd c1; have l2 := ble Bd c2; have l3 := ble Bd c3)
    | (go_at_call 25; with_reducible refine (TR _).mono ?_; rintro e wc ⟨rfl, hbc⟩; have Bc := btrans Bb hbc; have k0 := ble Bc c0; have k1 := ble Bc c1; have k2 := ble Bc c2; have k3 := ble Bc c3; have Oe2 := own_keep Oe1 hbc; have Oz1 := own_keep Oz0 hbc)
    | (go_at_call 29; with_reducible refine (cToInts za zc zs _ ((hz.below HB).below Ba) lz).mono ?_; rintro e wb ⟨gz, rfl, Oz0, -, hbb⟩; have Bb := btrans Ba hbb; have j0 := ble Bb c0; have j1 := ble Bb c1; have j2 := ble Bb c2; have j3 := ble Bb c3; have Oe1 := own_keep Oe0 hbb)
    | (go_at_call 28; with_reducible refine T0.mono ?_; rintro e wa ⟨ge, rfl, Oe0, -, hba⟩; have Ba := undrew hba; have i0 := ble Ba c0; have i1 := ble Ba c1; have i2 := ble Ba c2; have i3 := ble Ba c3))
  replace HB := btrans HB Bd
  replace hX := hX.below Bd
  clear Ba Bb Bc Bd hba hbb hbc hbd Oe0 Oe1 Oe2 Oz0 Oz1 T0 VS c0 c1 c2 c3 i0 i1 i2 i3 j0 j1 j2 j3 k0 k1 k2 k3 l0 l1 l2 l3
  go_wp2_with fail
  refine (cToTasks ea ec es _ (he.below HB) le).mono ?_
  rintro e w1 ⟨g1, rfl, O1, hg, hb⟩
  clear hg
  replace HB := btrans HB hb
  replace hX := hX.below hb
  clear hb
  go_wp2_with fail
  refine (cToInts za zc zs _ (hz.below HB) lz).mono ?_
  rintro e w2 ⟨g2, rfl, O2, hg, hb⟩
  clear hg
  replace HB := btrans HB hb
  replace hX := hX.below hb
  replace O1 := own_keep O1 hb
  clear hb
  obtain ⟨c0, c1, c2, c3⟩ := hX.parts
  go_wp2_with fail
  refine (TR _).mono ?_
  rintro e w3 ⟨rfl, hb⟩
  replace HB := btrans HB hb
  replace O1 := own_keep O1 hb
  replace O2 := own_keep O2 hb
  clear hb c0 c1 c2 c3 hX
  go_wp2_with fail
  refine (VI _ _ _ _ (Tasks.of_owns O1) (Ints.of_owns O2)).mono ?_
  rintro e w4 ⟨rfl, hb⟩
  replace HB := btrans HB hb
  replace O1 := own_keep O1 hb
  replace O2 := own_keep O2 hb
  clear hb VI
  go_wp2_with fail
  refine (cToTasks ea ec es _ (he.below HB) le).mono ?_
  rintro e w5 ⟨g5, rfl, O5, hg, hb⟩
  clear hg
  replace HB := btrans HB hb
  replace O1 := own_keep O1 hb
  replace O2 := own_keep O2 hb
  clear hb
  go_wp2_with fail
  refine (cEqTasks _ _ _ _ es _ (Tasks.of_owns O1) (Tasks.of_owns O5) le).mono ?_
  rintro e w6 ⟨rfl, hb⟩
  replace HB := btrans HB hb
  replace O2 := own_keep O2 hb
  clear hb O5 O1
  go_wp2_with fail
  refine (cToInts za zc zs _ (hz.below HB) lz).mono ?_
  rintro e w7 ⟨g5, rfl, O5, hg, hb⟩
  clear hg
  replace HB := btrans HB hb
  replace O2 := own_keep O2 hb
  clear hb
  go_wp2_with fail
  refine (cEqInts _ _ _ _ zs _ (Ints.of_owns O2) (Ints.of_owns O5) (by unfold maxLen; omega)).mono ?_
  rintro e w8 ⟨rfl, hb⟩
  replace HB := btrans HB hb
  go_wp2
  go_ret
  exact ⟨rfl, HB⟩

end Go.Proofs.Ytdmdoknkkfhheaa
