/- The walk of FnSettle. -/
import Derived.Test.YtbghfihlpbcomaaGreatDY
import Derived.Test.YtbghfihlpbcomaaGreatSZ
namespace Go.Proofs.YtbghfihlpbcomaaGreat
open Go.RowKit
theorem rem9s {x : Int} (h0 : 0 ≤ x) : ∃ r : Int, x.tmod 9 = r ∧ 0 ≤ r ∧ r ≤ 8 := by
  refine ⟨_, rfl, ?_, ?_⟩ <;> rw [Int.tmod_eq_emod_of_nonneg h0] <;> omega
theorem int_at {w : World} {B c : Nat} {a : Option Addr} {ms : List Int} (h : w.ownsRow B 3 1 (.slice a ms.length c) ms.length (ms.map (Value.int .i64))) {k : Nat} (hk : k < ms.length) : ∃ g, a = some ⟨g, 0, none⟩ ∧ w.cell? ⟨g, k, none⟩ = some (.int .i64 (ms.getD k 0)) := by
  rcases h.2 with ⟨he, h0⟩ | ⟨g, cap, cur, he, _⟩
  · omega
  simp only [Value.slice.injEq] at he
  obtain ⟨rfl, -, rfl⟩ := he
  refine ⟨g, rfl, ?_⟩
  rw [h.cellAt k (by omega)]
  simp [List.getD, hk]
/-- What the loop of the law asks of the k-th trip. -/
theorem SetTo.told {n : Int} {es : List EdgeV} {ts out : List TripV} {h : Int} {ms : List Int} (a : SetTo n es ts h ts.length out ms) {k : Nat} (hk : k < ts.length) : 0 ≤ ms.getD k 0 ∧ ms.getD k 0 ≤ 120 ∧ out.getD k TripV.zero = movedT (ts.getD k TripV.zero) (ms.getD k 0) := by
  obtain ⟨o, m, r, _, h2, h3, h4, h5, _⟩ := a.at hk
  subst r
  exact ⟨h3, h2.small.2, h4⟩

set_option maxRecDepth 100000 in
set_option maxHeartbeats 12800000 in
theorem walkSettle (a : Option Addr) (cap : Nat) (bs : List Int) (w : World) (hz : Bytes w a bs) (hm : bs.length ≤ maxLen) :
    Calls Tryz.prog 3 #[.slice a bs.length cap] w fun e w' => e = .returned (.bool true) ∧ Below w.heap.size w w' := by
  go_enter Tryz.func3, Tryz.ntmps3
  go_wp2_with fail
  refine (cbig a cap bs.length _ hm).mono ?_
  rintro e w1 ⟨rfl, hw⟩
  subst w1
  by_cases hbig : 1048576 < bs.length
  · have hd : decide (1048576 < bs.length) = true := decide_eq_true hbig
    rw [hd]
    go_wp2
    go_ret
    exact ⟨rfl, Below.refl _ _⟩
  have hd : decide (1048576 < bs.length) = false := decide_eq_false hbig
  have hl : bs.length ≤ 1048576 := by omega
  rw [hd]
  clear hd hbig
  go_wp2_with fail
  refine (cDrawRide a cap bs _ hz hl).mono ?_
  rintro e w1 ⟨n, es, ea, ec, ao, cp, ts, rfl, hE, h60, hT, hS, hR, h6, hb⟩
  obtain ⟨h1t, h6t⟩ := h6
  have X := one_block w1 (.cells #[.int .i64 (n : Nat), .slice ea es.length ec] 26)
  have hx := balloc w1 (.cells #[.int .i64 (n : Nat), .slice ea es.length ec] 26)
  replace hb := btrans hb hx
  replace hE := hE.below hx
  replace hT := hT.below hx
  have hz1 := hz.below hb
  clear hx
  go_wp2_with fail
  generalize w1.alloc (.cells #[.int .i64 (n : Nat), .slice ea es.length ec] 26) = W at *
  refine (cat a cap bs 3 _ hz1 hl (by omega)).mono ?_
  rintro e w2 ⟨rfl, hw⟩
  subst w2
  obtain ⟨r0, r1⟩ := atZ_in hz1 3
  obtain ⟨h, hh, hh0, hh8⟩ := rem9s r0
  have hwr : IntKind.i64.wrap h = h := wrap_in _ (by omega) (by omega)
  generalize w1.heap.size = g3 at *
  obtain ⟨⟨x0, x1⟩, -⟩ := blk2 X
  go_wp2_with fail
  clear hh hwr r0 r1 hz1 x0 x1
  refine (cSettleI ea ec n es ao cp ts h _ hE (by omega) hT hS).mono ?_
  rintro e w3 ⟨oa, oc, mo, mc, vs, out, ms, rfl, hA, T, O, hb3⟩
  replace hb := btrans hb hb3
  replace X := blk_keep hb3 X
  replace hE := hE.below hb3
  replace hT := hT.below hb3
  clear hb3
  obtain ⟨⟨x0, x1⟩, -⟩ := blk2 X
  go_wp2_with fail
  clear x0 x1
  refine (cSettleS ea ec n es ao cp ts h _ hE (by omega) hT hS).mono ?_
  rintro e w4 ⟨pa, pc, na, nc, vs2, out2, ms2, rfl, hA2, -, -, hb4⟩
  obtain ⟨e1, e2⟩ := hA2.uniq hA
  subst out2 ms2
  clear hA2
  replace hb := btrans hb hb4
  replace X := blk_keep hb4 X
  replace hE := hE.below hb4
  replace hT := hT.below hb4
  replace T := T.below hb4
  replace O := own_keep O hb4
  clear hb4
  obtain ⟨⟨x0, x1⟩, -⟩ := blk2 X
  go_wp2_with fail
  clear x0 x1
  refine (cRiddenI ea ec n es ao cp ts _ hE (by omega) hT hS).mono ?_
  rintro e w5 ⟨r, rfl, hr, hb5⟩
  obtain rfl : r = true := hr.2 hR
  clear hr
  replace hb := btrans hb hb5
  replace X := blk_keep hb5 X
  replace hE := hE.below hb5
  replace hT := hT.below hb5
  replace T := T.below hb5
  replace O := own_keep O hb5
  clear hb5
  rcases hA.fit with ⟨hol, hml, hTo⟩ | ⟨ho, hmo⟩
  rotate_left
  · have hNC : Hid (¬ CleanP n es ts h) := hide (fun c => by
      have h1 := ((SetA.of_clean c).uniq hA).1
      rw [ho] at h1
      rw [h1] at h1t
      simp at h1t)
    subst ho hmo
    clear hA T O
    obtain ⟨⟨x0, x1⟩, -⟩ := blk2 X
    go_wp2_with fail
    clear x0 x1
    refine (cCleanI ea ec n es ao cp ts h _ hE (by omega) hT hS).mono ?_
    rintro e w6 ⟨r, rfl, hr, hb6⟩
    obtain rfl : r = false := by
      cases r
      · rfl
      · exact absurd (hr.1 rfl) hNC.out
    have HB := btrans hb hb6
    clear hr
    go_wp2
    go_ret
    exact ⟨rfl, HB⟩
  have hSo : Small out := hTo.small hS
  have hCo : Hid (CleanP n es out h) := hide (by
    obtain ⟨q, hq⟩ : ∃ q, ts.length = q + 1 := ⟨ts.length - 1, by omega⟩
    rw [hq] at hTo; exact hTo.clean)
  have hZ : Hid (CleanP n es ts h → ms = List.replicate ts.length 0) := hide (fun c => ((SetA.of_clean c).uniq hA).2.symm)
  have hTold : Hid (∀ k, k < ts.length → 0 ≤ ms.getD k 0 ∧ ms.getD k 0 ≤ 120 ∧ out.getD k TripV.zero = movedT (ts.getD k TripV.zero) (ms.getD k 0)) := hide (fun k hk => hTo.told hk)
  have q1 : ((out.length : Int) != (ts.length : Int)) = false := by rw [hol]; simp
  have q2 : ((ms.length : Int) != (ts.length : Int)) = false := by rw [hml]; simp
  have q3 : ((out.length : Int) == 0) = false := by rw [hol]; exact beq_false_of_ne (by omega)
  have hol2 : ts.length ≤ out.length := by omega
  have hml2 : ts.length ≤ ms.length := by omega
  replace hol := hide hol
  replace hml := hide hml
  clear hA hTo
  obtain ⟨⟨x0, x1⟩, -⟩ := blk2 X
  go_wp2_with fail
  clear x0 x1
  refine (cCleanI ea ec n es oa oc out h _ hE (by omega) T.trips hSo).mono ?_
  rintro e w6 ⟨r, rfl, hr, hb6⟩
  obtain rfl : r = true := hr.2 hCo.out
  clear hr
  replace hb := btrans hb hb6
  replace X := blk_keep hb6 X
  replace hE := hE.below hb6
  replace hT := hT.below hb6
  replace T := T.below hb6
  replace O := own_keep O hb6
  clear hb6
  go_wp2
  clear q1 q2 q3
  go_loopw [10] (fun i wr => ∃ k : Nat, k ≤ ts.length ∧ i = .int .i64 k ∧ Below w6.heap.size w6 wr) (fun i _ => ts.length - (intOf i).toNat)
  case atStart => exact ⟨0, Nat.zero_le _, rfl, Below.refl _ _⟩
  case round =>
    obtain ⟨k, hk, rfl, hbk⟩ := hrel
    replace hb := btrans hb hbk
    replace X := blk_keep hbk X
    replace hE := hE.below hbk
    replace hT := hT.below hbk
    replace T := T.below hbk
    replace O := own_keep O hbk
    by_cases hlt : k < ts.length
    · have hlt' : (k : Int) < (ts.length : Int) := by omega
      have hlo : (k : Int) < (out.length : Int) := by omega
      have hlm : (k : Int) < (ms.length : Int) := by omega
      have hk0 : (0 : Int) ≤ (k : Int) := by omega
      have hw1 : IntKind.i64.wrap ((k : Int) + 1) = (k : Int) + 1 := wrap_in _ (by omega) (by omega)
      have hD : Below wr.heap.size wr wr.drew := bdraw (Below.refl _ _) 1
      obtain ⟨b, off, ca, cc, rfl, c1, c2, hcap, c3⟩ := hT.at hlt
      obtain ⟨b2, off2, ca2, cc2, ho2, d1, d2, -, d3⟩ := T.trips.at (show k < out.length by omega)
      subst ho2
      obtain ⟨mg, hmg, m1⟩ := int_at O (show k < ms.length by omega)
      subst hmg
      have hsm := small_at hS hlt
      have hsm2 := small_at hSo (show k < out.length by omega)
      obtain ⟨t1, t2, t3⟩ := hTold.out k hlt
      rw [t3] at d1 d2 d3 hsm2
      generalize ms.getD k 0 = r at *
      generalize ts.getD k TripV.zero = t at *
      obtain ⟨s, cs⟩ := t
      dsimp only at c1 c2 hcap c3 hsm
      have M := cMovedI s ca cc cs r wr.drew (c3.below hD) hsm.2 hcap
      generalize movedT ⟨s, cs⟩ r = tm at *
      obtain ⟨sm, cm⟩ := tm
      dsimp only at *
      have CT := fun (qa : Option Addr) (qc : Nat) (w' : World) (g1 : Halts w' ca2 cm) (g2 : Halts w' qa cm) => cSameT sm ca2 qa cc2 qc cm w' g1 g2 hsm2.2
      have z1 : decide (r < 0) = false := decide_eq_false (by omega)
      have z2 : decide (120 < r) = false := decide_eq_false (by omega)
      clear hE hT T O X c3 hTold hCo hZ t3
      go_wp2_with fail
      refine wp_region_held_drew (S := (fun w' => w'.cell? ⟨mg, k, none⟩ = some (.int .i64 r) ∧ w'.cell? ⟨b2, off2 + k * 2, none⟩ = some (.string sm) ∧ w'.cell? ⟨b2, off2 + k * 2 + 1, none⟩ = some (.slice ca2 cm.length cc2) ∧ w'.cell? ⟨b, off + k * 2, none⟩ = some (.string s) ∧ w'.cell? ⟨b, off + k * 2 + 1, none⟩ = some (.slice ca cs.length cc))) (by kernel_rfl) ?_ (fun hHeld => ?_)
      · go_keep
      refine wpAnyH_take (i := 0) (v := .slice (some ⟨mg, 0, none⟩) ms.length mc) rfl (by kernel_rfl) (by kernel_rfl) (by kernel_rfl) (fun _ _ _ h => h) (Or.inl ⟨by kernel_rfl, fun w hS => by go_simp⟩) hHeld ?_
      change wpAnyH _ _ _ _ _ _ _ { tmps := List.toArray (_ :: _ :: _ :: _ :: .slice (some ⟨b, off, none⟩) ts.length cp :: _ :: .slice (some ⟨b2, off2, none⟩) out.length oc :: .slice (some ⟨mg, 0, none⟩) ms.length mc :: _ :: _ :: .int .i64 (k : Int) :: _ :: _ :: _ :: _ :: _ :: _ :: _ :: _ :: _ :: _ :: _ :: _ :: _ :: _ :: _ :: _ :: _ :: _ :: _ :: _ :: _ :: _ :: _ :: _ :: _ :: _ :: _ :: _ :: _ :: _ :: _ :: _ :: _ :: _ :: _ :: _ :: _ :: _ :: _ :: _ :: _ :: _ :: _ :: _ :: _ :: _ :: _ :: _ :: _ :: _ :: _ :: _ :: _ :: _ :: _ :: _ :: _ :: _ :: _ :: _ :: _ :: _ :: _ :: _ :: _ :: _ :: _ :: _ :: _ :: _ :: _ :: _ :: _ :: _ :: _ :: .slice (some ⟨mg, 0, none⟩) ms.length mc :: _ :: _ :: _ :: _ :: _ :: _ :: _ :: _ :: _ :: _ :: _ :: _ :: _ :: _ :: _ :: _ :: _ :: _ :: _ :: _ :: _ :: _ :: _ :: _ :: _ :: _ :: _ :: _ :: _ :: _ :: _ :: _ :: _ :: _ :: _ :: _ :: _ :: _ :: _ :: _ :: _ :: _ :: _ :: _ :: _ :: _ :: _ :: _ :: _ :: _ :: _ :: _ :: _ :: _ :: _ :: []), defers := [] } _
      refine wpAnyH_take (i := 1) (v := .int .i64 (k : Int)) rfl (by kernel_rfl) (by kernel_rfl) (by kernel_rfl) (fun _ _ _ h => h) (Or.inl ⟨by kernel_rfl, fun w hS => by go_simp⟩) hHeld ?_
      change wpAnyH _ _ _ _ _ _ _ { tmps := List.toArray (_ :: _ :: _ :: _ :: .slice (some ⟨b, off, none⟩) ts.length cp :: _ :: .slice (some ⟨b2, off2, none⟩) out.length oc :: .slice (some ⟨mg, 0, none⟩) ms.length mc :: _ :: _ :: .int .i64 (k : Int) :: _ :: _ :: _ :: _ :: _ :: _ :: _ :: _ :: _ :: _ :: _ :: _ :: _ :: _ :: _ :: _ :: _ :: _ :: _ :: _ :: _ :: _ :: _ :: _ :: _ :: _ :: _ :: _ :: _ :: _ :: _ :: _ :: _ :: _ :: _ :: _ :: _ :: _ :: _ :: _ :: _ :: _ :: _ :: _ :: _ :: _ :: _ :: _ :: _ :: _ :: _ :: _ :: _ :: _ :: _ :: _ :: _ :: _ :: _ :: _ :: _ :: _ :: _ :: _ :: _ :: _ :: _ :: _ :: _ :: _ :: _ :: _ :: _ :: _ :: _ :: .slice (some ⟨mg, 0, none⟩) ms.length mc :: .int .i64 (k : Int) :: _ :: _ :: _ :: _ :: _ :: _ :: _ :: _ :: _ :: _ :: _ :: _ :: _ :: _ :: _ :: _ :: _ :: _ :: _ :: _ :: _ :: _ :: _ :: _ :: _ :: _ :: _ :: _ :: _ :: _ :: _ :: _ :: _ :: _ :: _ :: _ :: _ :: _ :: _ :: _ :: _ :: _ :: _ :: _ :: _ :: _ :: _ :: _ :: _ :: _ :: _ :: _ :: _ :: _ :: []), defers := [] } _
      refine wpAnyH_take (i := 2) (v := .pointer (some ⟨mg, k, none⟩)) rfl (by kernel_rfl) (by kernel_rfl) (by kernel_rfl) (fun _ _ _ h => h) (Or.inl ⟨by kernel_rfl, fun w hS => by go_simp⟩) hHeld ?_
      change wpAnyH _ _ _ _ _ _ _ { tmps := List.toArray (_ :: _ :: _ :: _ :: .slice (some ⟨b, off, none⟩) ts.length cp :: _ :: .slice (some ⟨b2, off2, none⟩) out.length oc :: .slice (some ⟨mg, 0, none⟩) ms.length mc :: _ :: _ :: .int .i64 (k : Int) :: _ :: _ :: _ :: _ :: _ :: _ :: _ :: _ :: _ :: _ :: _ :: _ :: _ :: _ :: _ :: _ :: _ :: _ :: _ :: _ :: _ :: _ :: _ :: _ :: _ :: _ :: _ :: _ :: _ :: _ :: _ :: _ :: _ :: _ :: _ :: _ :: _ :: _ :: _ :: _ :: _ :: _ :: _ :: _ :: _ :: _ :: _ :: _ :: _ :: _ :: _ :: _ :: _ :: _ :: _ :: _ :: _ :: _ :: _ :: _ :: _ :: _ :: _ :: _ :: _ :: _ :: _ :: _ :: _ :: _ :: _ :: _ :: _ :: _ :: _ :: .slice (some ⟨mg, 0, none⟩) ms.length mc :: .int .i64 (k : Int) :: .pointer (some ⟨mg, k, none⟩) :: _ :: _ :: _ :: _ :: _ :: _ :: _ :: _ :: _ :: _ :: _ :: _ :: _ :: _ :: _ :: _ :: _ :: _ :: _ :: _ :: _ :: _ :: _ :: _ :: _ :: _ :: _ :: _ :: _ :: _ :: _ :: _ :: _ :: _ :: _ :: _ :: _ :: _ :: _ :: _ :: _ :: _ :: _ :: _ :: _ :: _ :: _ :: _ :: _ :: _ :: _ :: _ :: _ :: []), defers := [] } _
      refine wpAnyH_take (i := 3) (v := .int .i64 r) rfl (by kernel_rfl) (by kernel_rfl) (by kernel_rfl) (fun _ _ _ h => h) (Or.inl ⟨by kernel_rfl, fun w hS => by (obtain ⟨hS0, hS1, hS2, hS3, hS4⟩ := hS; go_simp)⟩) hHeld ?_
      change wpAnyH _ _ _ _ _ _ _ { tmps := List.toArray (_ :: _ :: _ :: _ :: .slice (some ⟨b, off, none⟩) ts.length cp :: _ :: .slice (some ⟨b2, off2, none⟩) out.length oc :: .slice (some ⟨mg, 0, none⟩) ms.length mc :: _ :: _ :: .int .i64 (k : Int) :: _ :: _ :: _ :: _ :: _ :: _ :: _ :: _ :: _ :: _ :: _ :: _ :: _ :: _ :: _ :: _ :: _ :: _ :: _ :: _ :: _ :: _ :: _ :: _ :: _ :: _ :: _ :: _ :: _ :: _ :: _ :: _ :: _ :: _ :: _ :: _ :: _ :: _ :: _ :: _ :: _ :: _ :: _ :: _ :: _ :: _ :: _ :: _ :: _ :: _ :: _ :: _ :: _ :: _ :: _ :: _ :: _ :: _ :: _ :: _ :: _ :: _ :: _ :: _ :: _ :: _ :: _ :: _ :: _ :: _ :: _ :: _ :: _ :: _ :: _ :: .slice (some ⟨mg, 0, none⟩) ms.length mc :: .int .i64 (k : Int) :: .pointer (some ⟨mg, k, none⟩) :: .int .i64 r :: _ :: _ :: _ :: _ :: _ :: _ :: _ :: _ :: _ :: _ :: _ :: _ :: _ :: _ :: _ :: _ :: _ :: _ :: _ :: _ :: _ :: _ :: _ :: _ :: _ :: _ :: _ :: _ :: _ :: _ :: _ :: _ :: _ :: _ :: _ :: _ :: _ :: _ :: _ :: _ :: _ :: _ :: _ :: _ :: _ :: _ :: _ :: _ :: _ :: _ :: _ :: _ :: []), defers := [] } _
      refine wpAnyH_take (i := 4) (v := .bool false) rfl (by kernel_rfl) (by kernel_rfl) (by kernel_rfl) (fun _ _ _ h => h) (Or.inl ⟨by kernel_rfl, fun w hS => by go_simp⟩) hHeld ?_
      change wpAnyH _ _ _ _ _ _ _ { tmps := List.toArray (_ :: _ :: _ :: _ :: .slice (some ⟨b, off, none⟩) ts.length cp :: _ :: .slice (some ⟨b2, off2, none⟩) out.length oc :: .slice (some ⟨mg, 0, none⟩) ms.length mc :: _ :: _ :: .int .i64 (k : Int) :: _ :: _ :: _ :: _ :: _ :: _ :: _ :: _ :: _ :: _ :: _ :: _ :: _ :: _ :: _ :: _ :: _ :: _ :: _ :: _ :: _ :: _ :: _ :: _ :: _ :: _ :: _ :: _ :: _ :: _ :: _ :: _ :: _ :: _ :: _ :: _ :: _ :: _ :: _ :: _ :: _ :: _ :: _ :: _ :: _ :: _ :: _ :: _ :: _ :: _ :: _ :: _ :: _ :: _ :: _ :: _ :: _ :: _ :: _ :: _ :: _ :: _ :: _ :: _ :: _ :: _ :: _ :: _ :: _ :: _ :: _ :: _ :: _ :: _ :: _ :: .slice (some ⟨mg, 0, none⟩) ms.length mc :: .int .i64 (k : Int) :: .pointer (some ⟨mg, k, none⟩) :: .int .i64 r :: .bool false :: _ :: _ :: _ :: _ :: _ :: _ :: _ :: _ :: _ :: _ :: _ :: _ :: _ :: _ :: _ :: _ :: _ :: _ :: _ :: _ :: _ :: _ :: _ :: _ :: _ :: _ :: _ :: _ :: _ :: _ :: _ :: _ :: _ :: _ :: _ :: _ :: _ :: _ :: _ :: _ :: _ :: _ :: _ :: _ :: _ :: _ :: _ :: _ :: _ :: _ :: _ :: []), defers := [] } _
      refine wpAnyH_take (i := 5) (v := .bool false) rfl (by kernel_rfl) (by kernel_rfl) (by kernel_rfl) (fun _ _ _ h => h) (Or.inl ⟨by kernel_rfl, fun w hS => by go_simp⟩) hHeld ?_
      change wpAnyH _ _ _ _ _ _ _ { tmps := List.toArray (_ :: _ :: _ :: _ :: .slice (some ⟨b, off, none⟩) ts.length cp :: _ :: .slice (some ⟨b2, off2, none⟩) out.length oc :: .slice (some ⟨mg, 0, none⟩) ms.length mc :: _ :: _ :: .int .i64 (k : Int) :: _ :: _ :: _ :: _ :: _ :: _ :: _ :: _ :: _ :: _ :: _ :: _ :: _ :: _ :: _ :: _ :: _ :: _ :: _ :: _ :: _ :: _ :: _ :: _ :: _ :: _ :: _ :: _ :: _ :: _ :: _ :: _ :: _ :: _ :: _ :: _ :: _ :: _ :: _ :: _ :: _ :: _ :: _ :: _ :: _ :: _ :: _ :: _ :: _ :: _ :: _ :: _ :: _ :: _ :: _ :: _ :: _ :: _ :: _ :: _ :: _ :: _ :: _ :: _ :: _ :: _ :: _ :: _ :: _ :: _ :: _ :: _ :: _ :: _ :: _ :: .slice (some ⟨mg, 0, none⟩) ms.length mc :: .int .i64 (k : Int) :: .pointer (some ⟨mg, k, none⟩) :: .int .i64 r :: .bool false :: .bool false :: _ :: _ :: _ :: _ :: _ :: _ :: _ :: _ :: _ :: _ :: _ :: _ :: _ :: _ :: _ :: _ :: _ :: _ :: _ :: _ :: _ :: _ :: _ :: _ :: _ :: _ :: _ :: _ :: _ :: _ :: _ :: _ :: _ :: _ :: _ :: _ :: _ :: _ :: _ :: _ :: _ :: _ :: _ :: _ :: _ :: _ :: _ :: _ :: _ :: _ :: []), defers := [] } _
      refine wpAnyH_take (i := 6) (v := .slice (some ⟨mg, 0, none⟩) ms.length mc) rfl (by kernel_rfl) (by kernel_rfl) (by kernel_rfl) (fun _ _ _ h => h) (Or.inl ⟨by kernel_rfl, fun w hS => by go_simp⟩) hHeld ?_
      change wpAnyH _ _ _ _ _ _ _ { tmps := List.toArray (_ :: _ :: _ :: _ :: .slice (some ⟨b, off, none⟩) ts.length cp :: _ :: .slice (some ⟨b2, off2, none⟩) out.length oc :: .slice (some ⟨mg, 0, none⟩) ms.length mc :: _ :: _ :: .int .i64 (k : Int) :: _ :: _ :: _ :: _ :: _ :: _ :: _ :: _ :: _ :: _ :: _ :: _ :: _ :: _ :: _ :: _ :: _ :: _ :: _ :: _ :: _ :: _ :: _ :: _ :: _ :: _ :: _ :: _ :: _ :: _ :: _ :: _ :: _ :: _ :: _ :: _ :: _ :: _ :: _ :: _ :: _ :: _ :: _ :: _ :: _ :: _ :: _ :: _ :: _ :: _ :: _ :: _ :: _ :: _ :: _ :: _ :: _ :: _ :: _ :: _ :: _ :: _ :: _ :: _ :: _ :: _ :: _ :: _ :: _ :: _ :: _ :: _ :: _ :: _ :: _ :: .slice (some ⟨mg, 0, none⟩) ms.length mc :: .int .i64 (k : Int) :: .pointer (some ⟨mg, k, none⟩) :: .int .i64 r :: .bool false :: .bool false :: .slice (some ⟨mg, 0, none⟩) ms.length mc :: _ :: _ :: _ :: _ :: _ :: _ :: _ :: _ :: _ :: _ :: _ :: _ :: _ :: _ :: _ :: _ :: _ :: _ :: _ :: _ :: _ :: _ :: _ :: _ :: _ :: _ :: _ :: _ :: _ :: _ :: _ :: _ :: _ :: _ :: _ :: _ :: _ :: _ :: _ :: _ :: _ :: _ :: _ :: _ :: _ :: _ :: _ :: _ :: _ :: []), defers := [] } _
      refine wpAnyH_take (i := 7) (v := .int .i64 (k : Int)) rfl (by kernel_rfl) (by kernel_rfl) (by kernel_rfl) (fun _ _ _ h => h) (Or.inl ⟨by kernel_rfl, fun w hS => by go_simp⟩) hHeld ?_
      change wpAnyH _ _ _ _ _ _ _ { tmps := List.toArray (_ :: _ :: _ :: _ :: .slice (some ⟨b, off, none⟩) ts.length cp :: _ :: .slice (some ⟨b2, off2, none⟩) out.length oc :: .slice (some ⟨mg, 0, none⟩) ms.length mc :: _ :: _ :: .int .i64 (k : Int) :: _ :: _ :: _ :: _ :: _ :: _ :: _ :: _ :: _ :: _ :: _ :: _ :: _ :: _ :: _ :: _ :: _ :: _ :: _ :: _ :: _ :: _ :: _ :: _ :: _ :: _ :: _ :: _ :: _ :: _ :: _ :: _ :: _ :: _ :: _ :: _ :: _ :: _ :: _ :: _ :: _ :: _ :: _ :: _ :: _ :: _ :: _ :: _ :: _ :: _ :: _ :: _ :: _ :: _ :: _ :: _ :: _ :: _ :: _ :: _ :: _ :: _ :: _ :: _ :: _ :: _ :: _ :: _ :: _ :: _ :: _ :: _ :: _ :: _ :: _ :: .slice (some ⟨mg, 0, none⟩) ms.length mc :: .int .i64 (k : Int) :: .pointer (some ⟨mg, k, none⟩) :: .int .i64 r :: .bool false :: .bool false :: .slice (some ⟨mg, 0, none⟩) ms.length mc :: .int .i64 (k : Int) :: _ :: _ :: _ :: _ :: _ :: _ :: _ :: _ :: _ :: _ :: _ :: _ :: _ :: _ :: _ :: _ :: _ :: _ :: _ :: _ :: _ :: _ :: _ :: _ :: _ :: _ :: _ :: _ :: _ :: _ :: _ :: _ :: _ :: _ :: _ :: _ :: _ :: _ :: _ :: _ :: _ :: _ :: _ :: _ :: _ :: _ :: _ :: _ :: []), defers := [] } _
      refine wpAnyH_take (i := 8) (v := .pointer (some ⟨mg, k, none⟩)) rfl (by kernel_rfl) (by kernel_rfl) (by kernel_rfl) (fun _ _ _ h => h) (Or.inl ⟨by kernel_rfl, fun w hS => by go_simp⟩) hHeld ?_
      change wpAnyH _ _ _ _ _ _ _ { tmps := List.toArray (_ :: _ :: _ :: _ :: .slice (some ⟨b, off, none⟩) ts.length cp :: _ :: .slice (some ⟨b2, off2, none⟩) out.length oc :: .slice (some ⟨mg, 0, none⟩) ms.length mc :: _ :: _ :: .int .i64 (k : Int) :: _ :: _ :: _ :: _ :: _ :: _ :: _ :: _ :: _ :: _ :: _ :: _ :: _ :: _ :: _ :: _ :: _ :: _ :: _ :: _ :: _ :: _ :: _ :: _ :: _ :: _ :: _ :: _ :: _ :: _ :: _ :: _ :: _ :: _ :: _ :: _ :: _ :: _ :: _ :: _ :: _ :: _ :: _ :: _ :: _ :: _ :: _ :: _ :: _ :: _ :: _ :: _ :: _ :: _ :: _ :: _ :: _ :: _ :: _ :: _ :: _ :: _ :: _ :: _ :: _ :: _ :: _ :: _ :: _ :: _ :: _ :: _ :: _ :: _ :: _ :: .slice (some ⟨mg, 0, none⟩) ms.length mc :: .int .i64 (k : Int) :: .pointer (some ⟨mg, k, none⟩) :: .int .i64 r :: .bool false :: .bool false :: .slice (some ⟨mg, 0, none⟩) ms.length mc :: .int .i64 (k : Int) :: .pointer (some ⟨mg, k, none⟩) :: _ :: _ :: _ :: _ :: _ :: _ :: _ :: _ :: _ :: _ :: _ :: _ :: _ :: _ :: _ :: _ :: _ :: _ :: _ :: _ :: _ :: _ :: _ :: _ :: _ :: _ :: _ :: _ :: _ :: _ :: _ :: _ :: _ :: _ :: _ :: _ :: _ :: _ :: _ :: _ :: _ :: _ :: _ :: _ :: _ :: _ :: _ :: []), defers := [] } _
      refine wpAnyH_take (i := 9) (v := .int .i64 r) rfl (by kernel_rfl) (by kernel_rfl) (by kernel_rfl) (fun _ _ _ h => h) (Or.inl ⟨by kernel_rfl, fun w hS => by (obtain ⟨hS0, hS1, hS2, hS3, hS4⟩ := hS; go_simp)⟩) hHeld ?_
      change wpAnyH _ _ _ _ _ _ _ { tmps := List.toArray (_ :: _ :: _ :: _ :: .slice (some ⟨b, off, none⟩) ts.length cp :: _ :: .slice (some ⟨b2, off2, none⟩) out.length oc :: .slice (some ⟨mg, 0, none⟩) ms.length mc :: _ :: _ :: .int .i64 (k : Int) :: _ :: _ :: _ :: _ :: _ :: _ :: _ :: _ :: _ :: _ :: _ :: _ :: _ :: _ :: _ :: _ :: _ :: _ :: _ :: _ :: _ :: _ :: _ :: _ :: _ :: _ :: _ :: _ :: _ :: _ :: _ :: _ :: _ :: _ :: _ :: _ :: _ :: _ :: _ :: _ :: _ :: _ :: _ :: _ :: _ :: _ :: _ :: _ :: _ :: _ :: _ :: _ :: _ :: _ :: _ :: _ :: _ :: _ :: _ :: _ :: _ :: _ :: _ :: _ :: _ :: _ :: _ :: _ :: _ :: _ :: _ :: _ :: _ :: _ :: _ :: .slice (some ⟨mg, 0, none⟩) ms.length mc :: .int .i64 (k : Int) :: .pointer (some ⟨mg, k, none⟩) :: .int .i64 r :: .bool false :: .bool false :: .slice (some ⟨mg, 0, none⟩) ms.length mc :: .int .i64 (k : Int) :: .pointer (some ⟨mg, k, none⟩) :: .int .i64 r :: _ :: _ :: _ :: _ :: _ :: _ :: _ :: _ :: _ :: _ :: _ :: _ :: _ :: _ :: _ :: _ :: _ :: _ :: _ :: _ :: _ :: _ :: _ :: _ :: _ :: _ :: _ :: _ :: _ :: _ :: _ :: _ :: _ :: _ :: _ :: _ :: _ :: _ :: _ :: _ :: _ :: _ :: _ :: _ :: _ :: _ :: []), defers := [] } _
      refine wpAnyH_take (i := 10) (v := .bool false) rfl (by kernel_rfl) (by kernel_rfl) (by kernel_rfl) (fun _ _ _ h => h) (Or.inl ⟨by kernel_rfl, fun w hS => by go_simp⟩) hHeld ?_
      change wpAnyH _ _ _ _ _ _ _ { tmps := List.toArray (_ :: _ :: _ :: _ :: .slice (some ⟨b, off, none⟩) ts.length cp :: _ :: .slice (some ⟨b2, off2, none⟩) out.length oc :: .slice (some ⟨mg, 0, none⟩) ms.length mc :: _ :: _ :: .int .i64 (k : Int) :: _ :: _ :: _ :: _ :: _ :: _ :: _ :: _ :: _ :: _ :: _ :: _ :: _ :: _ :: _ :: _ :: _ :: _ :: _ :: _ :: _ :: _ :: _ :: _ :: _ :: _ :: _ :: _ :: _ :: _ :: _ :: _ :: _ :: _ :: _ :: _ :: _ :: _ :: _ :: _ :: _ :: _ :: _ :: _ :: _ :: _ :: _ :: _ :: _ :: _ :: _ :: _ :: _ :: _ :: _ :: _ :: _ :: _ :: _ :: _ :: _ :: _ :: _ :: _ :: _ :: _ :: _ :: _ :: _ :: _ :: _ :: _ :: _ :: _ :: _ :: .slice (some ⟨mg, 0, none⟩) ms.length mc :: .int .i64 (k : Int) :: .pointer (some ⟨mg, k, none⟩) :: .int .i64 r :: .bool false :: .bool false :: .slice (some ⟨mg, 0, none⟩) ms.length mc :: .int .i64 (k : Int) :: .pointer (some ⟨mg, k, none⟩) :: .int .i64 r :: .bool false :: _ :: _ :: _ :: _ :: _ :: _ :: _ :: _ :: _ :: _ :: _ :: _ :: _ :: _ :: _ :: _ :: _ :: _ :: _ :: _ :: _ :: _ :: _ :: _ :: _ :: _ :: _ :: _ :: _ :: _ :: _ :: _ :: _ :: _ :: _ :: _ :: _ :: _ :: _ :: _ :: _ :: _ :: _ :: _ :: _ :: []), defers := [] } _
      refine wpAnyH_take (i := 11) (v := .bool false) rfl (by kernel_rfl) (by kernel_rfl) (by kernel_rfl) (fun _ _ _ h => h) (Or.inl ⟨by kernel_rfl, fun w hS => by go_simp⟩) hHeld ?_
      change wpAnyH _ _ _ _ _ _ _ { tmps := List.toArray (_ :: _ :: _ :: _ :: .slice (some ⟨b, off, none⟩) ts.length cp :: _ :: .slice (some ⟨b2, off2, none⟩) out.length oc :: .slice (some ⟨mg, 0, none⟩) ms.length mc :: _ :: _ :: .int .i64 (k : Int) :: _ :: _ :: _ :: _ :: _ :: _ :: _ :: _ :: _ :: _ :: _ :: _ :: _ :: _ :: _ :: _ :: _ :: _ :: _ :: _ :: _ :: _ :: _ :: _ :: _ :: _ :: _ :: _ :: _ :: _ :: _ :: _ :: _ :: _ :: _ :: _ :: _ :: _ :: _ :: _ :: _ :: _ :: _ :: _ :: _ :: _ :: _ :: _ :: _ :: _ :: _ :: _ :: _ :: _ :: _ :: _ :: _ :: _ :: _ :: _ :: _ :: _ :: _ :: _ :: _ :: _ :: _ :: _ :: _ :: _ :: _ :: _ :: _ :: _ :: _ :: .slice (some ⟨mg, 0, none⟩) ms.length mc :: .int .i64 (k : Int) :: .pointer (some ⟨mg, k, none⟩) :: .int .i64 r :: .bool false :: .bool false :: .slice (some ⟨mg, 0, none⟩) ms.length mc :: .int .i64 (k : Int) :: .pointer (some ⟨mg, k, none⟩) :: .int .i64 r :: .bool false :: .bool false :: _ :: _ :: _ :: _ :: _ :: _ :: _ :: _ :: _ :: _ :: _ :: _ :: _ :: _ :: _ :: _ :: _ :: _ :: _ :: _ :: _ :: _ :: _ :: _ :: _ :: _ :: _ :: _ :: _ :: _ :: _ :: _ :: _ :: _ :: _ :: _ :: _ :: _ :: _ :: _ :: _ :: _ :: _ :: _ :: []), defers := [] } _
      refine wpAnyH_take (i := 12) (v := .bool false) rfl (by kernel_rfl) (by kernel_rfl) (by kernel_rfl) (fun _ _ _ h => h) (Or.inl ⟨by kernel_rfl, fun w hS => by go_simp⟩) hHeld ?_
      change wpAnyH _ _ _ _ _ _ _ { tmps := List.toArray (_ :: _ :: _ :: _ :: .slice (some ⟨b, off, none⟩) ts.length cp :: _ :: .slice (some ⟨b2, off2, none⟩) out.length oc :: .slice (some ⟨mg, 0, none⟩) ms.length mc :: _ :: _ :: .int .i64 (k : Int) :: _ :: _ :: _ :: _ :: _ :: _ :: _ :: _ :: _ :: _ :: _ :: _ :: _ :: _ :: _ :: _ :: _ :: _ :: _ :: _ :: _ :: _ :: _ :: _ :: _ :: _ :: _ :: _ :: _ :: _ :: _ :: _ :: _ :: _ :: _ :: _ :: _ :: _ :: _ :: _ :: _ :: _ :: _ :: _ :: _ :: _ :: _ :: _ :: _ :: _ :: _ :: _ :: _ :: _ :: _ :: _ :: _ :: _ :: _ :: _ :: _ :: _ :: _ :: _ :: _ :: _ :: _ :: _ :: _ :: _ :: _ :: _ :: _ :: _ :: _ :: .slice (some ⟨mg, 0, none⟩) ms.length mc :: .int .i64 (k : Int) :: .pointer (some ⟨mg, k, none⟩) :: .int .i64 r :: .bool false :: .bool false :: .slice (some ⟨mg, 0, none⟩) ms.length mc :: .int .i64 (k : Int) :: .pointer (some ⟨mg, k, none⟩) :: .int .i64 r :: .bool false :: .bool false :: .bool false :: _ :: _ :: _ :: _ :: _ :: _ :: _ :: _ :: _ :: _ :: _ :: _ :: _ :: _ :: _ :: _ :: _ :: _ :: _ :: _ :: _ :: _ :: _ :: _ :: _ :: _ :: _ :: _ :: _ :: _ :: _ :: _ :: _ :: _ :: _ :: _ :: _ :: _ :: _ :: _ :: _ :: _ :: _ :: []), defers := [] } _
      refine wpAnyH_take (i := 13) (v := .slice (some ⟨b2, off2, none⟩) out.length oc) rfl (by kernel_rfl) (by kernel_rfl) (by kernel_rfl) (fun _ _ _ h => h) (Or.inl ⟨by kernel_rfl, fun w hS => by go_simp⟩) hHeld ?_
      change wpAnyH _ _ _ _ _ _ _ { tmps := List.toArray (_ :: _ :: _ :: _ :: .slice (some ⟨b, off, none⟩) ts.length cp :: _ :: .slice (some ⟨b2, off2, none⟩) out.length oc :: .slice (some ⟨mg, 0, none⟩) ms.length mc :: _ :: _ :: .int .i64 (k : Int) :: _ :: _ :: _ :: _ :: _ :: _ :: _ :: _ :: _ :: _ :: _ :: _ :: _ :: _ :: _ :: _ :: _ :: _ :: _ :: _ :: _ :: _ :: _ :: _ :: _ :: _ :: _ :: _ :: _ :: _ :: _ :: _ :: _ :: _ :: _ :: _ :: _ :: _ :: _ :: _ :: _ :: _ :: _ :: _ :: _ :: _ :: _ :: _ :: _ :: _ :: _ :: _ :: _ :: _ :: _ :: _ :: _ :: _ :: _ :: _ :: _ :: _ :: _ :: _ :: _ :: _ :: _ :: _ :: _ :: _ :: _ :: _ :: _ :: _ :: _ :: .slice (some ⟨mg, 0, none⟩) ms.length mc :: .int .i64 (k : Int) :: .pointer (some ⟨mg, k, none⟩) :: .int .i64 r :: .bool false :: .bool false :: .slice (some ⟨mg, 0, none⟩) ms.length mc :: .int .i64 (k : Int) :: .pointer (some ⟨mg, k, none⟩) :: .int .i64 r :: .bool false :: .bool false :: .bool false :: .slice (some ⟨b2, off2, none⟩) out.length oc :: _ :: _ :: _ :: _ :: _ :: _ :: _ :: _ :: _ :: _ :: _ :: _ :: _ :: _ :: _ :: _ :: _ :: _ :: _ :: _ :: _ :: _ :: _ :: _ :: _ :: _ :: _ :: _ :: _ :: _ :: _ :: _ :: _ :: _ :: _ :: _ :: _ :: _ :: _ :: _ :: _ :: _ :: []), defers := [] } _
      refine wpAnyH_take (i := 14) (v := .int .i64 (k : Int)) rfl (by kernel_rfl) (by kernel_rfl) (by kernel_rfl) (fun _ _ _ h => h) (Or.inl ⟨by kernel_rfl, fun w hS => by go_simp⟩) hHeld ?_
      change wpAnyH _ _ _ _ _ _ _ { tmps := List.toArray (_ :: _ :: _ :: _ :: .slice (some ⟨b, off, none⟩) ts.length cp :: _ :: .slice (some ⟨b2, off2, none⟩) out.length oc :: .slice (some ⟨mg, 0, none⟩) ms.length mc :: _ :: _ :: .int .i64 (k : Int) :: _ :: _ :: _ :: _ :: _ :: _ :: _ :: _ :: _ :: _ :: _ :: _ :: _ :: _ :: _ :: _ :: _ :: _ :: _ :: _ :: _ :: _ :: _ :: _ :: _ :: _ :: _ :: _ :: _ :: _ :: _ :: _ :: _ :: _ :: _ :: _ :: _ :: _ :: _ :: _ :: _ :: _ :: _ :: _ :: _ :: _ :: _ :: _ :: _ :: _ :: _ :: _ :: _ :: _ :: _ :: _ :: _ :: _ :: _ :: _ :: _ :: _ :: _ :: _ :: _ :: _ :: _ :: _ :: _ :: _ :: _ :: _ :: _ :: _ :: _ :: .slice (some ⟨mg, 0, none⟩) ms.length mc :: .int .i64 (k : Int) :: .pointer (some ⟨mg, k, none⟩) :: .int .i64 r :: .bool false :: .bool false :: .slice (some ⟨mg, 0, none⟩) ms.length mc :: .int .i64 (k : Int) :: .pointer (some ⟨mg, k, none⟩) :: .int .i64 r :: .bool false :: .bool false :: .bool false :: .slice (some ⟨b2, off2, none⟩) out.length oc :: .int .i64 (k : Int) :: _ :: _ :: _ :: _ :: _ :: _ :: _ :: _ :: _ :: _ :: _ :: _ :: _ :: _ :: _ :: _ :: _ :: _ :: _ :: _ :: _ :: _ :: _ :: _ :: _ :: _ :: _ :: _ :: _ :: _ :: _ :: _ :: _ :: _ :: _ :: _ :: _ :: _ :: _ :: _ :: _ :: []), defers := [] } _
      refine wpAnyH_take (i := 15) (v := .pointer (some ⟨b2, off2 + k * 2, none⟩)) rfl (by kernel_rfl) (by kernel_rfl) (by kernel_rfl) (fun _ _ _ h => h) (Or.inl ⟨by kernel_rfl, fun w hS => by go_simp⟩) hHeld ?_
      change wpAnyH _ _ _ _ _ _ _ { tmps := List.toArray (_ :: _ :: _ :: _ :: .slice (some ⟨b, off, none⟩) ts.length cp :: _ :: .slice (some ⟨b2, off2, none⟩) out.length oc :: .slice (some ⟨mg, 0, none⟩) ms.length mc :: _ :: _ :: .int .i64 (k : Int) :: _ :: _ :: _ :: _ :: _ :: _ :: _ :: _ :: _ :: _ :: _ :: _ :: _ :: _ :: _ :: _ :: _ :: _ :: _ :: _ :: _ :: _ :: _ :: _ :: _ :: _ :: _ :: _ :: _ :: _ :: _ :: _ :: _ :: _ :: _ :: _ :: _ :: _ :: _ :: _ :: _ :: _ :: _ :: _ :: _ :: _ :: _ :: _ :: _ :: _ :: _ :: _ :: _ :: _ :: _ :: _ :: _ :: _ :: _ :: _ :: _ :: _ :: _ :: _ :: _ :: _ :: _ :: _ :: _ :: _ :: _ :: _ :: _ :: _ :: _ :: .slice (some ⟨mg, 0, none⟩) ms.length mc :: .int .i64 (k : Int) :: .pointer (some ⟨mg, k, none⟩) :: .int .i64 r :: .bool false :: .bool false :: .slice (some ⟨mg, 0, none⟩) ms.length mc :: .int .i64 (k : Int) :: .pointer (some ⟨mg, k, none⟩) :: .int .i64 r :: .bool false :: .bool false :: .bool false :: .slice (some ⟨b2, off2, none⟩) out.length oc :: .int .i64 (k : Int) :: .pointer (some ⟨b2, off2 + k * 2, none⟩) :: _ :: _ :: _ :: _ :: _ :: _ :: _ :: _ :: _ :: _ :: _ :: _ :: _ :: _ :: _ :: _ :: _ :: _ :: _ :: _ :: _ :: _ :: _ :: _ :: _ :: _ :: _ :: _ :: _ :: _ :: _ :: _ :: _ :: _ :: _ :: _ :: _ :: _ :: _ :: _ :: []), defers := [] } _
      refine wpAnyH_take (i := 16) (v := .agg #[.string sm, .slice ca2 cm.length cc2]) rfl (by kernel_rfl) (by kernel_rfl) (by kernel_rfl) (fun _ _ _ h => h) (Or.inl ⟨by kernel_rfl, fun w hS => by (obtain ⟨hS0, hS1, hS2, hS3, hS4⟩ := hS; go_simp)⟩) hHeld ?_
      change wpAnyH _ _ _ _ _ _ _ { tmps := List.toArray (_ :: _ :: _ :: _ :: .slice (some ⟨b, off, none⟩) ts.length cp :: _ :: .slice (some ⟨b2, off2, none⟩) out.length oc :: .slice (some ⟨mg, 0, none⟩) ms.length mc :: _ :: _ :: .int .i64 (k : Int) :: _ :: _ :: _ :: _ :: _ :: _ :: _ :: _ :: _ :: _ :: _ :: _ :: _ :: _ :: _ :: _ :: _ :: _ :: _ :: _ :: _ :: _ :: _ :: _ :: _ :: _ :: _ :: _ :: _ :: _ :: _ :: _ :: _ :: _ :: _ :: _ :: _ :: _ :: _ :: _ :: _ :: _ :: _ :: _ :: _ :: _ :: _ :: _ :: _ :: _ :: _ :: _ :: _ :: _ :: _ :: _ :: _ :: _ :: _ :: _ :: _ :: _ :: _ :: _ :: _ :: _ :: _ :: _ :: _ :: _ :: _ :: _ :: _ :: _ :: _ :: .slice (some ⟨mg, 0, none⟩) ms.length mc :: .int .i64 (k : Int) :: .pointer (some ⟨mg, k, none⟩) :: .int .i64 r :: .bool false :: .bool false :: .slice (some ⟨mg, 0, none⟩) ms.length mc :: .int .i64 (k : Int) :: .pointer (some ⟨mg, k, none⟩) :: .int .i64 r :: .bool false :: .bool false :: .bool false :: .slice (some ⟨b2, off2, none⟩) out.length oc :: .int .i64 (k : Int) :: .pointer (some ⟨b2, off2 + k * 2, none⟩) :: .agg #[.string sm, .slice ca2 cm.length cc2] :: _ :: _ :: _ :: _ :: _ :: _ :: _ :: _ :: _ :: _ :: _ :: _ :: _ :: _ :: _ :: _ :: _ :: _ :: _ :: _ :: _ :: _ :: _ :: _ :: _ :: _ :: _ :: _ :: _ :: _ :: _ :: _ :: _ :: _ :: _ :: _ :: _ :: _ :: _ :: []), defers := [] } _
      refine wpAnyH_take (i := 17) (v := .slice (some ⟨b, off, none⟩) ts.length cp) rfl (by kernel_rfl) (by kernel_rfl) (by kernel_rfl) (fun _ _ _ h => h) (Or.inl ⟨by kernel_rfl, fun w hS => by go_simp⟩) hHeld ?_
      change wpAnyH _ _ _ _ _ _ _ { tmps := List.toArray (_ :: _ :: _ :: _ :: .slice (some ⟨b, off, none⟩) ts.length cp :: _ :: .slice (some ⟨b2, off2, none⟩) out.length oc :: .slice (some ⟨mg, 0, none⟩) ms.length mc :: _ :: _ :: .int .i64 (k : Int) :: _ :: _ :: _ :: _ :: _ :: _ :: _ :: _ :: _ :: _ :: _ :: _ :: _ :: _ :: _ :: _ :: _ :: _ :: _ :: _ :: _ :: _ :: _ :: _ :: _ :: _ :: _ :: _ :: _ :: _ :: _ :: _ :: _ :: _ :: _ :: _ :: _ :: _ :: _ :: _ :: _ :: _ :: _ :: _ :: _ :: _ :: _ :: _ :: _ :: _ :: _ :: _ :: _ :: _ :: _ :: _ :: _ :: _ :: _ :: _ :: _ :: _ :: _ :: _ :: _ :: _ :: _ :: _ :: _ :: _ :: _ :: _ :: _ :: _ :: _ :: .slice (some ⟨mg, 0, none⟩) ms.length mc :: .int .i64 (k : Int) :: .pointer (some ⟨mg, k, none⟩) :: .int .i64 r :: .bool false :: .bool false :: .slice (some ⟨mg, 0, none⟩) ms.length mc :: .int .i64 (k : Int) :: .pointer (some ⟨mg, k, none⟩) :: .int .i64 r :: .bool false :: .bool false :: .bool false :: .slice (some ⟨b2, off2, none⟩) out.length oc :: .int .i64 (k : Int) :: .pointer (some ⟨b2, off2 + k * 2, none⟩) :: .agg #[.string sm, .slice ca2 cm.length cc2] :: .slice (some ⟨b, off, none⟩) ts.length cp :: _ :: _ :: _ :: _ :: _ :: _ :: _ :: _ :: _ :: _ :: _ :: _ :: _ :: _ :: _ :: _ :: _ :: _ :: _ :: _ :: _ :: _ :: _ :: _ :: _ :: _ :: _ :: _ :: _ :: _ :: _ :: _ :: _ :: _ :: _ :: _ :: _ :: _ :: []), defers := [] } _
      refine wpAnyH_take (i := 18) (v := .int .i64 (k : Int)) rfl (by kernel_rfl) (by kernel_rfl) (by kernel_rfl) (fun _ _ _ h => h) (Or.inl ⟨by kernel_rfl, fun w hS => by go_simp⟩) hHeld ?_
      change wpAnyH _ _ _ _ _ _ _ { tmps := List.toArray (_ :: _ :: _ :: _ :: .slice (some ⟨b, off, none⟩) ts.length cp :: _ :: .slice (some ⟨b2, off2, none⟩) out.length oc :: .slice (some ⟨mg, 0, none⟩) ms.length mc :: _ :: _ :: .int .i64 (k : Int) :: _ :: _ :: _ :: _ :: _ :: _ :: _ :: _ :: _ :: _ :: _ :: _ :: _ :: _ :: _ :: _ :: _ :: _ :: _ :: _ :: _ :: _ :: _ :: _ :: _ :: _ :: _ :: _ :: _ :: _ :: _ :: _ :: _ :: _ :: _ :: _ :: _ :: _ :: _ :: _ :: _ :: _ :: _ :: _ :: _ :: _ :: _ :: _ :: _ :: _ :: _ :: _ :: _ :: _ :: _ :: _ :: _ :: _ :: _ :: _ :: _ :: _ :: _ :: _ :: _ :: _ :: _ :: _ :: _ :: _ :: _ :: _ :: _ :: _ :: _ :: .slice (some ⟨mg, 0, none⟩) ms.length mc :: .int .i64 (k : Int) :: .pointer (some ⟨mg, k, none⟩) :: .int .i64 r :: .bool false :: .bool false :: .slice (some ⟨mg, 0, none⟩) ms.length mc :: .int .i64 (k : Int) :: .pointer (some ⟨mg, k, none⟩) :: .int .i64 r :: .bool false :: .bool false :: .bool false :: .slice (some ⟨b2, off2, none⟩) out.length oc :: .int .i64 (k : Int) :: .pointer (some ⟨b2, off2 + k * 2, none⟩) :: .agg #[.string sm, .slice ca2 cm.length cc2] :: .slice (some ⟨b, off, none⟩) ts.length cp :: .int .i64 (k : Int) :: _ :: _ :: _ :: _ :: _ :: _ :: _ :: _ :: _ :: _ :: _ :: _ :: _ :: _ :: _ :: _ :: _ :: _ :: _ :: _ :: _ :: _ :: _ :: _ :: _ :: _ :: _ :: _ :: _ :: _ :: _ :: _ :: _ :: _ :: _ :: _ :: _ :: []), defers := [] } _
      refine wpAnyH_take (i := 19) (v := .pointer (some ⟨b, off + k * 2, none⟩)) rfl (by kernel_rfl) (by kernel_rfl) (by kernel_rfl) (fun _ _ _ h => h) (Or.inl ⟨by kernel_rfl, fun w hS => by go_simp⟩) hHeld ?_
      change wpAnyH _ _ _ _ _ _ _ { tmps := List.toArray (_ :: _ :: _ :: _ :: .slice (some ⟨b, off, none⟩) ts.length cp :: _ :: .slice (some ⟨b2, off2, none⟩) out.length oc :: .slice (some ⟨mg, 0, none⟩) ms.length mc :: _ :: _ :: .int .i64 (k : Int) :: _ :: _ :: _ :: _ :: _ :: _ :: _ :: _ :: _ :: _ :: _ :: _ :: _ :: _ :: _ :: _ :: _ :: _ :: _ :: _ :: _ :: _ :: _ :: _ :: _ :: _ :: _ :: _ :: _ :: _ :: _ :: _ :: _ :: _ :: _ :: _ :: _ :: _ :: _ :: _ :: _ :: _ :: _ :: _ :: _ :: _ :: _ :: _ :: _ :: _ :: _ :: _ :: _ :: _ :: _ :: _ :: _ :: _ :: _ :: _ :: _ :: _ :: _ :: _ :: _ :: _ :: _ :: _ :: _ :: _ :: _ :: _ :: _ :: _ :: _ :: .slice (some ⟨mg, 0, none⟩) ms.length mc :: .int .i64 (k : Int) :: .pointer (some ⟨mg, k, none⟩) :: .int .i64 r :: .bool false :: .bool false :: .slice (some ⟨mg, 0, none⟩) ms.length mc :: .int .i64 (k : Int) :: .pointer (some ⟨mg, k, none⟩) :: .int .i64 r :: .bool false :: .bool false :: .bool false :: .slice (some ⟨b2, off2, none⟩) out.length oc :: .int .i64 (k : Int) :: .pointer (some ⟨b2, off2 + k * 2, none⟩) :: .agg #[.string sm, .slice ca2 cm.length cc2] :: .slice (some ⟨b, off, none⟩) ts.length cp :: .int .i64 (k : Int) :: .pointer (some ⟨b, off + k * 2, none⟩) :: _ :: _ :: _ :: _ :: _ :: _ :: _ :: _ :: _ :: _ :: _ :: _ :: _ :: _ :: _ :: _ :: _ :: _ :: _ :: _ :: _ :: _ :: _ :: _ :: _ :: _ :: _ :: _ :: _ :: _ :: _ :: _ :: _ :: _ :: _ :: _ :: []), defers := [] } _
      refine wpAnyH_take (i := 20) (v := .agg #[.string s, .slice ca cs.length cc]) rfl (by kernel_rfl) (by kernel_rfl) (by kernel_rfl) (fun _ _ _ h => h) (Or.inl ⟨by kernel_rfl, fun w hS => by (obtain ⟨hS0, hS1, hS2, hS3, hS4⟩ := hS; go_simp)⟩) hHeld ?_
      change wpAnyH _ _ _ _ _ _ _ { tmps := List.toArray (_ :: _ :: _ :: _ :: .slice (some ⟨b, off, none⟩) ts.length cp :: _ :: .slice (some ⟨b2, off2, none⟩) out.length oc :: .slice (some ⟨mg, 0, none⟩) ms.length mc :: _ :: _ :: .int .i64 (k : Int) :: _ :: _ :: _ :: _ :: _ :: _ :: _ :: _ :: _ :: _ :: _ :: _ :: _ :: _ :: _ :: _ :: _ :: _ :: _ :: _ :: _ :: _ :: _ :: _ :: _ :: _ :: _ :: _ :: _ :: _ :: _ :: _ :: _ :: _ :: _ :: _ :: _ :: _ :: _ :: _ :: _ :: _ :: _ :: _ :: _ :: _ :: _ :: _ :: _ :: _ :: _ :: _ :: _ :: _ :: _ :: _ :: _ :: _ :: _ :: _ :: _ :: _ :: _ :: _ :: _ :: _ :: _ :: _ :: _ :: _ :: _ :: _ :: _ :: _ :: _ :: .slice (some ⟨mg, 0, none⟩) ms.length mc :: .int .i64 (k : Int) :: .pointer (some ⟨mg, k, none⟩) :: .int .i64 r :: .bool false :: .bool false :: .slice (some ⟨mg, 0, none⟩) ms.length mc :: .int .i64 (k : Int) :: .pointer (some ⟨mg, k, none⟩) :: .int .i64 r :: .bool false :: .bool false :: .bool false :: .slice (some ⟨b2, off2, none⟩) out.length oc :: .int .i64 (k : Int) :: .pointer (some ⟨b2, off2 + k * 2, none⟩) :: .agg #[.string sm, .slice ca2 cm.length cc2] :: .slice (some ⟨b, off, none⟩) ts.length cp :: .int .i64 (k : Int) :: .pointer (some ⟨b, off + k * 2, none⟩) :: .agg #[.string s, .slice ca cs.length cc] :: _ :: _ :: _ :: _ :: _ :: _ :: _ :: _ :: _ :: _ :: _ :: _ :: _ :: _ :: _ :: _ :: _ :: _ :: _ :: _ :: _ :: _ :: _ :: _ :: _ :: _ :: _ :: _ :: _ :: _ :: _ :: _ :: _ :: _ :: _ :: []), defers := [] } _
      refine wpAnyH_take (i := 21) (v := .slice (some ⟨mg, 0, none⟩) ms.length mc) rfl (by kernel_rfl) (by kernel_rfl) (by kernel_rfl) (fun _ _ _ h => h) (Or.inl ⟨by kernel_rfl, fun w hS => by go_simp⟩) hHeld ?_
      change wpAnyH _ _ _ _ _ _ _ { tmps := List.toArray (_ :: _ :: _ :: _ :: .slice (some ⟨b, off, none⟩) ts.length cp :: _ :: .slice (some ⟨b2, off2, none⟩) out.length oc :: .slice (some ⟨mg, 0, none⟩) ms.length mc :: _ :: _ :: .int .i64 (k : Int) :: _ :: _ :: _ :: _ :: _ :: _ :: _ :: _ :: _ :: _ :: _ :: _ :: _ :: _ :: _ :: _ :: _ :: _ :: _ :: _ :: _ :: _ :: _ :: _ :: _ :: _ :: _ :: _ :: _ :: _ :: _ :: _ :: _ :: _ :: _ :: _ :: _ :: _ :: _ :: _ :: _ :: _ :: _ :: _ :: _ :: _ :: _ :: _ :: _ :: _ :: _ :: _ :: _ :: _ :: _ :: _ :: _ :: _ :: _ :: _ :: _ :: _ :: _ :: _ :: _ :: _ :: _ :: _ :: _ :: _ :: _ :: _ :: _ :: _ :: _ :: .slice (some ⟨mg, 0, none⟩) ms.length mc :: .int .i64 (k : Int) :: .pointer (some ⟨mg, k, none⟩) :: .int .i64 r :: .bool false :: .bool false :: .slice (some ⟨mg, 0, none⟩) ms.length mc :: .int .i64 (k : Int) :: .pointer (some ⟨mg, k, none⟩) :: .int .i64 r :: .bool false :: .bool false :: .bool false :: .slice (some ⟨b2, off2, none⟩) out.length oc :: .int .i64 (k : Int) :: .pointer (some ⟨b2, off2 + k * 2, none⟩) :: .agg #[.string sm, .slice ca2 cm.length cc2] :: .slice (some ⟨b, off, none⟩) ts.length cp :: .int .i64 (k : Int) :: .pointer (some ⟨b, off + k * 2, none⟩) :: .agg #[.string s, .slice ca cs.length cc] :: .slice (some ⟨mg, 0, none⟩) ms.length mc :: _ :: _ :: _ :: _ :: _ :: _ :: _ :: _ :: _ :: _ :: _ :: _ :: _ :: _ :: _ :: _ :: _ :: _ :: _ :: _ :: _ :: _ :: _ :: _ :: _ :: _ :: _ :: _ :: _ :: _ :: _ :: _ :: _ :: _ :: []), defers := [] } _
      refine wpAnyH_take (i := 22) (v := .int .i64 (k : Int)) rfl (by kernel_rfl) (by kernel_rfl) (by kernel_rfl) (fun _ _ _ h => h) (Or.inl ⟨by kernel_rfl, fun w hS => by go_simp⟩) hHeld ?_
      change wpAnyH _ _ _ _ _ _ _ { tmps := List.toArray (_ :: _ :: _ :: _ :: .slice (some ⟨b, off, none⟩) ts.length cp :: _ :: .slice (some ⟨b2, off2, none⟩) out.length oc :: .slice (some ⟨mg, 0, none⟩) ms.length mc :: _ :: _ :: .int .i64 (k : Int) :: _ :: _ :: _ :: _ :: _ :: _ :: _ :: _ :: _ :: _ :: _ :: _ :: _ :: _ :: _ :: _ :: _ :: _ :: _ :: _ :: _ :: _ :: _ :: _ :: _ :: _ :: _ :: _ :: _ :: _ :: _ :: _ :: _ :: _ :: _ :: _ :: _ :: _ :: _ :: _ :: _ :: _ :: _ :: _ :: _ :: _ :: _ :: _ :: _ :: _ :: _ :: _ :: _ :: _ :: _ :: _ :: _ :: _ :: _ :: _ :: _ :: _ :: _ :: _ :: _ :: _ :: _ :: _ :: _ :: _ :: _ :: _ :: _ :: _ :: _ :: .slice (some ⟨mg, 0, none⟩) ms.length mc :: .int .i64 (k : Int) :: .pointer (some ⟨mg, k, none⟩) :: .int .i64 r :: .bool false :: .bool false :: .slice (some ⟨mg, 0, none⟩) ms.length mc :: .int .i64 (k : Int) :: .pointer (some ⟨mg, k, none⟩) :: .int .i64 r :: .bool false :: .bool false :: .bool false :: .slice (some ⟨b2, off2, none⟩) out.length oc :: .int .i64 (k : Int) :: .pointer (some ⟨b2, off2 + k * 2, none⟩) :: .agg #[.string sm, .slice ca2 cm.length cc2] :: .slice (some ⟨b, off, none⟩) ts.length cp :: .int .i64 (k : Int) :: .pointer (some ⟨b, off + k * 2, none⟩) :: .agg #[.string s, .slice ca cs.length cc] :: .slice (some ⟨mg, 0, none⟩) ms.length mc :: .int .i64 (k : Int) :: _ :: _ :: _ :: _ :: _ :: _ :: _ :: _ :: _ :: _ :: _ :: _ :: _ :: _ :: _ :: _ :: _ :: _ :: _ :: _ :: _ :: _ :: _ :: _ :: _ :: _ :: _ :: _ :: _ :: _ :: _ :: _ :: _ :: []), defers := [] } _
      refine wpAnyH_take (i := 23) (v := .pointer (some ⟨mg, k, none⟩)) rfl (by kernel_rfl) (by kernel_rfl) (by kernel_rfl) (fun _ _ _ h => h) (Or.inl ⟨by kernel_rfl, fun w hS => by go_simp⟩) hHeld ?_
      change wpAnyH _ _ _ _ _ _ _ { tmps := List.toArray (_ :: _ :: _ :: _ :: .slice (some ⟨b, off, none⟩) ts.length cp :: _ :: .slice (some ⟨b2, off2, none⟩) out.length oc :: .slice (some ⟨mg, 0, none⟩) ms.length mc :: _ :: _ :: .int .i64 (k : Int) :: _ :: _ :: _ :: _ :: _ :: _ :: _ :: _ :: _ :: _ :: _ :: _ :: _ :: _ :: _ :: _ :: _ :: _ :: _ :: _ :: _ :: _ :: _ :: _ :: _ :: _ :: _ :: _ :: _ :: _ :: _ :: _ :: _ :: _ :: _ :: _ :: _ :: _ :: _ :: _ :: _ :: _ :: _ :: _ :: _ :: _ :: _ :: _ :: _ :: _ :: _ :: _ :: _ :: _ :: _ :: _ :: _ :: _ :: _ :: _ :: _ :: _ :: _ :: _ :: _ :: _ :: _ :: _ :: _ :: _ :: _ :: _ :: _ :: _ :: _ :: .slice (some ⟨mg, 0, none⟩) ms.length mc :: .int .i64 (k : Int) :: .pointer (some ⟨mg, k, none⟩) :: .int .i64 r :: .bool false :: .bool false :: .slice (some ⟨mg, 0, none⟩) ms.length mc :: .int .i64 (k : Int) :: .pointer (some ⟨mg, k, none⟩) :: .int .i64 r :: .bool false :: .bool false :: .bool false :: .slice (some ⟨b2, off2, none⟩) out.length oc :: .int .i64 (k : Int) :: .pointer (some ⟨b2, off2 + k * 2, none⟩) :: .agg #[.string sm, .slice ca2 cm.length cc2] :: .slice (some ⟨b, off, none⟩) ts.length cp :: .int .i64 (k : Int) :: .pointer (some ⟨b, off + k * 2, none⟩) :: .agg #[.string s, .slice ca cs.length cc] :: .slice (some ⟨mg, 0, none⟩) ms.length mc :: .int .i64 (k : Int) :: .pointer (some ⟨mg, k, none⟩) :: _ :: _ :: _ :: _ :: _ :: _ :: _ :: _ :: _ :: _ :: _ :: _ :: _ :: _ :: _ :: _ :: _ :: _ :: _ :: _ :: _ :: _ :: _ :: _ :: _ :: _ :: _ :: _ :: _ :: _ :: _ :: _ :: []), defers := [] } _
      refine wpAnyH_take (i := 24) (v := .int .i64 r) rfl (by kernel_rfl) (by kernel_rfl) (by kernel_rfl) (fun _ _ _ h => h) (Or.inl ⟨by kernel_rfl, fun w hS => by (obtain ⟨hS0, hS1, hS2, hS3, hS4⟩ := hS; go_simp)⟩) hHeld ?_
      change wpAnyH _ _ _ _ _ _ _ { tmps := List.toArray (_ :: _ :: _ :: _ :: .slice (some ⟨b, off, none⟩) ts.length cp :: _ :: .slice (some ⟨b2, off2, none⟩) out.length oc :: .slice (some ⟨mg, 0, none⟩) ms.length mc :: _ :: _ :: .int .i64 (k : Int) :: _ :: _ :: _ :: _ :: _ :: _ :: _ :: _ :: _ :: _ :: _ :: _ :: _ :: _ :: _ :: _ :: _ :: _ :: _ :: _ :: _ :: _ :: _ :: _ :: _ :: _ :: _ :: _ :: _ :: _ :: _ :: _ :: _ :: _ :: _ :: _ :: _ :: _ :: _ :: _ :: _ :: _ :: _ :: _ :: _ :: _ :: _ :: _ :: _ :: _ :: _ :: _ :: _ :: _ :: _ :: _ :: _ :: _ :: _ :: _ :: _ :: _ :: _ :: _ :: _ :: _ :: _ :: _ :: _ :: _ :: _ :: _ :: _ :: _ :: _ :: .slice (some ⟨mg, 0, none⟩) ms.length mc :: .int .i64 (k : Int) :: .pointer (some ⟨mg, k, none⟩) :: .int .i64 r :: .bool false :: .bool false :: .slice (some ⟨mg, 0, none⟩) ms.length mc :: .int .i64 (k : Int) :: .pointer (some ⟨mg, k, none⟩) :: .int .i64 r :: .bool false :: .bool false :: .bool false :: .slice (some ⟨b2, off2, none⟩) out.length oc :: .int .i64 (k : Int) :: .pointer (some ⟨b2, off2 + k * 2, none⟩) :: .agg #[.string sm, .slice ca2 cm.length cc2] :: .slice (some ⟨b, off, none⟩) ts.length cp :: .int .i64 (k : Int) :: .pointer (some ⟨b, off + k * 2, none⟩) :: .agg #[.string s, .slice ca cs.length cc] :: .slice (some ⟨mg, 0, none⟩) ms.length mc :: .int .i64 (k : Int) :: .pointer (some ⟨mg, k, none⟩) :: .int .i64 r :: _ :: _ :: _ :: _ :: _ :: _ :: _ :: _ :: _ :: _ :: _ :: _ :: _ :: _ :: _ :: _ :: _ :: _ :: _ :: _ :: _ :: _ :: _ :: _ :: _ :: _ :: _ :: _ :: _ :: _ :: _ :: []), defers := [] } _
      refine wpAnyH_ready (rs := [25]) (by kernel_rfl) (by simp) ?_
      refine (AllReadyH.cons rfl (fun KK hK => ?_) AllReadyH.nil)
      go_simp
      go_wp2_with (first | (go_at_call 13; refine M.mono ?_; rintro e6 wp ⟨qa, qc, rfl, hq, hbp⟩; dsimp only at hq; have Bp := undrew hbp; have Hq := Halts.own hq; clear hbp hq))
      clear hHeld
      refine hK.out _ _ (⟨ble Bp m1, ble Bp d1, ble Bp d2, ble Bp c1, ble Bp c2⟩) (fun hHeld => ?_)
      clear hK KK
      change wpAnyH _ _ _ _ _ _ _ { tmps := List.toArray (_ :: _ :: _ :: _ :: .slice (some ⟨b, off, none⟩) ts.length cp :: _ :: .slice (some ⟨b2, off2, none⟩) out.length oc :: .slice (some ⟨mg, 0, none⟩) ms.length mc :: _ :: _ :: .int .i64 (k : Int) :: _ :: _ :: _ :: _ :: _ :: _ :: _ :: _ :: _ :: _ :: _ :: _ :: _ :: _ :: _ :: _ :: _ :: _ :: _ :: _ :: _ :: _ :: _ :: _ :: _ :: _ :: _ :: _ :: _ :: _ :: _ :: _ :: _ :: _ :: _ :: _ :: _ :: _ :: _ :: _ :: _ :: _ :: _ :: _ :: _ :: _ :: _ :: _ :: _ :: _ :: _ :: _ :: _ :: _ :: _ :: _ :: _ :: _ :: _ :: _ :: _ :: _ :: _ :: _ :: _ :: _ :: _ :: _ :: _ :: _ :: _ :: _ :: _ :: _ :: _ :: .slice (some ⟨mg, 0, none⟩) ms.length mc :: .int .i64 (k : Int) :: .pointer (some ⟨mg, k, none⟩) :: .int .i64 r :: .bool false :: .bool false :: .slice (some ⟨mg, 0, none⟩) ms.length mc :: .int .i64 (k : Int) :: .pointer (some ⟨mg, k, none⟩) :: .int .i64 r :: .bool false :: .bool false :: .bool false :: .slice (some ⟨b2, off2, none⟩) out.length oc :: .int .i64 (k : Int) :: .pointer (some ⟨b2, off2 + k * 2, none⟩) :: .agg #[.string sm, .slice ca2 cm.length cc2] :: .slice (some ⟨b, off, none⟩) ts.length cp :: .int .i64 (k : Int) :: .pointer (some ⟨b, off + k * 2, none⟩) :: .agg #[.string s, .slice ca cs.length cc] :: .slice (some ⟨mg, 0, none⟩) ms.length mc :: .int .i64 (k : Int) :: .pointer (some ⟨mg, k, none⟩) :: .int .i64 r :: .agg #[.string sm, .slice qa cm.length qc] :: _ :: _ :: _ :: _ :: _ :: _ :: _ :: _ :: _ :: _ :: _ :: _ :: _ :: _ :: _ :: _ :: _ :: _ :: _ :: _ :: _ :: _ :: _ :: _ :: _ :: _ :: _ :: _ :: _ :: _ :: []), defers := [] } _
      refine wpAnyH_ready (rs := [26]) (by kernel_rfl) (by simp) ?_
      refine (AllReadyH.cons rfl (fun KK hK => ?_) AllReadyH.nil)
      go_simp
      go_wp2_with (first | (go_at_call 12; refine (CT qa qc wp (d3.below Bp) Hq).mono ?_; rintro e6 wq ⟨rfl, hbq⟩; have Bq := btrans Bp hbq; clear hbq))
      clear hHeld
      refine hK.out _ _ (⟨ble Bq m1, ble Bq d1, ble Bq d2, ble Bq c1, ble Bq c2⟩) (fun hHeld => ?_)
      clear hK KK
      change wpAnyH _ _ _ _ _ _ _ { tmps := List.toArray (_ :: _ :: _ :: _ :: .slice (some ⟨b, off, none⟩) ts.length cp :: _ :: .slice (some ⟨b2, off2, none⟩) out.length oc :: .slice (some ⟨mg, 0, none⟩) ms.length mc :: _ :: _ :: .int .i64 (k : Int) :: _ :: _ :: _ :: _ :: _ :: _ :: _ :: _ :: _ :: _ :: _ :: _ :: _ :: _ :: _ :: _ :: _ :: _ :: _ :: _ :: _ :: _ :: _ :: _ :: _ :: _ :: _ :: _ :: _ :: _ :: _ :: _ :: _ :: _ :: _ :: _ :: _ :: _ :: _ :: _ :: _ :: _ :: _ :: _ :: _ :: _ :: _ :: _ :: _ :: _ :: _ :: _ :: _ :: _ :: _ :: _ :: _ :: _ :: _ :: _ :: _ :: _ :: _ :: _ :: _ :: _ :: _ :: _ :: _ :: _ :: _ :: _ :: _ :: _ :: _ :: .slice (some ⟨mg, 0, none⟩) ms.length mc :: .int .i64 (k : Int) :: .pointer (some ⟨mg, k, none⟩) :: .int .i64 r :: .bool false :: .bool false :: .slice (some ⟨mg, 0, none⟩) ms.length mc :: .int .i64 (k : Int) :: .pointer (some ⟨mg, k, none⟩) :: .int .i64 r :: .bool false :: .bool false :: .bool false :: .slice (some ⟨b2, off2, none⟩) out.length oc :: .int .i64 (k : Int) :: .pointer (some ⟨b2, off2 + k * 2, none⟩) :: .agg #[.string sm, .slice ca2 cm.length cc2] :: .slice (some ⟨b, off, none⟩) ts.length cp :: .int .i64 (k : Int) :: .pointer (some ⟨b, off + k * 2, none⟩) :: .agg #[.string s, .slice ca cs.length cc] :: .slice (some ⟨mg, 0, none⟩) ms.length mc :: .int .i64 (k : Int) :: .pointer (some ⟨mg, k, none⟩) :: .int .i64 r :: .agg #[.string sm, .slice qa cm.length qc] :: .bool true :: _ :: _ :: _ :: _ :: _ :: _ :: _ :: _ :: _ :: _ :: _ :: _ :: _ :: _ :: _ :: _ :: _ :: _ :: _ :: _ :: _ :: _ :: _ :: _ :: _ :: _ :: _ :: _ :: _ :: []), defers := [] } _
      refine wpAnyH_take (i := 27) (v := .bool false) rfl (by kernel_rfl) (by kernel_rfl) (by kernel_rfl) (fun _ _ _ h => h) (Or.inl ⟨by kernel_rfl, fun w hS => by go_simp⟩) hHeld ?_
      change wpAnyH _ _ _ _ _ _ _ { tmps := List.toArray (_ :: _ :: _ :: _ :: .slice (some ⟨b, off, none⟩) ts.length cp :: _ :: .slice (some ⟨b2, off2, none⟩) out.length oc :: .slice (some ⟨mg, 0, none⟩) ms.length mc :: _ :: _ :: .int .i64 (k : Int) :: _ :: _ :: _ :: _ :: _ :: _ :: _ :: _ :: _ :: _ :: _ :: _ :: _ :: _ :: _ :: _ :: _ :: _ :: _ :: _ :: _ :: _ :: _ :: _ :: _ :: _ :: _ :: _ :: _ :: _ :: _ :: _ :: _ :: _ :: _ :: _ :: _ :: _ :: _ :: _ :: _ :: _ :: _ :: _ :: _ :: _ :: _ :: _ :: _ :: _ :: _ :: _ :: _ :: _ :: _ :: _ :: _ :: _ :: _ :: _ :: _ :: _ :: _ :: _ :: _ :: _ :: _ :: _ :: _ :: _ :: _ :: _ :: _ :: _ :: _ :: .slice (some ⟨mg, 0, none⟩) ms.length mc :: .int .i64 (k : Int) :: .pointer (some ⟨mg, k, none⟩) :: .int .i64 r :: .bool false :: .bool false :: .slice (some ⟨mg, 0, none⟩) ms.length mc :: .int .i64 (k : Int) :: .pointer (some ⟨mg, k, none⟩) :: .int .i64 r :: .bool false :: .bool false :: .bool false :: .slice (some ⟨b2, off2, none⟩) out.length oc :: .int .i64 (k : Int) :: .pointer (some ⟨b2, off2 + k * 2, none⟩) :: .agg #[.string sm, .slice ca2 cm.length cc2] :: .slice (some ⟨b, off, none⟩) ts.length cp :: .int .i64 (k : Int) :: .pointer (some ⟨b, off + k * 2, none⟩) :: .agg #[.string s, .slice ca cs.length cc] :: .slice (some ⟨mg, 0, none⟩) ms.length mc :: .int .i64 (k : Int) :: .pointer (some ⟨mg, k, none⟩) :: .int .i64 r :: .agg #[.string sm, .slice qa cm.length qc] :: .bool true :: .bool false :: _ :: _ :: _ :: _ :: _ :: _ :: _ :: _ :: _ :: _ :: _ :: _ :: _ :: _ :: _ :: _ :: _ :: _ :: _ :: _ :: _ :: _ :: _ :: _ :: _ :: _ :: _ :: _ :: []), defers := [] } _
      refine wpAnyH_take (i := 28) (v := .bool false) rfl (by kernel_rfl) (by kernel_rfl) (by kernel_rfl) (fun _ _ _ h => h) (Or.inl ⟨by kernel_rfl, fun w hS => by go_simp⟩) hHeld ?_
      change wpAnyH _ _ _ _ _ _ _ { tmps := List.toArray (_ :: _ :: _ :: _ :: .slice (some ⟨b, off, none⟩) ts.length cp :: _ :: .slice (some ⟨b2, off2, none⟩) out.length oc :: .slice (some ⟨mg, 0, none⟩) ms.length mc :: _ :: _ :: .int .i64 (k : Int) :: _ :: _ :: _ :: _ :: _ :: _ :: _ :: _ :: _ :: _ :: _ :: _ :: _ :: _ :: _ :: _ :: _ :: _ :: _ :: _ :: _ :: _ :: _ :: _ :: _ :: _ :: _ :: _ :: _ :: _ :: _ :: _ :: _ :: _ :: _ :: _ :: _ :: _ :: _ :: _ :: _ :: _ :: _ :: _ :: _ :: _ :: _ :: _ :: _ :: _ :: _ :: _ :: _ :: _ :: _ :: _ :: _ :: _ :: _ :: _ :: _ :: _ :: _ :: _ :: _ :: _ :: _ :: _ :: _ :: _ :: _ :: _ :: _ :: _ :: _ :: .slice (some ⟨mg, 0, none⟩) ms.length mc :: .int .i64 (k : Int) :: .pointer (some ⟨mg, k, none⟩) :: .int .i64 r :: .bool false :: .bool false :: .slice (some ⟨mg, 0, none⟩) ms.length mc :: .int .i64 (k : Int) :: .pointer (some ⟨mg, k, none⟩) :: .int .i64 r :: .bool false :: .bool false :: .bool false :: .slice (some ⟨b2, off2, none⟩) out.length oc :: .int .i64 (k : Int) :: .pointer (some ⟨b2, off2 + k * 2, none⟩) :: .agg #[.string sm, .slice ca2 cm.length cc2] :: .slice (some ⟨b, off, none⟩) ts.length cp :: .int .i64 (k : Int) :: .pointer (some ⟨b, off + k * 2, none⟩) :: .agg #[.string s, .slice ca cs.length cc] :: .slice (some ⟨mg, 0, none⟩) ms.length mc :: .int .i64 (k : Int) :: .pointer (some ⟨mg, k, none⟩) :: .int .i64 r :: .agg #[.string sm, .slice qa cm.length qc] :: .bool true :: .bool false :: .bool false :: _ :: _ :: _ :: _ :: _ :: _ :: _ :: _ :: _ :: _ :: _ :: _ :: _ :: _ :: _ :: _ :: _ :: _ :: _ :: _ :: _ :: _ :: _ :: _ :: _ :: _ :: _ :: []), defers := [] } _
      refine wpAnyH_done (by kernel_rfl) ?_ _
      have HB9 := btrans hbk Bq
      clear M CT
      go_wp2
      go_roundw
      case rel => exact ⟨k + 1, by omega, by go_num, HB9⟩
      case measure => simp [intOf]; omega
    · have hlt' : ¬ ((k : Int) < (ts.length : Int)) := by omega
      clear hk hbk
      obtain ⟨⟨x0, x1⟩, -⟩ := blk2 X
      go_wp2_with fail
      clear x0 x1
      refine (cSettleI ea ec n es oa oc out h _ hE (by omega) T.trips hSo).mono ?_
      rintro e w7 ⟨pa, pc, na, nc, vs7, out7, ms7, rfl, hA7, T7, O7, hb7⟩
      obtain ⟨e1, e2⟩ := hA7.uniq (SetA.of_clean hCo.out)
      subst out7 ms7
      clear hA7
      replace hb := btrans hb hb7
      replace X := blk_keep hb7 X
      replace hE := hE.below hb7
      replace hT := hT.below hb7
      replace T := T.below hb7
      replace O := own_keep O hb7
      clear hb7
      replace O7 : w7.ownsRow wr.heap.size 3 1 (.slice na out.length nc) out.length ((List.replicate out.length (0 : Int)).map (Value.int .i64)) := by simpa using O7
      rw [show (List.replicate out.length (0 : Int)).length = out.length by simp]
      go_wp2_with fail
      refine (cSameTs pa oa pc oc out _ T7.trips T.trips hSo).mono ?_
      rintro e w8 ⟨rfl, hb8⟩
      replace hb := btrans hb hb8
      replace X := blk_keep hb8 X
      replace hE := hE.below hb8
      replace hT := hT.below hb8
      replace T := T.below hb8
      replace O := own_keep O hb8
      replace O7 := own_keep O7 hb8
      clear T7 hb8
      have hSo1 := hSo.1
      go_wp2_with fail
      refine (cSum0 na nc out.length _ O7 hSo1).mono ?_
      rintro e w9 ⟨rfl, hw9⟩
      subst w9
      clear O7
      obtain ⟨⟨x0, x1⟩, -⟩ := blk2 X
      go_wp2_with fail
      clear x0 x1
      refine (cCleanI ea ec n es ao cp ts h _ hE (by omega) hT hS).mono ?_
      rintro e w10 ⟨r, rfl, hr, hb10⟩
      have HB := btrans hb hb10
      replace O := own_keep O hb10
      cases r
      · clear hr O
        go_wp2
        go_ret
        exact ⟨rfl, HB⟩
      · have hms := hZ.out (hr.1 rfl)
        have hN : ms.length = ts.length := hml.out
        rw [hms] at O
        replace O : w10.ownsRow W.heap.size 3 1 (.slice mo ms.length mc) ms.length ((List.replicate ms.length (0 : Int)).map (Value.int .i64)) := by
          rw [hN]; simpa using O
        replace hms := hide hms
        replace hN := hide hN
        have hml3 : ms.length ≤ 1048576 := by have := hN.out; have := hS.1; omega
        clear hr
        go_wp2_with fail
        refine (cSum0 mo mc ms.length _ O hml3).mono ?_
        rintro e w11 ⟨rfl, hw11⟩
        subst w11
        go_wp2
        go_ret
        exact ⟨rfl, HB⟩
end Go.Proofs.YtbghfihlpbcomaaGreat
