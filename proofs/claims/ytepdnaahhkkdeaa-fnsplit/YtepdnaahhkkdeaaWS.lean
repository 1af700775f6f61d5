/- The walk of the law on Split. -/
import Derived.Test.YtepdnaahhkkdeaaSD
import Derived.Deep.RegionHeld3
namespace Go.Proofs.Ytepdnaahhkkdeaa
open Go.RowKit
theorem SplitAns.len {b s r m c : Int} {js zs l : List Int} {cs : List CardV} (h : SplitAns b s js r zs cs m c l) : l.length ≤ 20 := by
  rcases h with ⟨_, _, rfl⟩ | ⟨h0, C, K, N, hB, _, k, rfl, hk, _⟩
  · simp
  · have sl := stops_len (through_ok h0).1
    have := it_up hB k (fun x hx => hk x (by omega))
    have := hk k (Nat.le_refl _)
    rw [pls_len]
    omega
set_option maxRecDepth 20000 in
set_option maxHeartbeats 12800000 in
theorem walkSplit (b s r : Int) (js : List Int) (a : Option Addr) (c : Nat) (za : Option Addr) (zc : Nat) (zs : List Int) (ca : Option Addr) (cc : Nat) (cs : List CardV) (m : Int) (w : World) (hz : Ints w a js) (hn : js.length ≤ maxLen) (hS : Ints w za zs) (_ : zs.length ≤ maxLen) (hL : Cards w ca cs) (hnc : cs.length ≤ maxLen) :
    Calls Try.prog 8 #[.agg #[.int .i64 b, .int .i64 s, .slice a js.length c, .int .i64 r], .slice za zs.length zc, .slice ca cs.length cc, .int .i64 m] w fun e w' => e = .returned (.bool true) ∧ Below w.heap.size w w' := by
  have HB := balloc w (.cells #[.int .i64 b, .int .i64 s, .slice a js.length c, .int .i64 r] 24)
  have X := Bx4.new w (.int .i64 b) (.int .i64 s) (.slice a js.length c) (.int .i64 r) 24
  by_cases hlz : (1048576 : Int) < zs.length
  · go_enter Try.func8, Try.ntmps8
    go_wp2
    go_ret
    exact ⟨rfl, HB⟩
  have hls : zs.length ≤ 1048576 := by omega
  go_enter Try.func8, Try.ntmps8
  obtain ⟨x0, x1, x2, x3⟩ := id X
  go_wp2_with fail
  refine (cSzTf a _ c _ _ _ 1048576 _ (by omega) (by omega) hn).mono ?_
  rintro e w1 ⟨r1, rfl, hr, hb⟩
  replace HB := btrans HB hb
  replace X := X.below hb
  clear hb
  clear x0 x1 x2 x3
  rcases hr with rfl | ⟨hr, hr0⟩
  · go_wp2
    go_ret
    exact ⟨rfl, HB⟩
  have hl : js.length ≤ 1048576 := by omega
  have hr5 : ¬ r1 < 0 := by omega
  have hr6 : r1 ≤ 1048576 := by omega
  clear hr
  go_wp2_with fail
  refine (cSzCards ca _ cc r1 _ hr0 hr6 hnc).mono ?_
  rintro e w2 ⟨r2, rfl, hq, hw⟩
  subst w2
  rcases hq with rfl | ⟨hq, hq0⟩
  · go_wp2
    go_ret
    exact ⟨rfl, HB⟩
  have hl2 : cs.length ≤ 1048576 := by omega
  have hq5 : ¬ r2 < 0 := by omega
  clear hq
  obtain ⟨x0, x1, x2, x3⟩ := id X
  go_wp2_with fail
  refine (cToTf a c b s r js _ (hz.below HB) hl).mono ?_
  rintro e w3 ⟨gt0, rfl, N0, hb⟩
  replace HB := btrans HB hb
  replace X := X.below hb
  clear hb
  clear x0 x1 x2 x3
  go_wp2_with fail
  refine (cToInts za zc zs _ (hS.below HB) hls).mono ?_
  rintro e w4 ⟨gz0, rfl, OZ0, hgz0, hb⟩
  clear hgz0
  replace HB := btrans HB hb
  replace X := X.below hb
  replace N0 := N0.below hb
  clear hb
  go_wp2_with fail
  refine (cToCards ca cc cs _ (hL.below HB) hl2).mono ?_
  rintro e w5 ⟨gc0, rfl, OC0, hgc0, hb⟩
  clear hgc0
  replace HB := btrans HB hb
  replace X := X.below hb
  replace N0 := N0.below hb
  replace OZ0 := own_keep OZ0 hb
  clear hb
  go_wp2_with fail
  refine (cSplitS b s r m js _ _ _ _ zs _ _ cs _ N0.ints hl (Ints.of_owns OZ0) hls (Cards.of_owns OC0) hl2).mono ?_
  rintro e w6 ⟨cst, vw, L, rfl, SA, OW, hb⟩
  clear N0 OZ0 OC0
  replace HB := btrans HB hb
  replace X := X.below hb
  clear hb
  have hvw := own_blk_lt OW
  have a0 := cell_lt X.1
  obtain ⟨wa, wc, rfl⟩ := own_form OW
  have hLen := SA.len
  obtain ⟨x0, x1, x2, x3⟩ := id X
  go_wp2_with fail
  refine (cToTf a c b s r js _ (hz.below HB) hl).mono ?_
  rintro e w7 ⟨gt1, rfl, N1, hb⟩
  have a1 := own_from N1 (Nat.le_refl _) gt1 rfl
  replace HB := btrans HB hb
  replace X := X.below hb
  replace OW := own_keep OW hb
  clear hb
  clear x0 x1 x2 x3
  have a2 := owns_lt N1
  have Y := Bx4.new w7 (.int .i64 b) (.int .i64 s) (.slice (some ⟨gt1, 0, none⟩) js.length js.length) (.int .i64 r) 27
  have hbY := balloc w7 (.cells #[.int .i64 b, .int .i64 s, .slice (some ⟨gt1, 0, none⟩) js.length js.length, .int .i64 r] 27)
  have sY := sz1 w7 (.cells #[.int .i64 b, .int .i64 s, .slice (some ⟨gt1, 0, none⟩) js.length js.length, .int .i64 r] 27)
  replace HB := btrans HB hbY
  replace X := X.below hbY
  replace OW := own_keep OW hbY
  replace N1 := N1.below hbY
  clear hbY
  go_wp2_with fail
  refine (cToInts za zc zs _ (hS.below HB) hls).mono ?_
  rintro e w8 ⟨gz1, rfl, OZ1, hgz1, hb⟩
  rw [sY] at hgz1
  have a3 : w7.heap.size < gz1 := by omega
  clear hgz1 sY
  replace HB := btrans HB hb
  replace X := X.below hb
  replace OW := own_keep OW hb
  replace N1 := N1.below hb
  replace Y := Y.below hb
  clear hb
  have a4 := owns_lt OZ1
  go_wp2_with fail
  refine (cToCards ca cc cs _ (hL.below HB) hl2).mono ?_
  rintro e w9 ⟨gc1, rfl, OC1, hgc1, hb⟩
  have a5 : gz1 < gc1 := by omega
  clear hgc1 a4
  replace HB := btrans HB hb
  replace X := X.below hb
  replace OW := own_keep OW hb
  replace N1 := N1.below hb
  replace Y := Y.below hb
  replace OZ1 := own_keep OZ1 hb
  clear hb
  have a6 := owns_lt OC1
  obtain ⟨y0, y1, y2, y3⟩ := id Y
  go_wp2_with fail
  refine (cSplitI b s r m js _ _ _ _ zs _ _ cs _ N1.ints hl (Ints.of_owns OZ1) hls (Cards.of_owns OC1) hl2).mono ?_
  rintro e w10 ⟨cst2, vg, L2, rfl, SB, OG, hb⟩
  have hvg := own_from OG (Nat.le_refl _)
  obtain ⟨e1, e2⟩ := SA.unique SB
  subst e1
  subst e2
  clear SB
  replace HB := btrans HB hb
  replace X := X.below hb
  replace OW := own_keep OW hb
  replace N1 := N1.below hb
  replace Y := Y.below hb
  replace OZ1 := own_keep OZ1 hb
  replace OC1 := own_keep OC1 hb
  clear hb
  clear y0 y1 y2 y3
  obtain ⟨ga, gk, rfl⟩ := own_form OG
  go_wp2_with fail
  refine (cEqIntsn _ _ L.length _ _ L _ rfl OG OW (by unfold maxLen; omega)).mono ?_
  rintro e w11 ⟨rfl, hb⟩
  replace HB := btrans HB hb
  replace X := X.below hb
  replace OW := own_keep OW hb
  replace N1 := N1.below hb
  replace Y := Y.below hb
  replace OZ1 := own_keep OZ1 hb
  replace OC1 := own_keep OC1 hb
  replace OG := own_keep OG hb
  clear hb
  obtain ⟨x0, x1, x2, x3⟩ := id X
  obtain ⟨y0, y1, y2, y3⟩ := id Y
  have hE := hz.below HB.drew
  go_wp2_with fail
  go_region_held3 (fun w' => w'.cell? ⟨w7.heap.size, 0, none⟩ = some (.int .i64 b) ∧ w'.cell? ⟨w7.heap.size, 1, none⟩ = some (.int .i64 s) ∧ w'.cell? ⟨w7.heap.size, 2, none⟩ = some (.slice (some ⟨gt1, 0, none⟩) js.length js.length) ∧ w'.cell? ⟨w7.heap.size, 3, none⟩ = some (.int .i64 r) ∧ w'.cell? ⟨w.heap.size, 0, none⟩ = some (.int .i64 b) ∧ w'.cell? ⟨w.heap.size, 1, none⟩ = some (.int .i64 s) ∧ w'.cell? ⟨w.heap.size, 2, none⟩ = some (.slice a js.length c) ∧ w'.cell? ⟨w.heap.size, 3, none⟩ = some (.int .i64 r)) (go_keep) (first
    | (go_at_call 16; with_reducible refine (cEqTf _ _ _ _ b s r js _ P1 P3 hl).mono ?_; rintro e wb ⟨rfl, hbb⟩; have Bb := btrans Bp hbb; clear hbb; obtain ⟨v0, v1, v2, v3⟩ := Y.c Bb; obtain ⟨v4, v5, v6, v7⟩ := X.c Bb)
    | (go_at_call 14; with_reducible refine (cToTf a c b s r js _ hE hl).mono ?_; rintro e wp ⟨g3, rfl, N3, hbp⟩; have Bp := undrew hbp; have P1 := (N1.below Bp).ints; have P3 := N3.ints; clear hbp; obtain ⟨v0, v1, v2, v3⟩ := Y.c Bp; obtain ⟨v4, v5, v6, v7⟩ := X.c Bp))
  replace HB := btrans HB Bb
  replace X := X.below Bb
  replace OW := own_keep OW Bb
  replace N1 := N1.below Bb
  replace Y := Y.below Bb
  replace OZ1 := own_keep OZ1 Bb
  replace OC1 := own_keep OC1 Bb
  replace OG := own_keep OG Bb
  clear Bb
  clear x0 x1 x2 x3 y0 y1 y2 y3 v0 v1 v2 v3 v4 v5 v6 v7 Bp P1 P3 N3 hE
  go_wp2_with fail
  refine (cToInts za zc zs _ (hS.below HB) hls).mono ?_
  rintro e w12 ⟨g5, rfl, O5, hg5, hb⟩
  clear hg5
  replace HB := btrans HB hb
  replace X := X.below hb
  replace OW := own_keep OW hb
  replace N1 := N1.below hb
  replace Y := Y.below hb
  replace OZ1 := own_keep OZ1 hb
  replace OC1 := own_keep OC1 hb
  replace OG := own_keep OG hb
  clear hb
  go_wp2_with fail
  refine (cEqInts _ _ _ _ zs _ (Ints.of_owns OZ1) (Ints.of_owns O5) (by unfold maxLen; omega)).mono ?_
  rintro e w13 ⟨rfl, hb⟩
  clear O5
  replace HB := btrans HB hb
  replace X := X.below hb
  replace OW := own_keep OW hb
  replace N1 := N1.below hb
  replace Y := Y.below hb
  replace OZ1 := own_keep OZ1 hb
  replace OC1 := own_keep OC1 hb
  replace OG := own_keep OG hb
  clear hb
  go_wp2_with fail
  refine (cToCards ca cc cs _ (hL.below HB) hl2).mono ?_
  rintro e w14 ⟨g5, rfl, O5, hg5, hb⟩
  clear hg5
  replace HB := btrans HB hb
  replace X := X.below hb
  replace OW := own_keep OW hb
  replace N1 := N1.below hb
  replace Y := Y.below hb
  replace OZ1 := own_keep OZ1 hb
  replace OC1 := own_keep OC1 hb
  replace OG := own_keep OG hb
  clear hb
  go_wp2_with fail
  refine (cEqCards _ _ _ _ cs _ (Cards.of_owns OC1) (Cards.of_owns O5) hl2).mono ?_
  rintro e w15 ⟨rfl, hb⟩
  clear O5
  replace HB := btrans HB hb
  replace X := X.below hb
  replace OW := own_keep OW hb
  replace N1 := N1.below hb
  replace Y := Y.below hb
  replace OZ1 := own_keep OZ1 hb
  replace OC1 := own_keep OC1 hb
  replace OG := own_keep OG hb
  clear hb
  have hvw2 : ∀ k, (Value.slice wa L.length wc).ownBlock = some k → k < gt1 := fun k hk => by have := hvw k hk; omega
  have hvg2 : ∀ k, (Value.slice ga L.length gk).ownBlock = some k → gc1 < k := fun k hk => by have := hvg k hk; omega
  have a7 : w.heap.size < gt1 := by omega
  clear hvw hvg a0 a1 a6
  obtain ⟨y0, y1, y2, y3⟩ := id Y
  go_wp2_with fail
  refine (cMarkTf _ gt1 _ _ _ js 1 _ N1 hl (by omega) (by omega)).mono ?_
  rintro e w16 ⟨rfl, hg⟩
  clear y0 y1 y2 y3
  clear N1
  replace HB := HB.grown hg HB.size (fun j e => by simp at e; omega)
  replace X := Bx4.far X hg (by simp; omega)
  replace OW := own_far OW hg (fun k hk e => by have := hvw2 k hk; simp at e; omega)
  replace Y := Bx4.far Y hg (by simp; omega)
  replace OZ1 := own_far OZ1 hg (fun k hk e => by simp [Value.ownBlock] at hk; simp at e; omega)
  replace OC1 := own_far OC1 hg (fun k hk e => by simp [Value.ownBlock] at hk; simp at e; omega)
  replace OG := own_far OG hg (fun k hk e => by have := hvg2 k hk; simp at e; omega)
  clear hg
  clear Y
  go_wp2_with fail
  refine (cMarkIntsg _ gz1 _ zs (1 + js.length) _ OZ1 hls (by omega) (by omega)).mono ?_
  rintro e w17 ⟨rfl, _, hg⟩
  clear OZ1
  replace HB := HB.grown hg HB.size (fun j e => by simp at e; omega)
  replace X := Bx4.far X hg (by simp; omega)
  replace OW := own_far OW hg (fun k hk e => by have := hvw2 k hk; simp at e; omega)
  replace OC1 := own_far OC1 hg (fun k hk e => by simp [Value.ownBlock] at hk; simp at e; omega)
  replace OG := own_far OG hg (fun k hk e => by have := hvg2 k hk; simp at e; omega)
  clear hg
  go_wp2_with fail
  refine (cMarkCardsg _ gc1 _ cs (1 + js.length + zs.length) _ OC1 hl2 (by omega) (by omega)).mono ?_
  rintro e w18 ⟨rfl, _, hg⟩
  clear OC1
  replace HB := HB.grown hg HB.size (fun j e => by simp at e; omega)
  replace X := Bx4.far X hg (by simp; omega)
  replace OW := own_far OW hg (fun k hk e => by have := hvw2 k hk; simp at e; omega)
  replace OG := own_far OG hg (fun k hk e => by have := hvg2 k hk; simp at e; omega)
  clear hg
  have hk9 : ¬ ((1 : Int) + js.length + zs.length + 4 * cs.length < 0) := by omega
  go_wp2_with fail
  refine (cEqIntsn _ _ L.length _ _ L _ rfl OG OW (by unfold maxLen; omega)).mono ?_
  rintro e w19 ⟨rfl, hb⟩
  replace HB := btrans HB hb
  replace X := X.below hb
  replace OW := own_keep OW hb
  replace OG := own_keep OG hb
  clear hb
  go_wp2_with fail
  refine (cMarkInts _ L.length _ L 1 _ rfl OG (by omega) (by omega) (by omega)).mono ?_
  rintro e w20 ⟨rfl, OG2, hg⟩
  clear OG
  replace HB := HB.grown hg HB.size (fun j e => by have := hvg2 j e; omega)
  replace X := Bx4.far X hg (fun e => by have := hvg2 _ e.symm; omega)
  replace OW := own_far OW hg (fun k hk e => by have := hvw2 k hk; have := hvg2 k e.symm; omega)
  clear hg
  have OG := OG2
  clear OG2
  go_wp2_with fail
  refine (cHeldInts _ L.length _ 1 _ OG (by omega) (by omega) (by omega)).mono ?_
  rintro e w21 ⟨rfl, hw⟩
  subst w21
  have hq9 : ¬ ((1 : Int) + L.length < 0) := by omega
  obtain ⟨x0, x1, x2, x3⟩ := id X
  go_wp2_with fail
  refine (cToTf a c b s r js _ (hz.below HB) hl).mono ?_
  rintro e w22 ⟨gt2, rfl, N2, hb⟩
  replace HB := btrans HB hb
  replace X := X.below hb
  replace OW := own_keep OW hb
  replace OG := own_keep OG hb
  clear hb
  clear x0 x1 x2 x3
  go_wp2_with fail
  refine (cToInts za zc zs _ (hS.below HB) hls).mono ?_
  rintro e w23 ⟨gz2, rfl, OZ2, hgz2, hb⟩
  clear hgz2
  replace HB := btrans HB hb
  replace X := X.below hb
  replace OW := own_keep OW hb
  replace OG := own_keep OG hb
  replace N2 := N2.below hb
  clear hb
  go_wp2_with fail
  refine (cToCards ca cc cs _ (hL.below HB) hl2).mono ?_
  rintro e w24 ⟨gc2, rfl, OC2, hgc2, hb⟩
  clear hgc2
  replace HB := btrans HB hb
  replace X := X.below hb
  replace OW := own_keep OW hb
  replace OG := own_keep OG hb
  replace N2 := N2.below hb
  replace OZ2 := own_keep OZ2 hb
  clear hb
  go_wp2_with fail
  refine (cSplitI b s r m js _ _ _ _ zs _ _ cs _ N2.ints hl (Ints.of_owns OZ2) hls (Cards.of_owns OC2) hl2).mono ?_
  rintro e w25 ⟨cst3, vh, L3, rfl, SB, OH, hb⟩
  obtain ⟨e1, e2⟩ := SA.unique SB
  subst e1
  subst e2
  clear SB
  clear N2 OZ2 OC2
  replace HB := btrans HB hb
  replace X := X.below hb
  replace OW := own_keep OW hb
  replace OG := own_keep OG hb
  clear hb
  obtain ⟨ha, hk, rfl⟩ := own_form OH
  go_wp2_with fail
  refine (cEqIntsn _ _ L.length _ _ L _ rfl OH OW (by unfold maxLen; omega)).mono ?_
  rintro e w26 ⟨rfl, hb⟩
  replace HB := btrans HB hb
  replace X := X.below hb
  replace OW := own_keep OW hb
  replace OG := own_keep OG hb
  replace OH := own_keep OH hb
  clear hb
  go_wp2_with fail
  refine (cHeldInts _ L.length _ 1 _ OG (by omega) (by omega) (by omega)).mono ?_
  rintro e w27 ⟨rfl, hw⟩
  subst w27
  go_wp2
  go_ret
  exact ⟨rfl, HB⟩
end Go.Proofs.Ytepdnaahhkkdeaa
