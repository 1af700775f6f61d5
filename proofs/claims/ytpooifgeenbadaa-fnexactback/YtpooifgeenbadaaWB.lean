/- The walk of the law on Back. -/
import Derived.Test.YtpooifgeenbadaaBI
import Derived.Test.YtpooifgeenbadaaP
import Derived.Deep.RegionHeld3
namespace Go.Proofs.Ytpooifgeenbadaa
open Go.RowKit

set_option maxRecDepth 20000 in
set_option maxHeartbeats 6400000 in
theorem walkBack (s : ByteArray) (a : Option Addr) (cap : Nat) (cs : List HaltV) (x : Int) (w : World) (hz : Halts w a cs) (hm : cs.length ≤ maxLen) (hms : s.size ≤ maxLen) :
    Calls Try.prog 3 #[.agg #[.string s, .slice a cs.length cap], .int .i64 x] w fun e w' => e = .returned (.bool true) ∧ Below w.heap.size w w' := by
  have CS := fun a cap w hz hl hs => cBackS s a cap cs x w hz hl hs
  have CI := fun a cap w hz hl hc => cBackI s a cap cs x w hz hl hc
  have CL : cs.length ≤ 1048576 → (backT ⟨s, cs⟩ x).calls.length ≤ 1048576 := back_small s cs x
  unfold AnsTrip at CS CI
  generalize backT ⟨s, cs⟩ x = T at *
  obtain ⟨ts, tc⟩ := T
  dsimp only at *
  have A0 := one_block w (.cells #[.string s, .slice a cs.length cap] 24)
  have HB := balloc w (.cells #[.string s, .slice a cs.length cap] 24)
  go_enter Try.func3, Try.ntmps3
  go_wp2_with fail
  refine (cSzTrip s a cs.length cap 1048576 _ (by omega) (by omega) hm hms).mono ?_
  rintro e w1 ⟨r, rfl, hr, hb⟩
  replace HB := btrans HB hb
  replace A0 := blk_keep hb A0
  clear hb
  rcases hr with rfl | ⟨hr, hr0⟩
  · go_wp2
    go_ret
    exact ⟨rfl, HB⟩
  have hl : cs.length ≤ 1048576 := by omega
  have hs : s.size ≤ 1048576 := by omega
  have hr0' : ¬ (r < 0) := by omega
  replace CL := CL hl
  clear hr hm hms hr0
  have u1 := lt_of_block A0
  obtain ⟨⟨x0, x1⟩, -⟩ := blk2 A0
  go_wp2_with fail
  clear x0 x1
  refine (cToTrip s a cap cs _ (hz.below HB) hl).mono ?_
  rintro e w2 ⟨g1, rfl, o1, hb⟩
  replace HB := btrans HB hb
  replace A0 := blk_keep hb A0
  have u2 := hb.size
  clear hb
  go_wp2_with fail
  refine (CS _ _ _ (Halts.of_owns o1) hl hs).mono ?_
  rintro e w3 ⟨a8, c8, rfl, O8, hb⟩
  replace HB := btrans HB hb
  replace A0 := blk_keep hb A0
  have u3 := hb.size
  have l8 := own_from O8 (Nat.le_refl _)
  have h8 := own_blk_lt O8
  clear hb o1 CS
  -- the model's answer in its box
  have W0 := one_block w3 (.cells #[.string ts, .slice a8 tc.length c8] 28)
  have hb := balloc w3 (.cells #[.string ts, .slice a8 tc.length c8] 28)
  have u4 : (w3.alloc (.cells #[.string ts, .slice a8 tc.length c8] 28)).heap.size = w3.heap.size + 1 := by simp
  replace HB := btrans HB hb
  replace A0 := blk_keep hb A0
  replace O8 := own_keep O8 hb
  clear hb
  obtain ⟨⟨x0, x1⟩, -⟩ := blk2 A0
  go_wp2_with fail
  clear x0 x1
  refine (cToTrip s a cap cs _ (hz.below HB) hl).mono ?_
  rintro e w4 ⟨g2, rfl, O2, hb⟩
  replace HB := btrans HB hb
  replace A0 := blk_keep hb A0
  replace W0 := blk_keep hb W0
  replace O8 := own_keep O8 hb
  have u5 := hb.size
  rw [u4] at u5 O2
  have l2 := own_from O2 (Nat.le_refl _) g2 rfl
  have h2 := owns_lt O2
  clear hb u4
  have X0 := one_block w4 (.cells #[.string s, .slice (some ⟨g2, 0, none⟩) cs.length cs.length] 28)
  have hb := balloc w4 (.cells #[.string s, .slice (some ⟨g2, 0, none⟩) cs.length cs.length] 28)
  have u6 : (w4.alloc (.cells #[.string s, .slice (some ⟨g2, 0, none⟩) cs.length cs.length] 28)).heap.size = w4.heap.size + 1 := by simp
  replace HB := btrans HB hb
  replace A0 := blk_keep hb A0
  replace W0 := blk_keep hb W0
  replace O8 := own_keep O8 hb
  replace O2 := own_keep O2 hb
  clear hb
  go_wp2_with fail
  refine (CI _ _ _ (Halts.of_owns O2) hl (Nat.le_refl _)).mono ?_
  rintro e w5 ⟨a7, c7, rfl, O7, hb⟩
  replace HB := btrans HB hb
  replace A0 := blk_keep hb A0
  replace W0 := blk_keep hb W0
  replace X0 := blk_keep hb X0
  replace O8 := own_keep O8 hb
  replace O2 := own_keep O2 hb
  have u7 := hb.size
  rw [u6] at u7 O7
  have l7 := own_from O7 (Nat.le_refl _)
  have h7 := own_blk_lt O7
  clear hb u6
  have G0 := one_block w5 (.cells #[.string ts, .slice a7 tc.length c7] 28)
  have hb := balloc w5 (.cells #[.string ts, .slice a7 tc.length c7] 28)
  replace HB := btrans HB hb
  replace A0 := blk_keep hb A0
  replace W0 := blk_keep hb W0
  replace X0 := blk_keep hb X0
  replace O8 := own_keep O8 hb
  replace O2 := own_keep O2 hb
  replace O7 := own_keep O7 hb
  clear hb
  obtain ⟨⟨x0, x1⟩, -⟩ := blk2 G0
  obtain ⟨⟨y0, y1⟩, -⟩ := blk2 W0
  go_wp2_with fail
  clear x0 x1 y0 y1
  refine (cEqTrip ts _ _ _ _ tc _ (Halts.own O7) (Halts.own O8) CL).mono ?_
  rintro e w6 ⟨rfl, hb⟩
  replace HB := btrans HB hb
  replace A0 := blk_keep hb A0
  replace W0 := blk_keep hb W0
  replace X0 := blk_keep hb X0
  replace G0 := blk_keep hb G0
  replace O8 := own_keep O8 hb
  replace O2 := own_keep O2 hb
  replace O7 := own_keep O7 hb
  clear hb
  obtain ⟨⟨x0, x1⟩, -⟩ := blk2 A0
  obtain ⟨⟨y0, y1⟩, -⟩ := blk2 X0
  go_wp2_with fail
  go_region_held3 (fun w' => w'.cell? ⟨w4.heap.size, 0, none⟩ = some (.string s) ∧ w'.cell? ⟨w4.heap.size, 1, none⟩ = some (.slice (some ⟨g2, 0, none⟩) cs.length cs.length) ∧ w'.cell? ⟨w.heap.size, 0, none⟩ = some (.string s) ∧ w'.cell? ⟨w.heap.size, 1, none⟩ = some (.slice a cs.length cap)) (go_keep) (first
    | (go_at_call 8; with_reducible refine (cEqTrip s _ _ _ _ cs _ P2b P3r hl).mono ?_; rintro e wb ⟨rfl, hbb⟩; have Bb := btrans Bp hbb; clear hbb; obtain ⟨⟨v0, v1⟩, -⟩ := blk2 (blk_keep Bb X0); obtain ⟨⟨v2, v3⟩, -⟩ := blk2 (blk_keep Bb A0))
    | (go_at_call 6; with_reducible refine (cToTrip s a cap cs _ (hz.below HB.drew) hl).mono ?_; rintro e wp ⟨g4, rfl, P3, hbp⟩; have Bp := undrew hbp; have P2b := Halts.of_owns (own_keep O2 Bp); have P3r := Halts.of_owns P3; clear hbp; obtain ⟨⟨v0, v1⟩, -⟩ := blk2 (blk_keep Bp X0); obtain ⟨⟨v2, v3⟩, -⟩ := blk2 (blk_keep Bp A0)))
  clear P3 P3r P2b Bp v0 v1 v2 v3 x0 x1 y0 y1
  have hb := Bb
  clear Bb
  replace HB := btrans HB hb
  replace A0 := blk_keep hb A0
  replace W0 := blk_keep hb W0
  replace X0 := blk_keep hb X0
  replace G0 := blk_keep hb G0
  replace O8 := own_keep O8 hb
  replace O2 := own_keep O2 hb
  replace O7 := own_keep O7 hb
  clear hb
  -- x0 is marked
  obtain ⟨⟨x0, x1⟩, -⟩ := blk2 X0
  go_wp2_with fail
  clear x0 x1
  refine (cMarkTrip _ _ s _ cs _ (.inl O2) hl).mono ?_
  rintro e w7 ⟨rfl, -, r1, hgr, hr1⟩
  have hr2 : ∀ j, r1 = some j → j = g2 := fun j hj => by have := hr1 j hj; simpa [Value.ownBlock] using this.symm
  replace HB := HB.grown hgr HB.size (fun j hj => by have := hr2 j hj; omega)
  replace A0 := far_blk hgr A0 (fun j hj => by have := hr2 j hj; omega)
  replace W0 := far_blk hgr W0 (fun j hj => by have := hr2 j hj; omega)
  replace G0 := far_blk hgr G0 (fun j hj => by have := hr2 j hj; omega)
  replace O8 := own_far O8 hgr (fun k hk e => by have := hr2 k e.symm; have := h8 k hk; omega)
  replace O7 := own_far O7 hgr (fun k hk e => by have := hr2 k e.symm; have := l7 k hk; omega)
  clear hgr hr1 hr2 O2 X0
  have hn1 : ¬ ((1 : Int) + 3 * (cs.length : Int) < 0) := by omega
  obtain ⟨⟨x0, x1⟩, -⟩ := blk2 G0
  obtain ⟨⟨y0, y1⟩, -⟩ := blk2 W0
  go_wp2_with fail
  clear x0 x1 y0 y1
  refine (cEqTrip ts _ _ _ _ tc _ (Halts.own O7) (Halts.own O8) CL).mono ?_
  rintro e w8 ⟨rfl, hb⟩
  replace HB := btrans HB hb
  replace A0 := blk_keep hb A0
  replace W0 := blk_keep hb W0
  replace G0 := blk_keep hb G0
  replace O8 := own_keep O8 hb
  replace O7 := own_keep O7 hb
  clear hb
  obtain ⟨⟨x0, x1⟩, -⟩ := blk2 G0
  go_wp2_with fail
  clear x0 x1
  refine (cMarkTrip _ _ ts _ tc _ (.inl O7) CL).mono ?_
  rintro e w9 ⟨rfl, R7, r1, hgr, hr1⟩
  replace HB := HB.grown hgr HB.size (fun j hj => by have := l7 j (hr1 j hj); omega)
  replace A0 := far_blk hgr A0 (fun j hj => by have := l7 j (hr1 j hj); omega)
  replace W0 := far_blk hgr W0 (fun j hj => by have := l7 j (hr1 j hj); omega)
  replace G0 := far_blk hgr G0 (fun j hj => by have := h7 j (hr1 j hj); omega)
  replace O8 := own_far O8 hgr (fun k hk e => by have := l7 k (hr1 k e.symm); have := h8 k hk; omega)
  clear hgr hr1 O7
  obtain ⟨⟨x0, x1⟩, -⟩ := blk2 G0
  go_wp2_with fail
  clear x0 x1
  refine (cHeldTrip _ _ ts _ _ R7 CL).mono ?_
  rintro e w10 ⟨rfl, hb⟩
  replace HB := btrans HB hb
  replace A0 := blk_keep hb A0
  replace W0 := blk_keep hb W0
  replace G0 := blk_keep hb G0
  replace O8 := own_keep O8 hb
  replace R7 := Rw.keep R7 hb
  clear hb
  have hn2 : ¬ ((1 : Int) + 3 * (tc.length : Int) < 0) := by omega
  obtain ⟨⟨x0, x1⟩, -⟩ := blk2 A0
  go_wp2_with fail
  clear x0 x1
  refine (cToTrip s a cap cs _ (hz.below HB) hl).mono ?_
  rintro e w11 ⟨g3, rfl, O3, hb⟩
  replace HB := btrans HB hb
  replace A0 := blk_keep hb A0
  replace W0 := blk_keep hb W0
  replace G0 := blk_keep hb G0
  replace O8 := own_keep O8 hb
  replace R7 := Rw.keep R7 hb
  clear hb
  go_wp2_with fail
  refine (CI _ _ _ (Halts.of_owns O3) hl (Nat.le_refl _)).mono ?_
  rintro e w12 ⟨a6, c6, rfl, O6, hb⟩
  replace HB := btrans HB hb
  replace A0 := blk_keep hb A0
  replace W0 := blk_keep hb W0
  replace G0 := blk_keep hb G0
  replace O8 := own_keep O8 hb
  replace R7 := Rw.keep R7 hb
  clear hb
  clear O3 CI
  have H0 := one_block w12 (.cells #[.string ts, .slice a6 tc.length c6] 28)
  have hb := balloc w12 (.cells #[.string ts, .slice a6 tc.length c6] 28)
  replace O6 := own_keep O6 hb
  replace HB := btrans HB hb
  replace A0 := blk_keep hb A0
  replace W0 := blk_keep hb W0
  replace G0 := blk_keep hb G0
  replace O8 := own_keep O8 hb
  replace R7 := Rw.keep R7 hb
  clear hb
  obtain ⟨⟨x0, x1⟩, -⟩ := blk2 H0
  obtain ⟨⟨y0, y1⟩, -⟩ := blk2 W0
  go_wp2_with fail
  clear x0 x1 y0 y1
  refine (cEqTrip ts _ _ _ _ tc _ (Halts.own O6) (Halts.own O8) CL).mono ?_
  rintro e w13 ⟨rfl, hb⟩
  replace HB := btrans HB hb
  replace A0 := blk_keep hb A0
  replace W0 := blk_keep hb W0
  replace G0 := blk_keep hb G0
  replace O8 := own_keep O8 hb
  replace R7 := Rw.keep R7 hb
  clear hb
  clear O6 O8 H0 W0
  obtain ⟨⟨x0, x1⟩, -⟩ := blk2 G0
  go_wp2_with fail
  clear x0 x1
  refine (cHeldTrip _ _ ts _ _ R7 CL).mono ?_
  rintro e w14 ⟨rfl, hb⟩
  replace HB := btrans HB hb
  go_wp2
  go_ret
  exact ⟨rfl, HB⟩
end Go.Proofs.Ytpooifgeenbadaa
