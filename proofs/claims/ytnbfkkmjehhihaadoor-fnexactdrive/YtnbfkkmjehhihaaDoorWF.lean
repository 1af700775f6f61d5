/- The walk of the law on Forward. -/
import Derived.Test.YtnbfkkmjehhihaaDoorZD
namespace Go.Proofs.YtnbfkkmjehhihaaDoor
open Go.RowKit

theorem fwdR_len (n : Int) (ts : List SpanV) (k y : Int) : ((fwdR n ts k y).getD []).length ≤ 12 := by
  cases h : trainsOk n ts
  · rw [fwdR_no h]; simp
  · rw [fwdR_yes h]
    cases hf : fwd n ts k y with
    | none => simp
    | some L => exact (trains_of (fwd_ok h hf)).2.1
theorem shrR_len (n : Int) (ts : List SpanV) (k : Int) : ((shrR n ts k).getD []).length ≤ 12 := by
  cases h : trainsOk n ts
  · rw [shrR_no h]; simp
  · rw [shrR_yes h]
    cases hf : shr ts k with
    | none => simp
    | some L => exact (trains_of (shr_ok h hf)).2.1
theorem drive_len (n y : Int) (ts : List SpanV) (ms : List Int) : (drive n y ts ms).1.length ≤ 12 := by
  cases h : driveOk n y ts ms
  · rw [drive_no h]; simp
  · unfold drive
    rw [if_pos h]
    unfold driveOk at h
    simp only [Bool.and_eq_true] at h
    exact (trains_of (driveTo_ok h.1 _)).2.1

set_option maxHeartbeats 6400000 in
theorem walkFwd (a : Option Addr) (cap : Nat) (n : Int) (ts : List SpanV) (k y : Int) (w : World) (he : Spans w a ts) (hm : ts.length ≤ maxLen) (hg : Glob w) :
    Calls Tryd.prog 5 #[.int .i64 n, .slice a ts.length cap, .int .i64 k, .int .i64 y] w fun e w' => e = .returned (.bool true) ∧ Below w.heap.size w w' := by
  go_enter Tryd.func5, Tryd.ntmps5
  go_wp2_with fail
  refine (cSzSpans a ts.length cap 1048576 _ (by omega) (by omega) hm).mono ?_
  rintro e w0 ⟨r, rfl, hr, hw⟩
  subst w0
  rcases hr with rfl | ⟨rfl, hr⟩
  · go_wp2
    go_ret
    exact ⟨rfl, Below.refl _ _⟩
  have hl : ts.length ≤ 1048576 := by omega
  have hr' : ¬ (1048576 - (ts.length : Int) < 0) := by omega
  clear hm hr
  have CS := fun a cap w he => cFwdS a cap n ts k y w he hl
  have CI := fun g w he hg => cFwdI (some ⟨g, 0, none⟩) ts.length n ts k y w he (fun h => by cases h) (fun x h => by cases h; rfl) hl hg
  have hN : ((fwdR n ts k y).getD []).length ≤ 12 := fwdR_len n ts k y
  generalize (fwdR n ts k y) = r at *
  generalize hok : r.isSome = ok at *
  replace hok := hide hok
  generalize r.getD [] = L at *
  generalize hLn : L.length = N at *
  have hN6 : N ≤ 1048576 := by omega
  clear hLn
  go_wp2_with fail
  refine (cToSpans a cap ts _ (he.below (Below.refl _ _)) hl).mono ?_
  rintro e w1_ ⟨g1, rfl, o1, hg1, hb⟩
  clear hg1
  have HB1 := btrans (Below.refl _ _) hb
  clear hb 
  go_wp2_with fail
  refine (CS _ _ _ (Spans.of_owns o1)).mono ?_
  rintro e w2_ ⟨v0, rfl, o0, hb⟩
  have HB2 := btrans HB1 hb
  have t1_2 := own_keep o1 hb
  clear hb HB1 o1
  clear CS t1_2
  have L0 := own_blk_lt o0
  go_wp2_with fail
  refine (cToSpans a cap ts _ (he.below HB2) hl).mono ?_
  rintro e w3_ ⟨gx, rfl, ox, hgx, hb⟩
  have L0 : ∀ k, v0.ownBlock = some k → k < gx := fun k hk => by rw [hgx]; exact L0 k hk
  have hwg : w.heap.size ≤ gx := by rw [hgx]; exact HB2.size
  clear hgx
  have HB3 := btrans HB2 hb
  have o0_3 := own_keep o0 hb
  clear hb HB2 o0
  have hgl := owns_lt ox
  go_wp2_with fail
  refine (CI _ _ (Spans.of_owns ox) (hg.below HB3)).mono ?_
  rintro e w4_ ⟨v1, rfl, o1, hb⟩
  have L1 : ∀ k, v1.ownBlock = some k → gx < k := fun k hk => by have := own_from o1 (Nat.le_refl _) k hk; omega
  clear hgl
  have HB4 := btrans HB3 hb
  have o0_4 := own_keep o0_3 hb
  have ox_4 := own_keep ox hb
  clear hb HB3 o0_3 ox
  go_wp2_with fail
  refine (cEqSpansn N _ _ _ _ L _ (.inl o1) (.inl o0_4) hN6).mono ?_
  rintro e w5_ ⟨rfl, hb⟩
  have HB5 := btrans HB4 hb
  have o0_5 := own_keep o0_4 hb
  have ox_5 := own_keep ox_4 hb
  have o1_5 := own_keep o1 hb
  clear hb HB4 o0_4 ox_4 o1
  go_wp2_with fail
  refine (cToSpans a cap ts _ (he.below HB5) hl).mono ?_
  rintro e w6_ ⟨g3, rfl, o3, hg3, hb⟩
  clear hg3
  have HB6 := btrans HB5 hb
  have o0_6 := own_keep o0_5 hb
  have ox_6 := own_keep ox_5 hb
  have o1_6 := own_keep o1_5 hb
  clear hb HB5 o0_5 ox_5 o1_5
  go_wp2_with fail
  refine (cEqSpans _ _ _ _ ts _ (Spans.of_owns ox_6) (Spans.of_owns o3) hl).mono ?_
  rintro e w7_ ⟨rfl, hb⟩
  have HB7 := btrans HB6 hb
  have o0_7 := own_keep o0_6 hb
  have ox_7 := own_keep ox_6 hb
  have o1_7 := own_keep o1_6 hb
  clear hb HB6 o0_6 ox_6 o1_6
  clear o3
  go_wp2_with fail
  refine (cMarkSpansg _ gx _ ts 1 _ ox_7 hl (by omega) (by omega)).mono ?_
  rintro e w8_ ⟨rfl, -, hgr⟩
  have HB8 : Below w.heap.size w w8_ := HB7.grown hgr HB7.size (fun k hk => by cases hk; omega)
  have o0_8 := own_far o0_7 hgr (fun k hk h => by have := L0 k hk; cases h; omega)
  have o1_8 := own_far o1_7 hgr (fun k hk h => by have := L1 k hk; cases h; omega)
  clear hgr HB7 o0_7 ox_7 o1_7
  have hpos : ¬ (1 + 2 * (ts.length : Int) < 0) := by omega
  go_wp2_with fail
  refine (cEqSpansn N _ _ _ _ L _ (.inl o1_8) (.inl o0_8) hN6).mono ?_
  rintro e w9_ ⟨rfl, hb⟩
  have HB9 := btrans HB8 hb
  have o0_9 := own_keep o0_8 hb
  have o1_9 := own_keep o1_8 hb
  clear hb HB8 o0_8 o1_8
  go_wp2_with fail
  refine (cMarkSpans _ N _ L 1 _ (.inl o1_9) hN6 (by omega) (by omega)).mono ?_
  rintro e w10_ ⟨rfl, om, rr, hgr, hrr⟩
  have HB10 : Below w.heap.size w w10_ := HB9.grown hgr HB9.size (fun k hk => by have := L1 k (hrr k hk).2; omega)
  have o0_10 := own_far o0_9 hgr (fun k hk h => by have := L0 k hk; have := L1 k (hrr k h.symm).2; omega)
  clear hgr hrr HB9 o0_9 o1_9
  go_wp2_with fail
  refine (cHeldSpans _ N _ 1 _ om hN6 (by omega) (by omega)).mono ?_
  rintro e w11_ ⟨rfl, hw⟩
  subst w11_
  have hpos2 : ¬ (1 + 2 * (N : Int) < 0) := by omega
  go_wp2_with fail
  refine (cToSpans a cap ts _ (he.below HB10) hl).mono ?_
  rintro e w12_ ⟨g5, rfl, o5, hg5, hb⟩
  clear hg5
  have HB12 := btrans HB10 hb
  have o0_12 := own_keep o0_10 hb
  have om_12 := Rw.keep om hb
  clear hb HB10 o0_10 om
  go_wp2_with fail
  refine (CI _ _ (Spans.of_owns o5) (hg.below HB12)).mono ?_
  rintro e w13_ ⟨v2, rfl, o2, hb⟩
  have HB13 := btrans HB12 hb
  have o0_13 := own_keep o0_12 hb
  have om_13 := Rw.keep om_12 hb
  clear hb HB12 o0_12 om_12
  go_wp2_with fail
  refine (cEqSpansn N _ _ _ _ L _ (.inl o2) (.inl o0_13) hN6).mono ?_
  rintro e w14_ ⟨rfl, hb⟩
  have HB14 := btrans HB13 hb
  have o0_14 := own_keep o0_13 hb
  have om_14 := Rw.keep om_13 hb
  clear hb HB13 o0_13 om_13
  go_wp2_with fail
  refine (cHeldSpans _ N _ 1 _ om_14 hN6 (by omega) (by omega)).mono ?_
  rintro e w15_ ⟨rfl, hw⟩
  subst w15_
  go_wp2
  go_ret
  exact ⟨rfl, HB14⟩
end Go.Proofs.YtnbfkkmjehhihaaDoor
