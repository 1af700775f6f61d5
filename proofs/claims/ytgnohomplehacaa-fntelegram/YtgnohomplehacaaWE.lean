/- The law of Encode. -/
import Derived.Test.YtgnohomplehacaaEP
namespace Go.Proofs.Ytgnohomplehacaa
open Go.RowKit
theorem blk_far {w w' : World} {b B e e' sz n : Nat} {v : Value} {xs : List Value} {cs : Array Value} {f : Nat × Nat} (hb : w.heap[b]? = some (.cells cs e' f)) (ho : w.ownsRow B e sz v n xs) (hne : e ≠ e') (hg : w.grownBy w' v.ownBlock) : w'.heap[b]? = some (.cells cs e' f) :=
  (hg.block b (lt_of_block hb) (fun e1 => own_apartB ho hb hne b e1.symm rfl)).trans hb
set_option maxHeartbeats 6400000 in
theorem walkEncode (q k : Int) (a : Option Addr) (cap : Nat) (zs : List Int) (w : World) (hz : Bys w a zs) (hy : By zs) (hl : zs.length ≤ maxLen) :
    Calls Try.prog 8 #[.agg #[.int .i64 q, .int .i64 k, .slice a zs.length cap]] w fun e w' => e = .returned (.bool true) ∧ Below w.heap.size w w' := by
  have A0 := one_block w (.cells #[.int .i64 q, .int .i64 k, .slice a zs.length cap] 41)
  have HB := balloc w (.cells #[.int .i64 q, .int .i64 k, .slice a zs.length cap] 41)
  go_enter Try.func8, Try.ntmps8
  go_wp2_with fail
  refine (cSzTel q k a zs.length cap 1048576 _ (by omega) (by omega) hl).mono ?_
  rintro e w1 ⟨r, rfl, hr, hb⟩
  replace HB := btrans HB hb
  replace A0 := blk_keep hb A0
  clear hb
  rcases hr with rfl | ⟨hr, hr0⟩
  · go_wp2
    go_ret
    exact ⟨rfl, HB⟩
  have hs : zs.length ≤ 1048576 := by omega
  have hr0' : ¬ (r < 0) := by omega
  clear hr
  obtain ⟨⟨x0, x1, x2⟩, -⟩ := blk3 A0
  go_wp2_with fail
  refine (cToTel q k a cap zs _ (hz.below HB) hs).mono ?_
  rintro e w2 ⟨g0, rfl, O0, hb⟩
  replace HB := btrans HB hb
  replace A0 := blk_keep hb A0
  clear hb x0 x1 x2
  go_wp2_with fail
  refine (cEncS q k _ _ zs _ (Bys.of_owns O0) hy hs).mono ?_
  rintro e w3 ⟨vS, rfl, RS, hb⟩
  replace HB := btrans HB hb
  replace A0 := blk_keep hb A0
  replace O0 := own_keep O0 hb
  clear hb O0
  obtain ⟨EV, hEV⟩ : ∃ EV, EV = encV ⟨q, k, zs⟩ := ⟨_, rfl⟩
  have hEl : EV.length ≤ 130 := by rw [hEV]; exact encV_len _
  rw [← hEV] at RS
  replace RS := own_base RS (Nat.zero_le _)
  have hSl := own_blk_lt RS
  have HB3 := HB.size
  clear hr0
  obtain ⟨⟨x0, x1, x2⟩, -⟩ := blk3 A0
  go_wp2_with fail
  refine (cToTel q k a cap zs _ (hz.below HB) hs).mono ?_
  rintro e w4 ⟨g1, rfl, O1, hb⟩
  replace HB := btrans HB hb
  replace A0 := blk_keep hb A0
  replace RS := own_keep RS hb
  clear hb x0 x1 x2
  have hSg : ∀ b, vS.ownBlock = some b → b ≠ g1 := fun b hb e => by have h1 := hSl b hb; have h2 := own_from O1 (Nat.le_refl _) g1 rfl; omega
  have X0 := one_block w4 (.cells #[.int .i64 q, .int .i64 k, .slice (some ⟨g1, 0, none⟩) zs.length zs.length] 25)
  have hb := balloc w4 (.cells #[.int .i64 q, .int .i64 k, .slice (some ⟨g1, 0, none⟩) zs.length zs.length] 25)
  go_wp2_with fail
  replace HB := btrans HB hb
  replace A0 := blk_keep hb A0
  replace RS := own_keep RS hb
  replace O1 := own_keep O1 hb
  clear hb
  have hg1 := owns_lt O1
  have hwg : w.heap.size ≤ g1 := by have h2 := own_from O1 (Nat.le_refl _) g1 rfl; have h3 := HB3; omega
  refine (cEncI q k _ _ zs _ (Bys.of_owns O1) hy (Nat.le_refl _)).mono ?_
  rintro e w5 ⟨vG, rfl, RG, hb⟩
  replace HB := btrans HB hb
  replace A0 := blk_keep hb A0
  replace RS := own_keep RS hb
  replace O1 := own_keep O1 hb
  replace X0 := blk_keep hb X0
  rw [← hEV] at RG
  have hGg : ∀ b, vG.ownBlock = some b → b ≠ g1 := fun b hb e => by have h2 := own_from RG (Nat.le_refl _) b hb; omega
  have hSl2 : ∀ b, vS.ownBlock = some b → vG.ownBlock ≠ some b := fun b hb e => by have h1 := hSl b hb; have h2 := own_from RG (Nat.le_refl _) b e; have h3 := own_from O1 (Nat.le_refl _) g1 rfl; omega
  have hGw : ∀ j, vG.ownBlock = some j → w.heap.size ≤ j := fun j hj => by have h2 := own_from RG (Nat.le_refl _) j hj; omega
  replace RG := own_base RG (Nat.zero_le _)
  clear hb hg1
  replace hEV := hide hEV
  obtain ⟨aG, cG, rfl⟩ := own_form RG
  obtain ⟨aS, cS, rfl⟩ := own_form RS
  go_wp2_with fail
  refine (cEqBysn _ _ _ _ _ EV _ rfl RG RS (by unfold maxLen; omega)).mono ?_
  rintro e w6 ⟨rfl, hb⟩
  replace HB := btrans HB hb
  replace A0 := blk_keep hb A0
  replace RS := own_keep RS hb
  replace O1 := own_keep O1 hb
  replace X0 := blk_keep hb X0
  replace RG := own_keep RG hb
  clear hb
  obtain ⟨⟨x0, x1, x2⟩, -⟩ := blk3 A0
  obtain ⟨⟨y0, y1, y2⟩, -⟩ := blk3 X0
  go_wp2_with fail
  go_region_held3 (fun w' => w'.cell? ⟨w4.heap.size, 0, none⟩ = some (.int .i64 q) ∧ w'.cell? ⟨w4.heap.size, 1, none⟩ = some (.int .i64 k) ∧ w'.cell? ⟨w4.heap.size, 2, none⟩ = some (.slice (some ⟨g1, 0, none⟩) zs.length zs.length) ∧ w'.cell? ⟨w.heap.size, 0, none⟩ = some (.int .i64 q) ∧ w'.cell? ⟨w.heap.size, 1, none⟩ = some (.int .i64 k) ∧ w'.cell? ⟨w.heap.size, 2, none⟩ = some (.slice a zs.length cap)) (go_keep) (first
    | (go_at_call 30; with_reducible refine (cEqTel q k _ _ _ _ zs _ P2b P3r hl).mono ?_; rintro e wb ⟨rfl, hbb⟩; have Bb := btrans Bp hbb; clear hbb; obtain ⟨⟨v0, v1, v2⟩, -⟩ := blk3 (blk_keep Bb X0); obtain ⟨⟨v3, v4, v5⟩, -⟩ := blk3 (blk_keep Bb A0))
    | (go_at_call 29; with_reducible refine (cToTel q k a cap zs _ (hz.below HB.drew) hs).mono ?_; rintro e wp ⟨g4, rfl, P3, hbp⟩; have Bp := undrew hbp; have P2b := Bys.of_owns (own_keep O1 Bp); have P3r := Bys.of_owns P3; clear hbp; obtain ⟨⟨v0, v1, v2⟩, -⟩ := blk3 (blk_keep Bp X0); obtain ⟨⟨v3, v4, v5⟩, -⟩ := blk3 (blk_keep Bp A0)))
  clear P3 P3r P2b Bp v0 v1 v2 v3 v4 v5 x0 x1 x2 y0 y1 y2
  replace HB := btrans HB Bb
  replace A0 := blk_keep Bb A0
  replace RS := own_keep RS Bb
  replace O1 := own_keep O1 Bb
  replace X0 := blk_keep Bb X0
  replace RG := own_keep RG Bb
  clear Bb
  obtain ⟨⟨y0, y1, y2⟩, -⟩ := blk3 X0
  go_wp2_with fail
  refine (cMarkTel _ zs.length q k _ zs 1 _ rfl O1 hs (by omega) (by omega)).mono ?_
  rintro e w7 ⟨rfl, M1, hg⟩
  clear y0 y1 y2
  replace HB := HB.grown hg HB.size (fun j hj => by simp [Value.ownBlock] at hj; omega)
  replace A0 := blk_far A0 O1 (by decide) hg
  replace RG := own_far RG hg (fun b hb e => hGg b hb (by simpa [Value.ownBlock] using e))
  replace RS := own_far RS hg (fun b hb e => hSg b hb (by simpa [Value.ownBlock] using e))
  clear hg O1 M1 X0
  have hk1 : ¬ (1 + (zs.length : Int) < 0) := by omega
  go_wp2_with fail
  refine (cEqBysn _ _ _ _ _ EV _ rfl RG RS (by unfold maxLen; omega)).mono ?_
  rintro e w8 ⟨rfl, hb⟩
  replace HB := btrans HB hb
  replace A0 := blk_keep hb A0
  replace RS := own_keep RS hb
  replace RG := own_keep RG hb
  clear hb
  go_wp2_with fail
  refine (cMarkBys _ EV.length _ EV 1 _ rfl RG (by omega) (by omega) (by omega)).mono ?_
  rintro e w9 ⟨rfl, MG, hg⟩
  replace HB := HB.grown hg HB.size (fun j hj => hGw j hj)
  replace A0 := blk_far A0 RG (by decide) hg
  replace RS := own_far RS hg (fun b hb e => hSl2 b hb e.symm)
  clear hg RG hk1
  have hq0 : ¬ (1 + (EV.length : Int) < 0) := by omega
  go_wp2_with fail
  refine (cHeldBys _ EV.length _ 1 _ MG (by omega) (by omega) (by omega)).mono ?_
  rintro e w10 ⟨rfl, hw⟩
  subst w10
  obtain ⟨⟨x0, x1, x2⟩, -⟩ := blk3 A0
  go_wp2_with fail
  refine (cToTel q k a cap zs _ (hz.below HB) hs).mono ?_
  rintro e w11 ⟨g5, rfl, O5, hb⟩
  replace HB := btrans HB hb
  replace A0 := blk_keep hb A0
  replace RS := own_keep RS hb
  replace MG := own_keep MG hb
  clear hb x0 x1 x2
  go_wp2_with fail
  refine (cEncI q k _ _ zs _ (Bys.of_owns O5) hy (Nat.le_refl _)).mono ?_
  rintro e w12 ⟨vH, rfl, RH, hb⟩
  replace HB := btrans HB hb
  replace A0 := blk_keep hb A0
  replace RS := own_keep RS hb
  replace MG := own_keep MG hb
  replace O5 := own_keep O5 hb
  clear hb O5
  rw [← hEV.out] at RH
  obtain ⟨aH, cH, rfl⟩ := own_form RH
  go_wp2_with fail
  refine (cEqBysn _ _ _ _ _ EV _ rfl RH RS (by unfold maxLen; omega)).mono ?_
  rintro e w13 ⟨rfl, hb⟩
  replace HB := btrans HB hb
  replace A0 := blk_keep hb A0
  replace RS := own_keep RS hb
  replace MG := own_keep MG hb
  clear hb
  go_wp2_with fail
  refine (cHeldBys _ EV.length _ 1 _ MG (by omega) (by omega) (by omega)).mono ?_
  rintro e w14 ⟨rfl, hw⟩
  subst w14
  go_wp2
  go_ret
  exact ⟨rfl, HB⟩
end Go.Proofs.Ytgnohomplehacaa
