/- The walk of the law on Spread. -/
import Derived.Test.YtgnlcehpajbnoaaTL
import Derived.Deep.RegionHeld3
namespace Go.Proofs.Ytgnlcehpajbnoaa
open Go.RowKit Go.Lib
set_option maxRecDepth 20000 in
set_option maxHeartbeats 12800000 in
theorem walkSpread (S P : Int) (a : Option Addr) (c : Nat) (hs : List BkV) (on : Int) (off : Int) (w : World) (hz : Bks w a hs) (hn : hs.length ≤ maxLen) :
    Calls Try.prog 10 #[.agg #[.int .i64 S, .int .i64 P, .slice a hs.length c], .int .i64 on, .int .i64 off] w fun e w' => e = .returned (.bool true) ∧ Below w.heap.size w w' := by
  have HB := balloc w (.cells #[.int .i64 S, .int .i64 P, .slice a hs.length c] 48)
  have KX : (w.alloc (.cells #[.int .i64 S, .int .i64 P, .slice a hs.length c] 48)).heap[w.heap.size]? = some (.cells #[.int .i64 S, .int .i64 P, .slice a hs.length c] 48 (0, 0)) := heap_alloc_new w _
  go_enter Try.func10, Try.ntmps10
  obtain ⟨⟨x0, x1, x2⟩, -⟩ := blk3 KX
  go_wp2_with fail
  refine (cSzTr a _ c _ _ 1048576 _ (by omega) (by omega) hn).mono ?_
  rintro e w1 ⟨r1, rfl, hr, hb⟩
  replace HB := btrans HB hb
  replace KX := blk_keep hb KX
  clear hb
  clear x0 x1 x2
  rcases hr with rfl | ⟨hr, hr0⟩
  · go_wp2
    go_ret
    exact ⟨rfl, HB⟩
  have hl : hs.length ≤ 1048576 := by omega
  have hr5 : ¬ r1 < 0 := by omega
  have hr6 : r1 ≤ 1048576 := by omega
  clear hr
  obtain ⟨⟨x0, x1, x2⟩, -⟩ := blk3 KX
  go_wp2_with fail
  refine (cToTr a c S P hs _ (hz.below HB) hl).mono ?_
  rintro e w2 ⟨gt0, rfl, N0, hb⟩
  replace HB := btrans HB hb
  replace KX := blk_keep hb KX
  clear hb
  clear x0 x1 x2
  go_wp2_with fail
  refine (cSpreadS S P _ _ hs on off _ (Bks.of_owns N0) hl).mono ?_
  rintro e w3 ⟨vW0, rfl, W0, hb⟩
  clear N0
  replace HB := btrans HB hb
  replace KX := blk_keep hb KX
  clear hb
  have hvW0 := own_blk_lt W0
  obtain ⟨Wa0, Wc0, hv⟩ := own_form W0
  subst hv
  obtain ⟨⟨x0, x1, x2⟩, -⟩ := blk3 KX
  go_wp2_with fail
  have HBs := lt_of_block KX
  refine (cToTr a c S P hs _ (hz.below HB) hl).mono ?_
  rintro e w4 ⟨gt1, rfl, N1, hb⟩
  have a1 := own_from N1 (Nat.le_refl _) gt1 rfl
  replace HB := btrans HB hb
  replace KX := blk_keep hb KX
  replace W0 := own_keep W0 hb
  clear hb
  clear x0 x1 x2
  have KY : (w4.alloc (.cells #[.int .i64 S, .int .i64 P, .slice (some ⟨gt1, 0, none⟩) hs.length hs.length] 26)).heap[w4.heap.size]? = some (.cells #[.int .i64 S, .int .i64 P, .slice (some ⟨gt1, 0, none⟩) hs.length hs.length] 26 (0, 0)) := heap_alloc_new w4 _
  have hbY := balloc w4 (.cells #[.int .i64 S, .int .i64 P, .slice (some ⟨gt1, 0, none⟩) hs.length hs.length] 26)
  replace HB := btrans HB hbY
  replace KX := blk_keep hbY KX
  replace W0 := own_keep W0 hbY
  replace N1 := own_keep N1 hbY
  clear hbY
  have a2 := owns_lt N1
  obtain ⟨⟨y0, y1, y2⟩, -⟩ := blk3 KY
  go_wp2_with fail
  refine (cSpreadI S P _ _ hs on off _ (Bks.of_owns N1) hl).mono ?_
  rintro e w5 ⟨vG0, rfl, G0, hb⟩
  have hvG0 := own_from G0 (Nat.le_refl _)
  clear y0 y1 y2
  replace HB := btrans HB hb
  replace KX := blk_keep hb KX
  replace W0 := own_keep W0 hb
  replace N1 := own_keep N1 hb
  replace KY := blk_keep hb KY
  clear hb
  obtain ⟨Ga0, Gc0, hv⟩ := own_form G0
  subst hv
  have hLen0 : (spreadV S P hs on off).length ≤ 1048576 := spreadV_len _ _ _ _ _
  go_wp2_with fail
  refine (cEqIntsn _ _ (spreadV S P hs on off).length _ _ (spreadV S P hs on off) _ rfl G0 W0 (by unfold maxLen; have := hLen0; omega)).mono ?_
  rintro e w6 ⟨rfl, hb⟩
  replace HB := btrans HB hb
  replace KX := blk_keep hb KX
  replace W0 := own_keep W0 hb
  replace N1 := own_keep N1 hb
  replace KY := blk_keep hb KY
  replace G0 := own_keep G0 hb
  clear hb
  obtain ⟨⟨x0, x1, x2⟩, -⟩ := blk3 KX
  obtain ⟨⟨y0, y1, y2⟩, -⟩ := blk3 KY
  have hE := hz.below HB.drew
  go_wp2_with fail
  go_region_held3 (fun w' => w'.cell? ⟨w4.heap.size, 0, none⟩ = some (.int .i64 S) ∧ w'.cell? ⟨w4.heap.size, 1, none⟩ = some (.int .i64 P) ∧ w'.cell? ⟨w4.heap.size, 2, none⟩ = some (.slice (some ⟨gt1, 0, none⟩) hs.length hs.length) ∧ w'.cell? ⟨w.heap.size, 0, none⟩ = some (.int .i64 S) ∧ w'.cell? ⟨w.heap.size, 1, none⟩ = some (.int .i64 P) ∧ w'.cell? ⟨w.heap.size, 2, none⟩ = some (.slice a hs.length c)) (go_keep) (first
    | (go_at_call 29; with_reducible refine (cEqTr _ _ _ _ S P hs _ P1 P3 hl).mono ?_; rintro e wb ⟨rfl, hbb⟩; have Bb := btrans Bp hbb; clear hbb; obtain ⟨⟨v0, v1, v2⟩, -⟩ := blk3 (blk_keep Bb KY); obtain ⟨⟨v4, v5, v6⟩, -⟩ := blk3 (blk_keep Bb KX))
    | (go_at_call 28; with_reducible refine (cToTr a c S P hs _ hE hl).mono ?_; rintro e wp ⟨g3, rfl, N3, hbp⟩; have Bp := undrew hbp; have P1 := Bks.of_owns (own_keep N1 Bp); have P3 := Bks.of_owns N3; clear hbp; obtain ⟨⟨v0, v1, v2⟩, -⟩ := blk3 (blk_keep Bp KY); obtain ⟨⟨v4, v5, v6⟩, -⟩ := blk3 (blk_keep Bp KX)))
  replace HB := btrans HB Bb
  replace KX := blk_keep Bb KX
  replace W0 := own_keep W0 Bb
  replace N1 := own_keep N1 Bb
  replace KY := blk_keep Bb KY
  replace G0 := own_keep G0 Bb
  clear Bb
  clear x0 x1 x2 y0 y1 y2 v0 v1 v2 v4 v5 v6 Bp P1 P3 N3 hE
  have hW0 : ∀ k, (Value.slice Wa0 (spreadV S P hs on off).length Wc0).ownBlock = some k → k < gt1 := fun k hk => by have h1 := hvW0 k hk; omega
  have hG0 : ∀ k, (Value.slice Ga0 (spreadV S P hs on off).length Gc0).ownBlock = some k → gt1 < k := fun k hk => by have := hvG0 k hk; omega
  have a7 : w.heap.size < gt1 := by have := HBs; omega
  clear hvW0 hvG0 a1 a2 HBs
  obtain ⟨⟨y0, y1, y2⟩, -⟩ := blk3 KY
  go_wp2_with fail
  have MK := N1
  refine (cMarkTr _ hs.length _ _ _ hs 1 _ N1 hl (by omega) (by omega)).mono ?_
  rintro e w7 ⟨rfl, _, hg⟩
  clear y0 y1 y2
  clear N1 KY
  replace HB := HB.grown hg HB.size (fun j e => by simp [Value.ownBlock] at e; omega)
  replace KX := blk_app MK hg KX (by decide)
  replace W0 := own_far W0 hg (row_apart W0 MK (by decide))
  replace G0 := own_far G0 hg (row_apart G0 MK (by decide))
  clear hg MK
  have hk9 : ¬ ((1 : Int) + 4 * hs.length < 0) := by omega
  go_wp2_with fail
  refine (cEqIntsn _ _ (spreadV S P hs on off).length _ _ (spreadV S P hs on off) _ rfl G0 W0 (by unfold maxLen; have := hLen0; omega)).mono ?_
  rintro e w8 ⟨rfl, hb⟩
  replace HB := btrans HB hb
  replace KX := blk_keep hb KX
  replace W0 := own_keep W0 hb
  replace G0 := own_keep G0 hb
  clear hb
  go_wp2_with fail
  have MK := G0
  refine (cMarkInts _ (spreadV S P hs on off).length _ (spreadV S P hs on off) (1) _ rfl G0 hLen0 (by omega) (by omega)).mono ?_
  rintro e w9 ⟨rfl, Q0, hg⟩
  clear G0
  replace HB := HB.grown hg HB.size (fun j e => by have := hG0 j e; omega)
  replace KX := blk_app MK hg KX (by decide)
  replace W0 := own_far W0 hg (fun k hk e => by have := hW0 k hk; have := hG0 k e.symm; omega)
  clear hg MK
  have hqq0 : ¬ (((1 + (spreadV S P hs on off).length) : Int) < 0) := by omega
  go_wp2_with fail
  refine (cHeldInts _ (spreadV S P hs on off).length _ (1) _ Q0 hLen0 (by omega) (by omega)).mono ?_
  rintro e w10 ⟨rfl, hw⟩
  subst w10
  obtain ⟨⟨x0, x1, x2⟩, -⟩ := blk3 KX
  go_wp2_with fail
  refine (cToTr a c S P hs _ (hz.below HB) hl).mono ?_
  rintro e w11 ⟨gt2, rfl, N2, hb⟩
  replace HB := btrans HB hb
  replace KX := blk_keep hb KX
  replace W0 := own_keep W0 hb
  replace Q0 := own_keep Q0 hb
  clear hb
  clear x0 x1 x2
  go_wp2_with fail
  refine (cSpreadI S P _ _ hs on off _ (Bks.of_owns N2) hl).mono ?_
  rintro e w12 ⟨vH0, rfl, H0, hb⟩
  clear N2
  replace HB := btrans HB hb
  replace KX := blk_keep hb KX
  replace W0 := own_keep W0 hb
  replace Q0 := own_keep Q0 hb
  clear hb
  obtain ⟨Ha0, Hc0, hv⟩ := own_form H0
  subst hv
  go_wp2_with fail
  refine (cEqIntsn _ _ (spreadV S P hs on off).length _ _ (spreadV S P hs on off) _ rfl H0 W0 (by unfold maxLen; have := hLen0; omega)).mono ?_
  rintro e w13 ⟨rfl, hb⟩
  replace HB := btrans HB hb
  replace KX := blk_keep hb KX
  replace W0 := own_keep W0 hb
  replace Q0 := own_keep Q0 hb
  replace H0 := own_keep H0 hb
  clear hb
  go_wp2_with fail
  refine (cHeldInts _ (spreadV S P hs on off).length _ (1) _ Q0 hLen0 (by omega) (by omega)).mono ?_
  rintro e w14 ⟨rfl, hw⟩
  subst w14
  go_wp2
  go_ret
  exact ⟨rfl, HB⟩

end Go.Proofs.Ytgnlcehpajbnoaa
