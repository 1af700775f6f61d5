/- The walk of the law on PlaySales. -/
import Derived.Test.YtgnlcehpajbnoaaTL
import Derived.Deep.RegionHeld3
namespace Go.Proofs.Ytgnlcehpajbnoaa
open Go.RowKit Go.Lib
set_option maxRecDepth 20000 in
set_option maxHeartbeats 12800000 in
theorem walkPlaySales (S P : Int) (a : Option Addr) (c : Nat) (hs : List BkV) (sa : Option Addr) (sc : Nat) (sl : List SaV) (w : World) (hz : Bks w a hs) (hn : hs.length ≤ maxLen) (hy : Sas w sa sl) (hn2 : sl.length ≤ maxLen) :
    Calls Try.prog 11 #[.agg #[.int .i64 S, .int .i64 P, .slice a hs.length c], .slice sa sl.length sc] w fun e w' => e = .returned (.bool true) ∧ Below w.heap.size w w' := by
  have HB := balloc w (.cells #[.int .i64 S, .int .i64 P, .slice a hs.length c] 48)
  have KX : (w.alloc (.cells #[.int .i64 S, .int .i64 P, .slice a hs.length c] 48)).heap[w.heap.size]? = some (.cells #[.int .i64 S, .int .i64 P, .slice a hs.length c] 48 (0, 0)) := heap_alloc_new w _
  go_enter Try.func11, Try.ntmps11
  obtain ⟨⟨x0, x1, x2⟩, -⟩ := blk3 KX
  go_wp2_with fail
  refine (cSzTr a _ c _ _ 1048576 _ (by omega) (by omega) hn).mono ?_
  rintro e w1 ⟨r1, rfl, hr, hb⟩
  replace HB := btrans HB hb
  replace KX := blk_keep hb KX
  clear hb
  clear x0 x1 x2
  rcases hr with rfl | ⟨hr, hr0⟩
  · go_wp2
    go_ret
    exact ⟨rfl, HB⟩
  have hl : hs.length ≤ 1048576 := by omega
  have hr5 : ¬ r1 < 0 := by omega
  have hr6 : r1 ≤ 1048576 := by omega
  clear hr
  go_wp2_with fail
  refine (cSzSas sa _ sc r1 _ hr0 hr6 hn2).mono ?_
  rintro e w2 ⟨r2, rfl, hq, hw⟩
  subst w2
  rcases hq with rfl | ⟨hq, hq0⟩
  · go_wp2
    go_ret
    exact ⟨rfl, HB⟩
  have hl2 : sl.length ≤ 1048576 := by omega
  have hq5 : ¬ r2 < 0 := by omega
  clear hq
  obtain ⟨⟨x0, x1, x2⟩, -⟩ := blk3 KX
  go_wp2_with fail
  refine (cToTr a c S P hs _ (hz.below HB) hl).mono ?_
  rintro e w3 ⟨gt0, rfl, N0, hb⟩
  replace HB := btrans HB hb
  replace KX := blk_keep hb KX
  clear hb
  clear x0 x1 x2
  go_wp2_with fail
  refine (cToSas sa sc sl _ (hy.below HB) hl2).mono ?_
  rintro e w4 ⟨gs0, rfl, OS0, hgs0, hb⟩
  clear hgs0
  replace HB := btrans HB hb
  replace KX := blk_keep hb KX
  replace N0 := own_keep N0 hb
  clear hb
  go_wp2_with fail
  refine (cPlayS S P _ _ hs _ _ sl _ (Bks.of_owns N0) hl (Sas.of_owns OS0) hl2).mono ?_
  rintro e w5 ⟨vW0, vW1, rfl, W0, W1, hb⟩
  clear N0 OS0
  replace HB := btrans HB hb
  replace KX := blk_keep hb KX
  clear hb
  have hvW0 := own_blk_lt W0
  have hvW1 := own_blk_lt W1
  obtain ⟨Wa0, Wc0, hv⟩ := own_form W0
  subst hv
  obtain ⟨Wa1, Wc1, hv⟩ := own_form W1
  subst hv
  have KW : (w5.alloc (.cells #[.int .i64 S, .int .i64 P, .slice Wa0 (playA S P hs sl).1.length Wc0] 26)).heap[w5.heap.size]? = some (.cells #[.int .i64 S, .int .i64 P, .slice Wa0 (playA S P hs sl).1.length Wc0] 26 (0, 0)) := heap_alloc_new w5 _
  have sz9 := hide (sz1 w5 (.cells #[.int .i64 S, .int .i64 P, .slice Wa0 (playA S P hs sl).1.length Wc0] 26))
  have hbB := balloc w5 (.cells #[.int .i64 S, .int .i64 P, .slice Wa0 (playA S P hs sl).1.length Wc0] 26)
  replace HB := btrans HB hbB
  replace KX := blk_keep hbB KX
  replace W0 := own_keep W0 hbB
  replace W1 := own_keep W1 hbB
  clear hbB
  obtain ⟨⟨x0, x1, x2⟩, -⟩ := blk3 KX
  go_wp2_with fail
  have HBs := lt_of_block KX
  refine (cToTr a c S P hs _ (hz.below HB) hl).mono ?_
  rintro e w6 ⟨gt1, rfl, N1, hb⟩
  have a1 := own_from N1 (Nat.le_refl _) gt1 rfl
  replace HB := btrans HB hb
  replace KX := blk_keep hb KX
  replace W0 := own_keep W0 hb
  replace W1 := own_keep W1 hb
  replace KW := blk_keep hb KW
  clear hb
  clear x0 x1 x2
  have KY : (w6.alloc (.cells #[.int .i64 S, .int .i64 P, .slice (some ⟨gt1, 0, none⟩) hs.length hs.length] 26)).heap[w6.heap.size]? = some (.cells #[.int .i64 S, .int .i64 P, .slice (some ⟨gt1, 0, none⟩) hs.length hs.length] 26 (0, 0)) := heap_alloc_new w6 _
  have hbY := balloc w6 (.cells #[.int .i64 S, .int .i64 P, .slice (some ⟨gt1, 0, none⟩) hs.length hs.length] 26)
  replace HB := btrans HB hbY
  replace KX := blk_keep hbY KX
  replace W0 := own_keep W0 hbY
  replace W1 := own_keep W1 hbY
  replace KW := blk_keep hbY KW
  replace N1 := own_keep N1 hbY
  clear hbY
  go_wp2_with fail
  have hS7 := HB.size
  refine (cToSas sa sc sl _ (hy.below HB) hl2).mono ?_
  rintro e w7 ⟨gs1, rfl, OS1, hgs1, hb⟩
  clear hgs1
  replace HB := btrans HB hb
  replace KX := blk_keep hb KX
  replace W0 := own_keep W0 hb
  replace W1 := own_keep W1 hb
  replace KW := blk_keep hb KW
  replace N1 := own_keep N1 hb
  replace KY := blk_keep hb KY
  clear hb
  have a2 := owns_lt N1
  obtain ⟨⟨y0, y1, y2⟩, -⟩ := blk3 KY
  go_wp2_with fail
  refine (cPlayI S P _ _ hs _ _ sl _ (Bks.of_owns N1) hl (Sas.of_owns OS1) hl2).mono ?_
  intro e w8 hA
  obtain ⟨vG0, vG1, rfl, G0, G1, hb⟩ := hA.q
  have hvG0 := own_from G0 (Nat.le_refl _)
  have hvG1 := own_from G1 (Nat.le_refl _)
  clear y0 y1 y2
  replace HB := btrans HB hb
  replace KX := blk_keep hb KX
  replace W0 := own_keep W0 hb
  replace W1 := own_keep W1 hb
  replace KW := blk_keep hb KW
  replace N1 := own_keep N1 hb
  replace KY := blk_keep hb KY
  replace OS1 := own_keep OS1 hb
  clear hb
  obtain ⟨Ga0, Gc0, hv⟩ := own_form G0
  subst hv
  obtain ⟨Ga1, Gc1, hv⟩ := own_form G1
  subst hv
  have KG : (w8.alloc (.cells #[.int .i64 S, .int .i64 P, .slice Ga0 (playA S P hs sl).1.length Gc0] 26)).heap[w8.heap.size]? = some (.cells #[.int .i64 S, .int .i64 P, .slice Ga0 (playA S P hs sl).1.length Gc0] 26 (0, 0)) := heap_alloc_new w8 _
  have hbB := balloc w8 (.cells #[.int .i64 S, .int .i64 P, .slice Ga0 (playA S P hs sl).1.length Gc0] 26)
  replace HB := btrans HB hbB
  replace KX := blk_keep hbB KX
  replace W0 := own_keep W0 hbB
  replace W1 := own_keep W1 hbB
  replace KW := blk_keep hbB KW
  replace N1 := own_keep N1 hbB
  replace KY := blk_keep hbB KY
  replace OS1 := own_keep OS1 hbB
  replace G0 := own_keep G0 hbB
  replace G1 := own_keep G1 hbB
  clear hbB
  have hLen0 : (playA S P hs sl).1.length ≤ 1048576 := playA_len1 sl hl
  have hLen1 : (playA S P hs sl).2.length ≤ 1048576 := playA_len2 S P hs hl2
  obtain ⟨⟨g0, g1, g2⟩, -⟩ := blk3 KG
  obtain ⟨⟨w0, w1, w2⟩, -⟩ := blk3 KW
  go_wp2_with fail
  refine (cEqTr _ _ _ _ S P (playA S P hs sl).1 _ (Bks.own G0) (Bks.own W0) hLen0).mono ?_
  rintro e w9 ⟨rfl, hb⟩
  replace HB := btrans HB hb
  replace KX := blk_keep hb KX
  replace W0 := own_keep W0 hb
  replace W1 := own_keep W1 hb
  replace KW := blk_keep hb KW
  replace N1 := own_keep N1 hb
  replace KY := blk_keep hb KY
  replace OS1 := own_keep OS1 hb
  replace G0 := own_keep G0 hb
  replace G1 := own_keep G1 hb
  replace KG := blk_keep hb KG
  clear hb
  clear g0 g1 g2 w0 w1 w2
  go_wp2_with fail
  refine (cEqIntsn _ _ (playA S P hs sl).2.length _ _ (playA S P hs sl).2 _ rfl G1 W1 (by unfold maxLen; have := hLen1; omega)).mono ?_
  rintro e w10 ⟨rfl, hb⟩
  replace HB := btrans HB hb
  replace KX := blk_keep hb KX
  replace W0 := own_keep W0 hb
  replace W1 := own_keep W1 hb
  replace KW := blk_keep hb KW
  replace N1 := own_keep N1 hb
  replace KY := blk_keep hb KY
  replace OS1 := own_keep OS1 hb
  replace G0 := own_keep G0 hb
  replace G1 := own_keep G1 hb
  replace KG := blk_keep hb KG
  clear hb
  obtain ⟨⟨x0, x1, x2⟩, -⟩ := blk3 KX
  obtain ⟨⟨y0, y1, y2⟩, -⟩ := blk3 KY
  have hE := hz.below HB.drew
  go_wp2_with fail
  go_region_held3 (fun w' => w'.cell? ⟨w6.heap.size, 0, none⟩ = some (.int .i64 S) ∧ w'.cell? ⟨w6.heap.size, 1, none⟩ = some (.int .i64 P) ∧ w'.cell? ⟨w6.heap.size, 2, none⟩ = some (.slice (some ⟨gt1, 0, none⟩) hs.length hs.length) ∧ w'.cell? ⟨w.heap.size, 0, none⟩ = some (.int .i64 S) ∧ w'.cell? ⟨w.heap.size, 1, none⟩ = some (.int .i64 P) ∧ w'.cell? ⟨w.heap.size, 2, none⟩ = some (.slice a hs.length c)) (go_keep) (first
    | (go_at_call 29; with_reducible refine (cEqTr _ _ _ _ S P hs _ P1 P3 hl).mono ?_; rintro e wb ⟨rfl, hbb⟩; have Bb := btrans Bp hbb; clear hbb; obtain ⟨⟨v0, v1, v2⟩, -⟩ := blk3 (blk_keep Bb KY); obtain ⟨⟨v4, v5, v6⟩, -⟩ := blk3 (blk_keep Bb KX))
    | (go_at_call 28; with_reducible refine (cToTr a c S P hs _ hE hl).mono ?_; rintro e wp ⟨g3, rfl, N3, hbp⟩; have Bp := undrew hbp; have P1 := Bks.of_owns (own_keep N1 Bp); have P3 := Bks.of_owns N3; clear hbp; obtain ⟨⟨v0, v1, v2⟩, -⟩ := blk3 (blk_keep Bp KY); obtain ⟨⟨v4, v5, v6⟩, -⟩ := blk3 (blk_keep Bp KX)))
  replace HB := btrans HB Bb
  replace KX := blk_keep Bb KX
  replace W0 := own_keep W0 Bb
  replace W1 := own_keep W1 Bb
  replace KW := blk_keep Bb KW
  replace N1 := own_keep N1 Bb
  replace KY := blk_keep Bb KY
  replace OS1 := own_keep OS1 Bb
  replace G0 := own_keep G0 Bb
  replace G1 := own_keep G1 Bb
  replace KG := blk_keep Bb KG
  clear Bb
  clear x0 x1 x2 y0 y1 y2 v0 v1 v2 v4 v5 v6 Bp P1 P3 N3 hE
  go_wp2_with fail
  refine (cToSas sa sc sl _ (hy.below HB) hl2).mono ?_
  rintro e w11 ⟨g5, rfl, O5, hg5, hb⟩
  clear hg5
  replace HB := btrans HB hb
  replace KX := blk_keep hb KX
  replace W0 := own_keep W0 hb
  replace W1 := own_keep W1 hb
  replace KW := blk_keep hb KW
  replace N1 := own_keep N1 hb
  replace KY := blk_keep hb KY
  replace OS1 := own_keep OS1 hb
  replace G0 := own_keep G0 hb
  replace G1 := own_keep G1 hb
  replace KG := blk_keep hb KG
  clear hb
  go_wp2_with fail
  refine (cEqSas _ _ _ _ sl _ (Sas.of_owns OS1) (Sas.of_owns O5) hl2).mono ?_
  rintro e w12 ⟨rfl, hb⟩
  clear O5
  replace HB := btrans HB hb
  replace KX := blk_keep hb KX
  replace W0 := own_keep W0 hb
  replace W1 := own_keep W1 hb
  replace KW := blk_keep hb KW
  replace N1 := own_keep N1 hb
  replace KY := blk_keep hb KY
  replace OS1 := own_keep OS1 hb
  replace G0 := own_keep G0 hb
  replace G1 := own_keep G1 hb
  replace KG := blk_keep hb KG
  clear hb
  have hW0 : ∀ k, (Value.slice Wa0 (playA S P hs sl).1.length Wc0).ownBlock = some k → k < gt1 := fun k hk => by have h1 := hvW0 k hk; have h2 := sz9.out; omega
  have hG0 : ∀ k, (Value.slice Ga0 (playA S P hs sl).1.length Gc0).ownBlock = some k → gt1 < k := fun k hk => by have := hvG0 k hk; omega
  have hW1 : ∀ k, (Value.slice Wa1 (playA S P hs sl).2.length Wc1).ownBlock = some k → k < gt1 := fun k hk => by have h1 := hvW1 k hk; have h2 := sz9.out; omega
  have hG1 : ∀ k, (Value.slice Ga1 (playA S P hs sl).2.length Gc1).ownBlock = some k → gt1 < k := fun k hk => by have := hvG1 k hk; omega
  have a7 : w.heap.size < gt1 := by have := HBs; omega
  clear hvW0 hvG0 hvW1 hvG1 a1 a2 HBs sz9
  obtain ⟨⟨y0, y1, y2⟩, -⟩ := blk3 KY
  go_wp2_with fail
  have MK := N1
  refine (cMarkTr _ hs.length _ _ _ hs 1 _ N1 hl (by omega) (by omega)).mono ?_
  rintro e w13 ⟨rfl, _, hg⟩
  clear y0 y1 y2
  clear N1 KY
  replace HB := HB.grown hg HB.size (fun j e => by simp [Value.ownBlock] at e; omega)
  replace KX := blk_app MK hg KX (by decide)
  replace W0 := own_far W0 hg (fun k hk e => by have := hW0 k hk; simp [Value.ownBlock] at e; omega)
  replace W1 := own_far W1 hg (row_apart W1 MK (by decide))
  replace KW := blk_app MK hg KW (by decide)
  replace OS1 := own_far OS1 hg (row_apart OS1 MK (by decide))
  replace G0 := own_far G0 hg (fun k hk e => by have := hG0 k hk; simp [Value.ownBlock] at e; omega)
  replace G1 := own_far G1 hg (row_apart G1 MK (by decide))
  replace KG := blk_app MK hg KG (by decide)
  clear hg MK
  go_wp2_with fail
  have MK := OS1
  refine (cMarkSasg _ gs1 _ sl (1 + 4 * hs.length) _ OS1 hl2 (by omega) (by omega)).mono ?_
  rintro e w14 ⟨rfl, _, hg⟩
  clear OS1
  replace HB := HB.grown hg HB.size (own_from MK hS7)
  replace KX := blk_app MK hg KX (by decide)
  replace W0 := own_far W0 hg (row_apart W0 MK (by decide))
  replace W1 := own_far W1 hg (row_apart W1 MK (by decide))
  replace KW := blk_app MK hg KW (by decide)
  replace G0 := own_far G0 hg (row_apart G0 MK (by decide))
  replace G1 := own_far G1 hg (row_apart G1 MK (by decide))
  replace KG := blk_app MK hg KG (by decide)
  clear hg MK
  have hk9 : ¬ ((1 : Int) + 4 * hs.length + 4 * sl.length < 0) := by omega
  obtain ⟨⟨g0, g1, g2⟩, -⟩ := blk3 KG
  obtain ⟨⟨w0, w1, w2⟩, -⟩ := blk3 KW
  go_wp2_with fail
  refine (cEqTr _ _ _ _ S P (playA S P hs sl).1 _ (Bks.own G0) (Bks.own W0) hLen0).mono ?_
  rintro e w15 ⟨rfl, hb⟩
  replace HB := btrans HB hb
  replace KX := blk_keep hb KX
  replace W0 := own_keep W0 hb
  replace W1 := own_keep W1 hb
  replace KW := blk_keep hb KW
  replace G0 := own_keep G0 hb
  replace G1 := own_keep G1 hb
  replace KG := blk_keep hb KG
  clear hb
  clear g0 g1 g2 w0 w1 w2
  go_wp2_with fail
  refine (cEqIntsn _ _ (playA S P hs sl).2.length _ _ (playA S P hs sl).2 _ rfl G1 W1 (by unfold maxLen; have := hLen1; omega)).mono ?_
  rintro e w16 ⟨rfl, hb⟩
  replace HB := btrans HB hb
  replace KX := blk_keep hb KX
  replace W0 := own_keep W0 hb
  replace W1 := own_keep W1 hb
  replace KW := blk_keep hb KW
  replace G0 := own_keep G0 hb
  replace G1 := own_keep G1 hb
  replace KG := blk_keep hb KG
  clear hb
  obtain ⟨⟨g0, g1, g2⟩, -⟩ := blk3 KG
  go_wp2_with fail
  have MK := G0
  refine (cMarkTr _ (playA S P hs sl).1.length _ _ _ (playA S P hs sl).1 (1) _ G0 hLen0 (by omega) (by omega)).mono ?_
  rintro e w17 ⟨rfl, Q0, hg⟩
  clear g0 g1 g2
  clear G0
  replace HB := HB.grown hg HB.size (fun j e => by have := hG0 j e; omega)
  replace KX := blk_app MK hg KX (by decide)
  replace W0 := own_far W0 hg (fun k hk e => by have := hW0 k hk; have := hG0 k e.symm; omega)
  replace W1 := own_far W1 hg (row_apart W1 MK (by decide))
  replace KW := blk_app MK hg KW (by decide)
  replace G1 := own_far G1 hg (row_apart G1 MK (by decide))
  replace KG := blk_app MK hg KG (by decide)
  clear hg MK
  go_wp2_with fail
  have MK := G1
  refine (cMarkInts _ (playA S P hs sl).2.length _ (playA S P hs sl).2 (1 + 4 * (playA S P hs sl).1.length) _ rfl G1 hLen1 (by omega) (by omega)).mono ?_
  rintro e w18 ⟨rfl, Q1, hg⟩
  clear G1
  replace HB := HB.grown hg HB.size (fun j e => by have := hG1 j e; omega)
  replace KX := blk_app MK hg KX (by decide)
  replace W0 := own_far W0 hg (row_apart W0 MK (by decide))
  replace W1 := own_far W1 hg (fun k hk e => by have := hW1 k hk; have := hG1 k e.symm; omega)
  replace KW := blk_app MK hg KW (by decide)
  replace KG := blk_app MK hg KG (by decide)
  replace Q0 := own_far Q0 hg (row_apart Q0 MK (by decide))
  clear hg MK
  have hqq0 : ¬ (((1 + 4 * (playA S P hs sl).1.length) : Int) < 0) := by omega
  have hqq1 : ¬ (((1 + 4 * (playA S P hs sl).1.length + (playA S P hs sl).2.length) : Int) < 0) := by omega
  obtain ⟨⟨g0, g1, g2⟩, -⟩ := blk3 KG
  go_wp2_with fail
  refine (cHeldTr _ (playA S P hs sl).1.length _ _ _ (1) _ (.inl Q0) hLen0 (by omega) (by omega)).mono ?_
  rintro e w19 ⟨rfl, hb⟩
  replace HB := btrans HB hb
  replace KX := blk_keep hb KX
  replace W0 := own_keep W0 hb
  replace W1 := own_keep W1 hb
  replace KW := blk_keep hb KW
  replace KG := blk_keep hb KG
  replace Q0 := own_keep Q0 hb
  replace Q1 := own_keep Q1 hb
  clear hb
  clear g0 g1 g2
  go_wp2_with fail
  refine (cHeldInts _ (playA S P hs sl).2.length _ (1 + 4 * (playA S P hs sl).1.length) _ Q1 hLen1 (by omega) (by omega)).mono ?_
  rintro e w20 ⟨rfl, hw⟩
  subst w20
  obtain ⟨⟨x0, x1, x2⟩, -⟩ := blk3 KX
  go_wp2_with fail
  refine (cToTr a c S P hs _ (hz.below HB) hl).mono ?_
  rintro e w21 ⟨gt2, rfl, N2, hb⟩
  replace HB := btrans HB hb
  replace KX := blk_keep hb KX
  replace W0 := own_keep W0 hb
  replace W1 := own_keep W1 hb
  replace KW := blk_keep hb KW
  replace KG := blk_keep hb KG
  replace Q0 := own_keep Q0 hb
  replace Q1 := own_keep Q1 hb
  clear hb
  clear x0 x1 x2
  go_wp2_with fail
  refine (cToSas sa sc sl _ (hy.below HB) hl2).mono ?_
  rintro e w22 ⟨gs2, rfl, OS2, hgs2, hb⟩
  clear hgs2
  replace HB := btrans HB hb
  replace KX := blk_keep hb KX
  replace W0 := own_keep W0 hb
  replace W1 := own_keep W1 hb
  replace KW := blk_keep hb KW
  replace KG := blk_keep hb KG
  replace Q0 := own_keep Q0 hb
  replace Q1 := own_keep Q1 hb
  replace N2 := own_keep N2 hb
  clear hb
  go_wp2_with fail
  refine (cPlayI S P _ _ hs _ _ sl _ (Bks.of_owns N2) hl (Sas.of_owns OS2) hl2).mono ?_
  intro e w23 hA
  obtain ⟨vH0, vH1, rfl, H0, H1, hb⟩ := hA.q
  clear N2 OS2
  replace HB := btrans HB hb
  replace KX := blk_keep hb KX
  replace W0 := own_keep W0 hb
  replace W1 := own_keep W1 hb
  replace KW := blk_keep hb KW
  replace KG := blk_keep hb KG
  replace Q0 := own_keep Q0 hb
  replace Q1 := own_keep Q1 hb
  clear hb
  obtain ⟨Ha0, Hc0, hv⟩ := own_form H0
  subst hv
  obtain ⟨Ha1, Hc1, hv⟩ := own_form H1
  subst hv
  have KH : (w23.alloc (.cells #[.int .i64 S, .int .i64 P, .slice Ha0 (playA S P hs sl).1.length Hc0] 26)).heap[w23.heap.size]? = some (.cells #[.int .i64 S, .int .i64 P, .slice Ha0 (playA S P hs sl).1.length Hc0] 26 (0, 0)) := heap_alloc_new w23 _
  have hbB := balloc w23 (.cells #[.int .i64 S, .int .i64 P, .slice Ha0 (playA S P hs sl).1.length Hc0] 26)
  replace HB := btrans HB hbB
  replace KX := blk_keep hbB KX
  replace W0 := own_keep W0 hbB
  replace W1 := own_keep W1 hbB
  replace KW := blk_keep hbB KW
  replace KG := blk_keep hbB KG
  replace Q0 := own_keep Q0 hbB
  replace Q1 := own_keep Q1 hbB
  replace H0 := own_keep H0 hbB
  replace H1 := own_keep H1 hbB
  clear hbB
  obtain ⟨⟨h0, h1, h2⟩, -⟩ := blk3 KH
  obtain ⟨⟨w0, w1, w2⟩, -⟩ := blk3 KW
  go_wp2_with fail
  refine (cEqTr _ _ _ _ S P (playA S P hs sl).1 _ (Bks.own H0) (Bks.own W0) hLen0).mono ?_
  rintro e w24 ⟨rfl, hb⟩
  replace HB := btrans HB hb
  replace KX := blk_keep hb KX
  replace W0 := own_keep W0 hb
  replace W1 := own_keep W1 hb
  replace KW := blk_keep hb KW
  replace KG := blk_keep hb KG
  replace Q0 := own_keep Q0 hb
  replace Q1 := own_keep Q1 hb
  replace H0 := own_keep H0 hb
  replace H1 := own_keep H1 hb
  replace KH := blk_keep hb KH
  clear hb
  clear h0 h1 h2 w0 w1 w2
  go_wp2_with fail
  refine (cEqIntsn _ _ (playA S P hs sl).2.length _ _ (playA S P hs sl).2 _ rfl H1 W1 (by unfold maxLen; have := hLen1; omega)).mono ?_
  rintro e w25 ⟨rfl, hb⟩
  replace HB := btrans HB hb
  replace KX := blk_keep hb KX
  replace W0 := own_keep W0 hb
  replace W1 := own_keep W1 hb
  replace KW := blk_keep hb KW
  replace KG := blk_keep hb KG
  replace Q0 := own_keep Q0 hb
  replace Q1 := own_keep Q1 hb
  replace H0 := own_keep H0 hb
  replace H1 := own_keep H1 hb
  replace KH := blk_keep hb KH
  clear hb
  obtain ⟨⟨g0, g1, g2⟩, -⟩ := blk3 KG
  go_wp2_with fail
  refine (cHeldTr _ (playA S P hs sl).1.length _ _ _ (1) _ (.inl Q0) hLen0 (by omega) (by omega)).mono ?_
  rintro e w26 ⟨rfl, hb⟩
  replace HB := btrans HB hb
  replace KX := blk_keep hb KX
  replace W0 := own_keep W0 hb
  replace W1 := own_keep W1 hb
  replace KW := blk_keep hb KW
  replace KG := blk_keep hb KG
  replace Q0 := own_keep Q0 hb
  replace Q1 := own_keep Q1 hb
  replace H0 := own_keep H0 hb
  replace H1 := own_keep H1 hb
  replace KH := blk_keep hb KH
  clear hb
  clear g0 g1 g2
  go_wp2_with fail
  refine (cHeldInts _ (playA S P hs sl).2.length _ (1 + 4 * (playA S P hs sl).1.length) _ Q1 hLen1 (by omega) (by omega)).mono ?_
  rintro e w27 ⟨rfl, hw⟩
  subst w27
  go_wp2
  go_ret
  exact ⟨rfl, HB⟩

end Go.Proofs.Ytgnlcehpajbnoaa
