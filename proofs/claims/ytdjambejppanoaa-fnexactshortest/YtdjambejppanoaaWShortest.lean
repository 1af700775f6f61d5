/- The walk of the law on Shortest. -/
import Derived.Test.YtdjambejppanoaaSS
import Derived.Test.YtdjambejppanoaaNM2
import Derived.BigQuiet
namespace Go.Proofs.Ytdjambejppanoaa
open Go.RowKit
set_option maxRecDepth 20000 in
set_option maxHeartbeats 6400000 in
theorem walkShortest (a : Option Addr) (p : Nat) (n f tz : Int) (es : List EdgeV) (w : World) (he : Edges w a es) (hn : es.length ≤ maxLen) :
    Calls Try.prog 6 #[.agg #[.int .i64 n, .slice a es.length p], .int .i64 f, .int .i64 tz] w fun e w' => e = .returned (.bool true) ∧ Below w.heap.size w w' := by
  go_enter Try.func6, Try.ntmps6
  go_wp2_with fail
  refine (cSzNet a es.length p _ 1048576 _ (by omega) (by omega) hn).mono ?_
  rintro e w1 ⟨r, rfl, hr, hb⟩
  have HB := btrans (balloc _ _) hb
  have X := Bx2.mk hb
  clear hb
  rcases hr with rfl | ⟨hr, hr0⟩
  · go_wp2
    go_ret
    exact ⟨rfl, HB⟩
  have hl : es.length ≤ 1048576 := by omega
  clear hr
  have hwX := cell_lt X.1
  obtain ⟨b0, b1⟩ := id X
  go_wp2_with fail
  clear b0 b1
  refine (cToNet a p n es _ (he.below HB) hl).mono ?_
  rintro e w2 ⟨g1, rfl, hop1, hb⟩
  replace X := X.below hb
  replace HB := btrans HB hb
  clear hb
  go_wp2_with fail
  refine (cShortestS _ _ n f tz es _ hop1.edges hl).mono ?_
  rintro e w3 ⟨a5, c5, xs, r, rfl, hV, O5, hb⟩
  clear hop1
  have hsm := hV.small
  have hB5 := own_blk_lt O5
  have hw13 := hb.size
  replace X := X.below hb
  replace HB := btrans HB hb
  clear hb
  clear hw13
  have hwX3 := cell_lt X.1
  obtain ⟨b0, b1⟩ := id X
  go_wp2_with fail
  clear b0 b1
  refine (cToNet a p n es _ (he.below HB) hl).mono ?_
  rintro e w4 ⟨g2, rfl, hop, hb⟩
  have hg2lo := own_from hop (Nat.le_refl _) g2 rfl
  have hg2hi := own_blk_lt hop g2 rfl
  replace X := X.below hb
  replace HB := btrans HB hb
  replace O5 := own_keep O5 hb
  clear hb
  have hx := balloc w4 (.cells #[.int .i64 n, .slice (some ⟨g2, 0, none⟩) es.length es.length] 26)
  have Z := Bx2.new w4 (.int .i64 n) (.slice (some ⟨g2, 0, none⟩) es.length es.length) 26
  replace X := X.below hx
  replace HB := btrans HB hx
  replace O5 := own_keep O5 hx
  replace hop := own_keep hop hx
  clear hx
  obtain ⟨b0, b1⟩ := id Z
  go_wp2_with fail
  clear b0 b1
  generalize w4.alloc (.cells #[.int .i64 n, .slice (some ⟨g2, 0, none⟩) es.length es.length] 26) = wA at *
  generalize w4.heap.size = bz at *
  have hbz := cell_lt Z.1
  refine (cShortestI _ _ n f tz es _ (Edges.of_owns hop) hl).mono ?_
  rintro e w5 ⟨a8, c8, xs2, r2, rfl, hV2, O8, hb⟩
  obtain ⟨rfl, rfl⟩ := hV.unique hV2
  have hB8 := own_from O8 (Nat.le_refl _)
  have hVh := hide hV
  replace X := X.below hb
  replace HB := btrans HB hb
  replace O5 := own_keep O5 hb
  replace hop := own_keep hop hb
  replace Z := Z.below hb
  clear hb hV hV2
  generalize hm : xs.length = m at *
  replace hm := hide hm
  go_wp2_with fail
  refine (cEqIntsn _ _ m _ _ xs _ hm.out O8 O5 (by unfold maxLen; omega)).mono ?_
  rintro e w6 ⟨rfl, hb⟩
  replace X := X.below hb
  replace Z := Z.below hb
  replace HB := btrans HB hb
  replace O5 := own_keep O5 hb
  replace hop := own_keep hop hb
  replace O8 := own_keep O8 hb
  clear hb
  obtain ⟨b0, b1⟩ := id X
  obtain ⟨d0, d1⟩ := id Z
  go_wp2_with fail
  go_region_held3 (fun w' => w'.cell? ⟨bz, 0, none⟩ = some (.int .i64 n) ∧ w'.cell? ⟨bz, 1, none⟩ = some (.slice (some ⟨g2, 0, none⟩) es.length es.length) ∧
      w'.cell? ⟨w.heap.size, 0, none⟩ = some (.int .i64 n) ∧ w'.cell? ⟨w.heap.size, 1, none⟩ = some (.slice a es.length p)) (go_keep)
    (first
      | (go_at_call 25; refine (cToNet a p n es _ (he.below HB.drew) hl).mono ?_; rintro e w7 ⟨g5, rfl, hop7, hb7⟩; have b7 := undrew hb7; obtain ⟨y0, y1⟩ := Z.below b7; obtain ⟨u0, u1⟩ := X.below b7)
      | (go_at_call 27; refine (cEqNet _ _ _ _ n es _ (Edges.of_owns (own_keep hop b7)) hop7.edges hl).mono ?_; rintro e w8 ⟨rfl, hb8⟩; have b8 := btrans b7 hb8; obtain ⟨y0', y1'⟩ := Z.below b8; obtain ⟨u0', u1'⟩ := X.below b8))
  replace X := X.below b8
  replace Z := Z.below b8
  replace HB := btrans HB b8
  replace O5 := own_keep O5 b8
  replace hop := own_keep hop b8
  replace O8 := own_keep O8 b8
  clear hb7 hb8 b7 b8 y0 y1 u0 u1 y0' y1' u0' u1' b0 b1 d0 d1 hop7
  obtain ⟨d0, d1⟩ := id Z
  go_wp2_with fail
  clear d0 d1
  refine (cMarkNet _ es.length (.int .i64 n) _ es 1 _ (.inl hop) hl (by omega) (by omega)).mono ?_
  rintro e w9 ⟨rfl, hb⟩
  obtain ⟨rr, hg9, hr9⟩ := hb
  have hr9 : ∀ j, rr = some j → j = g2 := fun j hj => by have := (hr9 j hj).2; simp [Value.ownBlock] at this; exact this.symm
  clear hop
  replace X := X.far hg9 (by intro e; have := hr9 _ e.symm; omega)
  replace HB := HB.grown hg9 HB.size (fun j hj => by have := hr9 j hj; omega)
  replace O5 := own_far O5 hg9 (fun k hk e => by have h1 := hr9 _ e.symm; have h2 := hB5 k hk; omega)
  replace O8 := own_far O8 hg9 (fun k hk e => by have h1 := hr9 _ e.symm; have h2 := hB8 k hk; omega)
  clear hg9 hr9 Z
  have hneg : ¬ ((1 : Int) + 4 * (es.length : Int) < 0) := by omega
  go_wp2_with fail
  refine (cEqIntsn _ _ m _ _ xs _ hm.out O8 O5 (by unfold maxLen; omega)).mono ?_
  rintro e w10 ⟨rfl, hb⟩
  replace X := X.below hb
  replace HB := btrans HB hb
  replace O5 := own_keep O5 hb
  replace O8 := own_keep O8 hb
  clear hb
  go_wp2_with fail
  refine (cMarkInts _ m _ xs 1 _ hm.out O8 (by omega) (by omega) (by omega)).mono ?_
  rintro e w11 ⟨rfl, R8, hg11⟩
  have hB8f := own_from O8 (Nat.le_refl _)
  replace X := X.far hg11 (by intro e; have := hB8f _ e.symm; omega)
  replace HB := HB.grown hg11 HB.size (fun j hj => by have := hB8f j hj; omega)
  replace O5 := own_far O5 hg11 (fun k hk e => by have h1 := hB8f _ e.symm; have h2 := hB5 k hk; omega)
  clear hg11 O8 hB8 hB8f
  have hneg2 : ¬ ((1 : Int) + (m : Int) < 0) := by omega
  go_wp2_with fail
  refine (cHeldInts _ m _ 1 _ R8 (by omega) (by omega) (by omega)).mono ?_
  rintro e w12 ⟨rfl, hw⟩
  subst w12
  obtain ⟨b0, b1⟩ := id X
  go_wp2_with fail
  clear b0 b1
  refine (cToNet a p n es _ (he.below HB) hl).mono ?_
  rintro e w13 ⟨g6, rfl, hop6, hb⟩
  replace X := X.below hb
  replace HB := btrans HB hb
  replace O5 := own_keep O5 hb
  replace R8 := own_keep R8 hb
  clear hb
  go_wp2_with fail
  refine (cShortestI _ _ n f tz es _ hop6.edges hl).mono ?_
  rintro e w14 ⟨a9, c9, xs3, r3, rfl, hV3, O9, hb⟩
  obtain ⟨rfl, rfl⟩ := hVh.out.unique hV3
  replace HB := btrans HB hb
  replace O5 := own_keep O5 hb
  replace R8 := own_keep R8 hb
  clear hb hV3 hop6 X
  rw [hm.out] at O9 ⊢
  go_wp2_with fail
  refine (cEqIntsn _ _ m _ _ xs _ hm.out O9 O5 (by unfold maxLen; omega)).mono ?_
  rintro e w15 ⟨rfl, hb⟩
  replace HB := btrans HB hb
  replace R8 := own_keep R8 hb
  clear hb O9 O5
  go_wp2_with fail
  refine (cHeldInts _ m _ 1 _ R8 (by omega) (by omega) (by omega)).mono ?_
  rintro e w16 ⟨rfl, hw⟩
  subst w16
  go_wp2
  go_ret
  exact ⟨rfl, HB⟩
end Go.Proofs.Ytdjambejppanoaa
