/- The walk of the law on Cut. -/
import Derived.Test.YtengfldiiceieaaP
namespace Go.Proofs.Ytengfldiiceieaa
open Go.RowKit

theorem own_keep {w w' : World} {base e sz n : Nat} {v : Value} {xs : List Value} (h : w.ownsRow base e sz v n xs) (hb : Below w.heap.size w w') : w'.ownsRow base e sz v n xs := by
  obtain ⟨h1, h2⟩ := h
  refine ⟨h1, ?_⟩
  rcases h2 with h2 | ⟨g, cap, cur, hv, hg, hh, r⟩
  · exact .inl h2
  · exact .inr ⟨g, cap, cur, hv, hg, (hb.block g (lt_of_block hh)).trans hh, r⟩
theorem own_far {w w' : World} {base e sz n : Nat} {v : Value} {vs : List Value} {r : Option Nat} (h : w.ownsRow base e sz v n vs) (hg : w.grownBy w' r) (hne : ∀ k, v.ownBlock = some k → some k ≠ r) : w'.ownsRow base e sz v n vs := by
  refine h.kept hg ?_
  cases hv : v.ownBlock with
  | none => exact .inl rfl
  | some k => exact .inr (hne k hv)
theorem Bx2.far {w w' : World} {b : Nat} {c0 c1 : Value} {r : Option Nat} (h : Bx2 w b c0 c1) (hg : w.grownBy w' r) (hne : some b ≠ r) : Bx2 w' b c0 c1 :=
  ⟨(hg.cell_far _ (cell_lt h.1) hne).trans h.1, (hg.cell_far _ (cell_lt h.1) hne).trans h.2⟩
theorem edges_of_own {w : World} {B cp : Nat} {ao : Option Addr} {es : List EdgeV} (h : w.ownsRow B 41 4 (.slice ao es.length cp) es.length (flat es)) : Edges w ao es := by
  rcases h.2 with ⟨e, h0⟩ | ⟨g, cap, cur, e, _⟩
  · exact .inl (by cases es <;> simp_all)
  · simp only [Value.slice.injEq] at e
    obtain ⟨rfl, _, rfl⟩ := e
    exact Edges.of_owns h
theorem edges_of_own' {w : World} {B cp n : Nat} {ao : Option Addr} {es : List EdgeV} (h : w.ownsRow B 41 4 (.slice ao n cp) n (flat es)) (hn : es.length = n) : Edges w ao es := by subst hn; exact edges_of_own h
theorem cutE_len (n : Int) (es : List EdgeV) (x : Int) : (cutE n es x).length ≤ es.length := by
  unfold cutE
  split
  · exact List.length_eraseIdx_le es _
  · exact Nat.zero_le _
theorem grown_below {B : Nat} {a w w' : World} {r : Option Nat} (h : Below B a w) (hg : w.grownBy w' r) (hs : B ≤ w.heap.size) (hr : ∀ k, r = some k → B ≤ k) : Below B a w' := h.grown hg hs hr

set_option maxRecDepth 20000 in
set_option maxHeartbeats 6400000 in
theorem walk12 (a : Option Addr) (p : Nat) (n x : Int) (es : List EdgeV) (w : World) (he : Edges w a es) (hn : es.length ≤ maxLen) :
    Calls Try.prog 12 #[.agg #[.int .i64 n, .slice a es.length p], .int .i64 x] w fun e w' => e = .returned (.bool true) ∧ Below w.heap.size w w' := by
  go_enter Try.func12, Try.ntmps12
  go_wp2_with fail
  refine (c28 a es.length p _ 1048576 _ (by omega) (by omega) hn).mono ?_
  rintro e w1 ⟨r, rfl, hr, hb⟩
  have HB := btrans (balloc _ _) hb
  have X1 := Bx2.mk hb
  clear hb
  rcases hr with rfl | ⟨hr, hr0⟩
  · go_wp2
    go_ret
    exact ⟨rfl, HB⟩
  have hl : es.length ≤ 1048576 := by omega
  clear hr
  have hcl := cutE_len n es x
  have hm : es.length ≤ maxLen := hn
  obtain ⟨b0, b1⟩ := id X1
  go_wp2_with fail
  clear b0 b1
  refine (c30 a p n es _ (he.below HB) hl).mono ?_
  rintro e w2 ⟨g1, rfl, hop, hb2⟩
  have HB2 := btrans HB hb2
  have X2 := X1.below hb2
  clear hb2 HB X1
  go_wp2_with fail
  refine (c42 _ _ n x es _ hop.edges hl).mono ?_
  rintro e w3 ⟨ao, cp, rfl, rw3, hb3⟩
  generalize hE : cutE n es x = E at *
  generalize hNN : cutN n es x = NN at *
  have HE := hide hE
  have HN := hide hNN
  clear hE hNN
  have X3 := (X2.below hb3).below (balloc _ (.cells #[.int .i64 NN, .slice ao E.length cp] 26))
  have Y3 := Bx2.new w3 (.int .i64 NN) (.slice ao E.length cp) 26
  have HB3 := btrans (btrans HB2 hb3) (balloc _ (.cells #[.int .i64 NN, .slice ao E.length cp] 26))
  have rwlt : ∀ k, (Value.slice ao E.length cp).ownBlock = some k → k < w3.heap.size := fun k hk => (rw3.lt k hk).2
  have rw3' := rw3.alloc (.cells #[.int .i64 NN, .slice ao E.length cp] 26)
  have o1 : w.heap.size < w3.heap.size := by have := hb3.size; have := cell_lt X2.1; omega
  clear hb3 HB2 X2 hop rw3
  obtain ⟨b0, b1⟩ := id X3
  go_wp2_with fail
  clear b0 b1
  refine (c30 a p n es _ (he.below HB3) hl).mono ?_
  rintro e w4 ⟨g2, rfl, hop, hb4⟩
  have g2lo : w3.heap.size + 1 ≤ g2 := by
    have := own_ge hop g2 rfl
    simpa using this
  have g2hi : g2 < w4.heap.size := owns_lt hop
  have X4 := (X3.below hb4).below (balloc _ (.cells #[.int .i64 n, .slice (some ⟨g2, 0, none⟩) es.length es.length] 26))
  have Y4 := (Y3.below hb4).below (balloc _ (.cells #[.int .i64 n, .slice (some ⟨g2, 0, none⟩) es.length es.length] 26))
  have Z4 := Bx2.new w4 (.int .i64 n) (.slice (some ⟨g2, 0, none⟩) es.length es.length) 26
  have HB4 := btrans (btrans HB3 hb4) (balloc _ (.cells #[.int .i64 n, .slice (some ⟨g2, 0, none⟩) es.length es.length] 26))
  have rw4 := (own_keep rw3' hb4).alloc (.cells #[.int .i64 n, .slice (some ⟨g2, 0, none⟩) es.length es.length] 26)
  have hop4 := hop.alloc (.cells #[.int .i64 n, .slice (some ⟨g2, 0, none⟩) es.length es.length] 26)
  clear hb4 HB3 X3 Y3 rw3' hop
  obtain ⟨b0, b1⟩ := id Z4
  go_wp2_with fail
  clear b0 b1
  refine (c26 _ _ n x es _ (Edges.of_owns hop4) hl (Nat.le_refl _) hm).mono ?_
  rintro e w5 ⟨ao2, cp2, rfl, rg5, hb5⟩
  rw [HE.out] at rg5
  rw [HE.out, HN.out]
  have rglt : ∀ k, (Value.slice ao2 E.length cp2).ownBlock = some k → w4.heap.size + 1 ≤ k ∧ k < w5.heap.size := fun k hk => by have := rg5.lt k hk; simpa using this
  have X5 := (X4.below hb5).below (balloc _ (.cells #[.int .i64 NN, .slice ao2 E.length cp2] 26))
  have Y5 := (Y4.below hb5).below (balloc _ (.cells #[.int .i64 NN, .slice ao2 E.length cp2] 26))
  have Z5 := (Z4.below hb5).below (balloc _ (.cells #[.int .i64 NN, .slice ao2 E.length cp2] 26))
  have G5 := Bx2.new w5 (.int .i64 NN) (.slice ao2 E.length cp2) 26
  have HB5 := btrans (btrans HB4 hb5) (balloc _ (.cells #[.int .i64 NN, .slice ao2 E.length cp2] 26))
  have rw5 := (own_keep rw4 hb5).alloc (.cells #[.int .i64 NN, .slice ao2 E.length cp2] 26)
  have hop5 := (own_keep hop4 hb5).alloc (.cells #[.int .i64 NN, .slice ao2 E.length cp2] 26)
  have rg5' := rg5.alloc (.cells #[.int .i64 NN, .slice ao2 E.length cp2] 26)
  have o2 : w4.heap.size < w5.heap.size := by have := hb5.size; simp at this; omega
  clear hb5 HB4 X4 Y4 Z4 rw4 hop4 rg5
  obtain ⟨b0, b1⟩ := id G5
  obtain ⟨d0, d1⟩ := id Y5
  go_wp2_with fail
  clear b0 b1 d0 d1
  refine (c32 _ _ _ _ NN E _ (edges_of_own rg5') (edges_of_own rw5) (by omega)).mono ?_
  rintro e w6 ⟨rfl, hb6⟩
  have X6 := X5.below hb6
  have Y6 := Y5.below hb6
  have Z6 := Z5.below hb6
  have G6 := G5.below hb6
  have HB6 := btrans HB5 hb6
  have rw6 := own_keep rw5 hb6
  have hop6 := own_keep hop5 hb6
  have rg6 := own_keep rg5' hb6
  have o3 : w5.heap.size < w6.heap.size := cell_lt G6.1
  clear hb6 HB5 X5 Y5 Z5 G5 rw5 hop5 rg5'
  obtain ⟨b0, b1⟩ := id X6
  obtain ⟨d0, d1⟩ := id Z6
  go_wp2_with fail
  go_region_held3 (fun w' => w'.cell? ⟨w4.heap.size, 0, none⟩ = some (.int .i64 n) ∧ w'.cell? ⟨w4.heap.size, 1, none⟩ = some (.slice (some ⟨g2, 0, none⟩) es.length es.length) ∧
      w'.cell? ⟨w.heap.size, 0, none⟩ = some (.int .i64 n) ∧ w'.cell? ⟨w.heap.size, 1, none⟩ = some (.slice a es.length p)) (go_keep)
    (first
      | (go_at_call 30; refine (c30 a p n es _ (he.below HB6.drew) hl).mono ?_; rintro e w7 ⟨g5, rfl, hop7, hb7⟩; have b7 := undrew hb7; obtain ⟨y0, y1⟩ := Z6.below b7; obtain ⟨u0, u1⟩ := X6.below b7)
      | (go_at_call 32; refine (c32 _ _ _ _ n es _ (Edges.of_owns (own_keep hop6 b7)) hop7.edges hl).mono ?_; rintro e w8 ⟨rfl, hb8⟩; have b8 := btrans b7 hb8; obtain ⟨y0', y1'⟩ := Z6.below b8; obtain ⟨u0', u1'⟩ := X6.below b8))
  have X8 := X6.below b8
  have Y8 := Y6.below b8
  have Z8 := Z6.below b8
  have G8 := G6.below b8
  have HB8 := btrans HB6 b8
  have rw8 := own_keep rw6 b8
  have hop8 := own_keep hop6 b8
  have rg8 := own_keep rg6 b8
  have o4 : w5.heap.size < w8.heap.size := cell_lt G8.1
  clear hb7 hb8 b7 b8 y0 y1 u0 u1 y0' y1' u0' u1' b0 b1 d0 d1 hop7 X6 Y6 Z6 G6 HB6 rw6 hop6 rg6
  obtain ⟨d0, d1⟩ := id Z8
  go_wp2_with fail
  clear d0 d1
  refine (c37 _ _ _ _ es 1 _ hop8 hl (by omega) (by omega)).mono ?_
  rintro e w9 ⟨rfl, _, hg9⟩
  have hr9 : (Value.slice (some ⟨g2, 0, none⟩) es.length es.length).ownBlock = some g2 := rfl
  rw [hr9] at hg9
  have X9 := X8.far hg9 (by simp; omega)
  have Y9 := Y8.far hg9 (by simp; omega)
  have G9 := G8.far hg9 (by simp; omega)
  have HB9 := grown_below HB8 hg9 HB8.size (fun k e => by simp at e; omega)
  have rw9 := own_far rw8 hg9 (fun k hk => by have := rwlt k hk; simp; omega)
  have rg9 := own_far rg8 hg9 (fun k hk => by have := rglt k hk; simp; omega)
  have hk9 : ¬ ((1 : Int) + 4 * (es.length : Int) < 0) := by omega
  clear hg9 hr9 X8 Y8 Z8 G8 HB8 rw8 hop8 rg8
  obtain ⟨b0, b1⟩ := id G9
  obtain ⟨d0, d1⟩ := id Y9
  go_wp2_with fail
  clear b0 b1 d0 d1
  refine (c32 _ _ _ _ NN E _ (edges_of_own rg9) (edges_of_own rw9) (by omega)).mono ?_
  rintro e w10 ⟨rfl, b10⟩
  have X10 := X9.below b10
  have Y10 := Y9.below b10
  have G10 := G9.below b10
  have HB10 := btrans HB9 b10
  have rw10 := own_keep rw9 b10
  have rg10 := own_keep rg9 b10
  clear b10 X9 Y9 G9 HB9 rw9 rg9 hk9
  obtain ⟨b0, b1⟩ := id G10
  go_wp2_with fail
  clear b0 b1
  refine (c37 _ _ _ _ E 1 _ rg10 (by omega) (by omega) (by omega)).mono ?_
  rintro e w11 ⟨rfl, rg11, hg11⟩
  have X11 := X10.far hg11 (fun e => by have := rglt _ e.symm; omega)
  have Y11 := Y10.far hg11 (fun e => by have := rglt _ e.symm; omega)
  have G11 := G10.far hg11 (fun e => by have := rglt _ e.symm; omega)
  have HB11 := grown_below HB10 hg11 HB10.size (fun k e => by have := rglt k e; omega)
  have rw11 := own_far rw10 hg11 (fun k hk e => by have := rwlt k hk; have := rglt k e.symm; omega)
  clear hg11 X10 Y10 G10 HB10 rw10 rg10
  obtain ⟨b0, b1⟩ := id G11
  go_wp2_with fail
  clear b0 b1
  refine (c43 _ _ _ _ 1 _ (edges_of_own' rg11 (marksE_len _ _)) (by omega) (by omega) (by omega)).mono ?_
  rintro e w12 ⟨rfl, b12⟩
  have X12 := X11.below b12
  have Y12 := Y11.below b12
  have G12 := G11.below b12
  have HB12 := btrans HB11 b12
  have rw12 := own_keep rw11 b12
  have rg12 := own_keep rg11 b12
  have hk12 : ¬ ((1 : Int) + 4 * (E.length : Int) < 0) := by omega
  clear b12 X11 Y11 G11 HB11 rw11 rg11
  obtain ⟨b0, b1⟩ := id X12
  go_wp2_with fail
  clear b0 b1 hk12
  refine (c30 a p n es _ (he.below HB12) hl).mono ?_
  rintro e w13 ⟨g6, rfl, hop13, b13⟩
  have Y13 := Y12.below b13
  have G13 := G12.below b13
  have HB13 := btrans HB12 b13
  have rw13 := own_keep rw12 b13
  have rg13 := own_keep rg12 b13
  clear b13 X12 Y12 G12 HB12 rw12 rg12
  go_wp2_with fail
  refine (c26 _ _ n x es _ hop13.edges hl (Nat.le_refl _) hm).mono ?_
  rintro e w14 ⟨ao3, cp3, rfl, rh14, b14⟩
  rw [HE.out] at rh14
  rw [HE.out, HN.out]
  have b14' := btrans b14 (balloc _ (.cells #[.int .i64 NN, .slice ao3 E.length cp3] 26))
  have Y14 := Y13.below b14'
  have G14 := G13.below b14'
  have HB14 := btrans HB13 b14'
  have rw14 := own_keep rw13 b14'
  have rg14 := own_keep rg13 b14'
  have rh14' := rh14.alloc (.cells #[.int .i64 NN, .slice ao3 E.length cp3] 26)
  have yl : w3.heap.size < w14.heap.size := by have := cell_lt Y13.1; have := b14.size; omega
  clear b14 b14' Y13 G13 HB13 rw13 rg13 hop13 rh14
  obtain ⟨d0, d1⟩ := id Y14
  go_wp2_with fail
  clear d0 d1
  refine (c32 _ _ _ _ NN E _ (edges_of_own rh14') (edges_of_own rw14) (by omega)).mono ?_
  rintro e w15 ⟨rfl, b15⟩
  have G15 := G14.below b15
  have HB15 := btrans HB14 b15
  have rg15 := own_keep rg14 b15
  clear b15 Y14 G14 HB14 rw14 rg14 rh14'
  obtain ⟨b0, b1⟩ := id G15
  go_wp2_with fail
  clear b0 b1
  refine (c43 _ _ _ _ 1 _ (edges_of_own' rg15 (marksE_len _ _)) (by omega) (by omega) (by omega)).mono ?_
  rintro e w16 ⟨rfl, b16⟩
  have HB16 := btrans HB15 b16
  have hk16 : ¬ ((1 : Int) + 4 * (E.length : Int) < 0) := by omega
  go_wp2
  go_ret
  exact ⟨rfl, HB16⟩
end Go.Proofs.Ytengfldiiceieaa
