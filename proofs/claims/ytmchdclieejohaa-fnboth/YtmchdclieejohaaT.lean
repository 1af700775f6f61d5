/- The walk of the law on Later. -/
import Derived.Test.YtmchdclieejohaaS
namespace Go.Proofs.Ytmchdclieejohaa
open Go.RowKit

theorem laterR_len {W F T : Int} {zs es : List Int} {n : Int} (h1 : zs.length ≤ 1048576) (h2 : es.length ≤ 1048576) : (laterR W F T zs es n).xs.length ≤ 1048576 ∧ (laterR W F T zs es n).ys.length ≤ 1048576 := by
  unfold laterR
  split
  · simp only [moved_len]; exact ⟨h1, h2⟩
  · simp

theorem Bx.new (w : World) (c0 c1 c2 c3 c4 : Value) (t : TypeId) : Bx (w.alloc (.cells #[c0, c1, c2, c3, c4] t)) w.heap.size c0 c1 c2 c3 c4 := ⟨by simp, by simp, by simp, by simp, by simp⟩
theorem szalloc (w : World) (o : Obj) : (w.alloc o).heap.size = w.heap.size + 1 := by simp

/-- Two boxed patterns, while a statement is put together. -/
abbrev BB (b1 b2 : Nat) (c0 c1 c2 c3 c4 d0 d1 d2 d3 d4 : Value) (W0 w' : World) : Prop :=
  w'.cell? ⟨b1, 0, none⟩ = some c0 ∧ w'.cell? ⟨b1, 1, none⟩ = some c1 ∧ w'.cell? ⟨b1, 2, none⟩ = some c2 ∧ w'.cell? ⟨b1, 3, none⟩ = some c3 ∧ w'.cell? ⟨b1, 4, none⟩ = some c4 ∧
  w'.cell? ⟨b2, 0, none⟩ = some d0 ∧ w'.cell? ⟨b2, 1, none⟩ = some d1 ∧ w'.cell? ⟨b2, 2, none⟩ = some d2 ∧ w'.cell? ⟨b2, 3, none⟩ = some d3 ∧ w'.cell? ⟨b2, 4, none⟩ = some d4 ∧ Below W0.heap.size W0 w'
theorem BB.mk {b1 b2 : Nat} {c0 c1 c2 c3 c4 d0 d1 d2 d3 d4 : Value} {W0 w' : World} (h1 : Bx w' b1 c0 c1 c2 c3 c4) (h2 : Bx w' b2 d0 d1 d2 d3 d4) (hb : Below W0.heap.size W0 w') : BB b1 b2 c0 c1 c2 c3 c4 d0 d1 d2 d3 d4 W0 w' :=
  ⟨h1.1, h1.2.1, h1.2.2.1, h1.2.2.2.1, h1.2.2.2.2, h2.1, h2.2.1, h2.2.2.1, h2.2.2.2.1, h2.2.2.2.2, hb⟩
theorem BB.bel {b1 b2 : Nat} {c0 c1 c2 c3 c4 d0 d1 d2 d3 d4 : Value} {W0 w' : World} (h : BB b1 b2 c0 c1 c2 c3 c4 d0 d1 d2 d3 d4 W0 w') : Below W0.heap.size W0 w' := h.2.2.2.2.2.2.2.2.2.2
theorem BB.step {b1 b2 : Nat} {c0 c1 c2 c3 c4 d0 d1 d2 d3 d4 : Value} {W0 w1 w2 : World} (h : BB b1 b2 c0 c1 c2 c3 c4 d0 d1 d2 d3 d4 W0 w1) (hb : Below w1.heap.size w1 w2) : BB b1 b2 c0 c1 c2 c3 c4 d0 d1 d2 d3 d4 W0 w2 := by
  obtain ⟨a0, a1, a2, a3, a4, e0, e1, e2, e3, e4, bl⟩ := h
  exact ⟨ble hb a0, ble hb a1, ble hb a2, ble hb a3, ble hb a4, ble hb e0, ble hb e1, ble hb e2, ble hb e3, ble hb e4, btrans bl hb⟩
theorem BB.drw {b1 b2 : Nat} {c0 c1 c2 c3 c4 d0 d1 d2 d3 d4 : Value} {W0 w1 : World} (h : BB b1 b2 c0 c1 c2 c3 c4 d0 d1 d2 d3 d4 W0 w1) : BB b1 b2 c0 c1 c2 c3 c4 d0 d1 d2 d3 d4 W0 w1.drew :=
  ⟨h.1, h.2.1, h.2.2.1, h.2.2.2.1, h.2.2.2.2.1, h.2.2.2.2.2.1, h.2.2.2.2.2.2.1, h.2.2.2.2.2.2.2.1, h.2.2.2.2.2.2.2.2.1, h.2.2.2.2.2.2.2.2.2.1, h.bel.drew⟩

set_option maxHeartbeats 6400000 in
theorem walk10 (a1 a2 : Option Addr) (p1 p2 : Nat) (zs es : List Int) (W F T n : Int) (w : World) (h1 : Ints w a1 zs) (h2 : Ints w a2 es) (hn1 : zs.length ≤ maxLen) (hn2 : es.length ≤ maxLen) :
    Calls Try.prog 10 #[.agg #[.int .i64 W, .int .i64 F, .int .i64 T, .slice a1 zs.length p1, .slice a2 es.length p2], .int .i64 n] w fun e w' => e = .returned (.bool true) ∧ Below w.heap.size w w' := by
  go_enter Try.func10, Try.ntmps10
  go_wp2_with fail
  refine (c24 a1 a2 zs.length es.length p1 p2 _ _ _ 1048576 _ (by omega) (by omega) hn1 hn2).mono ?_
  rintro e w1 ⟨r, rfl, hr, hb⟩
  have HB := btrans (balloc _ _) hb
  have X1 := Bx.mk hb
  clear hb
  rcases hr with rfl | ⟨hr, hr0⟩
  · go_wp2
    go_ret
    exact ⟨rfl, HB⟩
  · have hl1 : zs.length ≤ 1048576 := by omega
    have hl2 : es.length ≤ 1048576 := by omega
    clear hr
    obtain ⟨b0, b1, b2, b3, b4⟩ := id X1
    go_wp2_with fail
    clear b0 b1 b2 b3 b4
    refine (c26 a1 a2 p1 p2 zs es W F T _ (h1.below HB) (h2.below HB) hl1 hl2).mono ?_
    rintro e w2 ⟨g1, g2, rfl, hop, hb2⟩
    have HB2 := btrans HB hb2
    have X2 := X1.below hb2
    clear hb2 HB X1
    go_wp2_with fail
    refine (c32 _ _ _ _ zs es W F T n _ (Ints.of_owns hop.own1) (Ints.of_owns hop.own2) hl1 hl2).mono ?_
    obtain ⟨lx, ly⟩ := laterR_len (W := W) (F := F) (T := T) (n := n) hl1 hl2
    have C20 := fun b1 b2 q1 q2 (w : World) hz he => c20 b1 b2 q1 q2 zs es W F T n w hz he hl1 hl2
    have C20h := hide C20
    clear C20
    generalize laterR W F T zs es n = R at *
    rintro e w3 ⟨so1, sp1, so2, sp2, rfl, si1, si2, hb3⟩
    have HB3 := btrans HB2 hb3
    have X3 := X2.below hb3
    clear hb3 HB2 X2 hop
    obtain ⟨b0, b1, b2, b3, b4⟩ := id X3
    have q3 : w.heap.size < w3.heap.size := cell_lt b0
    go_wp2_with fail
    clear b0 b1 b2 b3 b4
    obtain ⟨W3, hW3⟩ : ∃ W3, w3.alloc (.cells #[.int .i64 R.w, .int .i64 R.f, .int .i64 R.t, .slice so1 R.xs.length sp1, .slice so2 R.ys.length sp2] 26) = W3 := ⟨_, rfl⟩
    have Z3 : W3.heap.size = w3.heap.size + 1 := by rw [← hW3]; simp
    have XW : Bx W3 w3.heap.size (.int .i64 R.w) (.int .i64 R.f) (.int .i64 R.t) (.slice so1 R.xs.length sp1) (.slice so2 R.ys.length sp2) := by rw [← hW3]; exact Bx.new _ _ _ _ _ _ _
    have XA : Bx W3 w.heap.size (.int .i64 W) (.int .i64 F) (.int .i64 T) (.slice a1 zs.length p1) (.slice a2 es.length p2) := by rw [← hW3]; exact X3.below (balloc _ _)
    have S1 : Ints W3 so1 R.xs := by rw [← hW3]; exact si1.below (balloc _ _)
    have S2 : Ints W3 so2 R.ys := by rw [← hW3]; exact si2.below (balloc _ _)
    have HW : Below w.heap.size w W3 := by rw [← hW3]; exact btrans HB3 (balloc _ _)
    have A1 := h1.below HW
    have A2 := h2.below HW
    rw [hW3]
    clear hW3 si1 si2 HB3 X3
    refine (c26 a1 a2 p1 p2 zs es W F T _ A1 A2 hl1 hl2).mono ?_
    rintro e w4 ⟨g3, g4, rfl, hop, hb4⟩
    go_wp2_with fail
    obtain ⟨W4, hW4⟩ : ∃ W4, w4.alloc (.cells #[.int .i64 W, .int .i64 F, .int .i64 T, .slice (some ⟨g3, 0, none⟩) zs.length zs.length, .slice (some ⟨g4, 0, none⟩) es.length es.length] 26) = W4 := ⟨_, rfl⟩
    have Z4 : W4.heap.size = w4.heap.size + 1 := by rw [← hW4]; simp
    have B34 : Below W3.heap.size W3 W4 := by rw [← hW4]; exact btrans hb4 (balloc _ _)
    have XX : Bx W4 w4.heap.size (.int .i64 W) (.int .i64 F) (.int .i64 T) (.slice (some ⟨g3, 0, none⟩) zs.length zs.length) (.slice (some ⟨g4, 0, none⟩) es.length es.length) := by rw [← hW4]; exact Bx.new _ _ _ _ _ _ _
    have P4 : OwnPat W3.heap.size W4 g3 g4 zs es := by rw [← hW4]; exact hop.below (balloc _ _)
    have k3 : g3 < w4.heap.size := owns_lt hop.own1
    have k4 : g4 < w4.heap.size := owns_lt hop.own2
    have z34 : W3.heap.size ≤ w4.heap.size := hb4.size
    rw [hW4]
    clear hW4 hop hb4
    refine (C20h.out _ _ _ _ _ (Ints.of_owns P4.own1) (Ints.of_owns P4.own2)).mono ?_
    rintro e w5 ⟨go1, gp1, go2, gp2, rfl, o1, o2, ap, hb5⟩
    have B35 := btrans B34 hb5
    have c0 := XW.below B35
    obtain ⟨b0, b1, b2, b3, b4⟩ := id c0
    have q5 : w3.heap.size < w5.heap.size := cell_lt b0
    go_wp2_with fail
    clear b0 b1 b2 b3 b4 c0
    obtain ⟨W5, hW5⟩ : ∃ W5, w5.alloc (.cells #[.int .i64 R.w, .int .i64 R.f, .int .i64 R.t, .slice go1 R.xs.length gp1, .slice go2 R.ys.length gp2] 26) = W5 := ⟨_, rfl⟩
    have Z5 : W5.heap.size = w5.heap.size + 1 := by rw [← hW5]; simp
    have z45 : W4.heap.size ≤ w5.heap.size := hb5.size
    have B45 : Below W4.heap.size W4 W5 := by rw [← hW5]; exact btrans hb5 (balloc _ _)
    have B3 : Below W3.heap.size W3 W5 := btrans B34 B45
    have XG : Bx W5 w5.heap.size (.int .i64 R.w) (.int .i64 R.f) (.int .i64 R.t) (.slice go1 R.xs.length gp1) (.slice go2 R.ys.length gp2) := by rw [← hW5]; exact Bx.new _ _ _ _ _ _ _
    have O1 : W5.ownsRow W4.heap.size 3 1 (.slice go1 R.xs.length gp1) R.xs.length (R.xs.map (Value.int .i64)) := by rw [← hW5]; exact own_keep o1 (balloc _ _)
    have O2 : W5.ownsRow W4.heap.size 3 1 (.slice go2 R.ys.length gp2) R.ys.length (R.ys.map (Value.int .i64)) := by rw [← hW5]; exact own_keep o2 (balloc _ _)
    have ho1 := own_hi o1
    have ho2 := own_hi o2
    rw [hW5]
    clear hW5 o1 o2 hb5 B35 B34
    refine (c27 go1 go2 so1 so2 gp1 gp2 sp1 sp2 R.xs R.ys R.w R.f R.t _ (ints_of_own O1) (ints_of_own O2) (S1.below B3) (S2.below B3) lx ly).mono ?_
    rintro e w6 ⟨rfl, hb6⟩
    have B36 := btrans B3 hb6
    have B46 := btrans B45 hb6
    have H6 := BB.mk (XA.below B36) (XX.below B46) (Below.refl w6.heap.size w6)
    go_wp2_with fail
    go_region_held3 (fun w' => BB w.heap.size w4.heap.size (.int .i64 W) (.int .i64 F) (.int .i64 T) (.slice a1 zs.length p1) (.slice a2 es.length p2) (.int .i64 W) (.int .i64 F) (.int .i64 T) (.slice (some ⟨g3, 0, none⟩) zs.length zs.length) (.slice (some ⟨g4, 0, none⟩) es.length es.length) w6 w')
      ((first | (with_reducible exact BB.drw H6) | (with_reducible assumption)))
      (first
        | (go_at_call 26; refine (c26 a1 a2 p1 p2 zs es W F T _ (A1.below (btrans B36 (BB.bel (by assumption)))) (A2.below (btrans B36 (BB.bel (by assumption)))) hl1 hl2).mono ?_; rintro e w7 ⟨g5, g6, rfl, hop7, hb7⟩; have hx7 := BB.step (by assumption) hb7)
        | (go_at_call 27; refine (c27 _ _ _ _ _ _ _ _ zs es W F T _ ((Ints.of_owns P4.own1).below (btrans B46 (BB.bel (by assumption)))) ((Ints.of_owns P4.own2).below (btrans B46 (BB.bel (by assumption)))) (Ints.of_owns hop7.own1) (Ints.of_owns hop7.own2) hl1 hl2).mono ?_; rintro e w8 ⟨rfl, hb8⟩; have hx8 := BB.step (by assumption) hb8))
    have b68 := BB.bel hx8
    have B38 := btrans B36 b68
    have B48 := btrans B46 b68
    have B58 := btrans hb6 b68
    clear hx7 hx8 H6 hop7 hb7 hb8 b68 B36 B46 B3 hb6
    have P8 := P4.below B48
    have O1_8 := own_keep O1 B58
    have O2_8 := own_keep O2 B58
    have XG8 := XG.below B58
    have XX8 := XX.below B48
    have z58 : W5.heap.size ≤ w8.heap.size := B58.size
    obtain ⟨b0, b1, b2, b3, b4⟩ := id XX8
    go_wp2_with fail
    clear b0 b1 b2 b3 b4
    refine (c30 W3.heap.size w4.heap.size (some ⟨g3, 0, none⟩) (some ⟨g4, 0, none⟩) zs.length es.length zs es _ _ _ 1 _ P8.own1 P8.own2 (.inr (by simpa [Value.ownBlock] using P8.apart)) (fun g e => by simp [Value.ownBlock] at e; omega) (fun g e => by simp [Value.ownBlock] at e; omega) (by omega) (by omega) hl1 hl2 (by omega) (by omega)).mono ?_
    rintro e w9 ⟨rfl, _, _, M9⟩
    have O1_9 := M9.own (by omega) O1_8
    have O2_9 := M9.own (by omega) O2_8
    have XG9 := M9.box (by omega) XG8
    have B39 : Below W3.heap.size W3 w9 := B38.trans M9.low
    have z89 : w8.heap.size ≤ w9.heap.size := M9.low.size
    clear M9 O1_8 O2_8 XG8 XX8 P8 B38 B48 B58
    obtain ⟨b0, b1, b2, b3, b4⟩ := id XG9
    obtain ⟨d0, d1, d2, d3, d4⟩ := XW.below B39
    go_wp2_with fail
    clear b0 b1 b2 b3 b4 d0 d1 d2 d3 d4
    refine (c27 go1 go2 so1 so2 gp1 gp2 sp1 sp2 R.xs R.ys R.w R.f R.t _ (ints_of_own O1_9) (ints_of_own O2_9) (S1.below B39) (S2.below B39) lx ly).mono ?_
    rintro e w10 ⟨rfl, hb10⟩
    have O1_10 := own_keep O1_9 hb10
    have O2_10 := own_keep O2_9 hb10
    have XG10 := XG9.below hb10
    have B3_10 := btrans B39 hb10
    have z910 : w9.heap.size ≤ w10.heap.size := hb10.size
    clear O1_9 O2_9 XG9 B39 hb10
    obtain ⟨b0, b1, b2, b3, b4⟩ := id XG10
    go_wp2_with fail
    clear b0 b1 b2 b3 b4
    refine (c30 W4.heap.size w5.heap.size go1 go2 gp1 gp2 R.xs R.ys _ _ _ 1 _ O1_10 O2_10 ap ho1 ho2 (by omega) (by omega) lx ly (by omega) (by omega)).mono ?_
    rintro e w11 ⟨rfl, m1, m2, M11⟩
    have XG11 := M11.box (Nat.le_refl _) XG10
    have B3_11 : Below W3.heap.size W3 w11 := B3_10.trans (M11.low.mono (by omega))
    clear M11 O1_10 O2_10 XG10 B3_10
    have I1 := ints_of_own m1
    have I2 := ints_of_own m2
    clear m1 m2
    obtain ⟨b0, b1, b2, b3, b4⟩ := id XG11
    go_wp2_with fail
    clear b0 b1 b2 b3 b4
    refine (c31 go1 go2 R.xs.length R.ys.length gp1 gp2 _ _ _ 1 _ I1 I2 lx ly (by omega) (by omega)).mono ?_
    rintro e w12 ⟨rfl, hb12⟩
    have I1_12 := I1.below hb12
    have I2_12 := I2.below hb12
    have XG12 := XG11.below hb12
    have B3_12 := btrans B3_11 hb12
    clear I1 I2 XG11 B3_11 hb12
    obtain ⟨b0, b1, b2, b3, b4⟩ := XA.below B3_12
    go_wp2_with fail
    clear b0 b1 b2 b3 b4
    refine (c26 a1 a2 p1 p2 zs es W F T _ (A1.below B3_12) (A2.below B3_12) hl1 hl2).mono ?_
    rintro e w13 ⟨g7, g8, rfl, hop13, hb13⟩
    have B3_13 := btrans B3_12 hb13
    have I1_13 := I1_12.below hb13
    have I2_13 := I2_12.below hb13
    have XG13 := XG12.below hb13
    clear I1_12 I2_12 XG12 B3_12 hb13
    go_wp2_with fail
    refine (C20h.out _ _ _ _ _ (Ints.of_owns hop13.own1) (Ints.of_owns hop13.own2)).mono ?_
    rintro e w14 ⟨fo1, fp1, fo2, fp2, rfl, q1, q2, _, hb14⟩
    have B3_14 := btrans (btrans B3_13 hb14) (balloc _ (.cells #[.int .i64 R.w, .int .i64 R.f, .int .i64 R.t, .slice fo1 R.xs.length fp1, .slice fo2 R.ys.length fp2] 26))
    have I1_14 := (I1_13.below hb14).below (balloc _ (.cells #[.int .i64 R.w, .int .i64 R.f, .int .i64 R.t, .slice fo1 R.xs.length fp1, .slice fo2 R.ys.length fp2] 26))
    have I2_14 := (I2_13.below hb14).below (balloc _ (.cells #[.int .i64 R.w, .int .i64 R.f, .int .i64 R.t, .slice fo1 R.xs.length fp1, .slice fo2 R.ys.length fp2] 26))
    have XG14 := (XG13.below hb14).below (balloc _ (.cells #[.int .i64 R.w, .int .i64 R.f, .int .i64 R.t, .slice fo1 R.xs.length fp1, .slice fo2 R.ys.length fp2] 26))
    have j1 := (ints_of_own q1).below (balloc _ (.cells #[.int .i64 R.w, .int .i64 R.f, .int .i64 R.t, .slice fo1 R.xs.length fp1, .slice fo2 R.ys.length fp2] 26))
    have j2 := (ints_of_own q2).below (balloc _ (.cells #[.int .i64 R.w, .int .i64 R.f, .int .i64 R.t, .slice fo1 R.xs.length fp1, .slice fo2 R.ys.length fp2] 26))
    obtain ⟨b0, b1, b2, b3, b4⟩ := XW.below (btrans B3_13 hb14)
    have q14 : w3.heap.size < w14.heap.size := cell_lt b0
    clear I1_13 I2_13 XG13 B3_13 hb14 hop13 q1 q2
    go_wp2_with fail
    clear b0 b1 b2 b3 b4
    refine (c27 fo1 fo2 so1 so2 fp1 fp2 sp1 sp2 R.xs R.ys R.w R.f R.t _ j1 j2 (S1.below B3_14) (S2.below B3_14) lx ly).mono ?_
    rintro e w15 ⟨rfl, hb15⟩
    have HBf := btrans (btrans HW B3_14) hb15
    have I1_15 := I1_14.below hb15
    have I2_15 := I2_14.below hb15
    have XG15 := XG14.below hb15
    clear I1_14 I2_14 XG14 B3_14 hb15 j1 j2
    obtain ⟨b0, b1, b2, b3, b4⟩ := id XG15
    go_wp2_with fail
    clear b0 b1 b2 b3 b4
    refine (c31 go1 go2 R.xs.length R.ys.length gp1 gp2 _ _ _ 1 _ I1_15 I2_15 lx ly (by omega) (by omega)).mono ?_
    rintro e w16 ⟨rfl, hb16⟩
    go_wp2
    go_ret
    exact ⟨rfl, btrans HBf hb16⟩
end Go.Proofs.Ytmchdclieejohaa
