/- Two drawn patterns. -/
import Derived.Test.YtmchdclieejohaaLK
namespace Go.Proofs.Ytmchdclieejohaa
open Go.RowKit

set_option maxRecDepth 20000 in
set_option maxHeartbeats 6400000 in
theorem cDrawBoth (a : Option Addr) (cap : Nat) (bz : List Int) (w : World) (hz : Bytes w a bz) (hl : bz.length ≤ 1048576) :
    Calls Try.prog 12 #[.slice a bz.length cap] w fun e w' => ∃ (a1 : Option Addr) (p1 : Nat) (a2 : Option Addr) (p2 : Nat) (b1 : Option Addr) (q1 : Nat) (b2 : Option Addr) (q2 : Nat) (R S : PatV),
      e = .returned (.tuple #[.agg #[.int .i64 R.w, .int .i64 R.f, .int .i64 R.t, .slice a1 R.xs.length p1, .slice a2 R.ys.length p2], .agg #[.int .i64 S.w, .int .i64 S.f, .int .i64 S.t, .slice b1 S.xs.length q1, .slice b2 S.ys.length q2]]) ∧
      R.xs.length ≤ 30 ∧ R.ys.length ≤ 30 ∧ S.xs.length ≤ 30 ∧ S.ys.length ≤ 30 ∧ Ints w' a1 R.xs ∧ Ints w' a2 R.ys ∧ Ints w' b1 S.xs ∧ Ints w' b2 S.ys ∧ Below w.heap.size w w' := by
  have hA := btrans (balloc w (.cells #[.int .i64 0, .int .i64 0, .int .i64 0, .slice none 0 0, .slice none 0 0] 26)) (balloc (w.alloc (.cells #[.int .i64 0, .int .i64 0, .int .i64 0, .slice none 0 0, .slice none 0 0] 26)) (.cells #[.int .i64 0, .int .i64 0, .int .i64 0, .slice none 0 0, .slice none 0 0] 26))
  have r0 : ((w.alloc (.cells #[.int .i64 0, .int .i64 0, .int .i64 0, .slice none 0 0, .slice none 0 0] 26)).alloc (.cells #[.int .i64 0, .int .i64 0, .int .i64 0, .slice none 0 0, .slice none 0 0] 26)).heap[w.heap.size]? = some (.cells #[.int .i64 0, .int .i64 0, .int .i64 0, .slice none 0 0, .slice none 0 0] 26 (0, 0)) := old5 _ (new5 _ _ _ rfl)
  have s0 : ((w.alloc (.cells #[.int .i64 0, .int .i64 0, .int .i64 0, .slice none 0 0, .slice none 0 0] 26)).alloc (.cells #[.int .i64 0, .int .i64 0, .int .i64 0, .slice none 0 0, .slice none 0 0] 26)).heap[w.heap.size + 1]? = some (.cells #[.int .i64 0, .int .i64 0, .int .i64 0, .slice none 0 0, .slice none 0 0] 26 (0, 0)) := new5 _ _ _ (by simp)
  go_enter Try.func12, Try.ntmps12
  go_wp2_with fail
  refine (cnew a cap bz _ (hz.below hA) hl).mono ?_
  rintro e w1 ⟨cb, rfl, hcb, C1, hb1⟩
  have r1 := (hb1.block _ (lt_of_block r0)).trans r0
  have s1 := (hb1.block _ (lt_of_block s0)).trans s0
  have HB1 := btrans hA hb1
  simp at hcb
  clear hA r0 s0 hb1
  have hcw := C1.lt (.inl rfl)
  go_wp2_with fail
  refine (cDrawAny cb cap a bz _ C1 hl).mono ?_
  rintro e w2 ⟨a1, p1, a2, p2, R, rfl, lx, ly, I1, I2, C2, G2⟩
  have r2 := (G2.block _ (lt_of_block r1) (by simp; omega)).trans r1
  have s2 := (G2.block _ (lt_of_block s1) (by simp; omega)).trans s1
  have HB2 : Below w.heap.size w w2 := HB1.grown G2 HB1.size (fun k hk => by cases hk; omega)
  have z2 := G2.size
  clear HB1 r1 s1 C1 G2
  obtain ⟨W, F, T, xs, ys⟩ := R
  dsimp only at *
  have hA := balloc w2 (.cells #[.int .i64 W, .int .i64 F, .int .i64 T, .slice a1 xs.length p1, .slice a2 ys.length p2] 26)
  have k3 : (w2.alloc (.cells #[.int .i64 W, .int .i64 F, .int .i64 T, .slice a1 xs.length p1, .slice a2 ys.length p2] 26)).heap[w2.heap.size]? = some (.cells #[.int .i64 W, .int .i64 F, .int .i64 T, .slice a1 xs.length p1, .slice a2 ys.length p2] 26 (0, 0)) := new5 _ _ _ rfl
  have r3 := old5 (.cells #[.int .i64 W, .int .i64 F, .int .i64 T, .slice a1 xs.length p1, .slice a2 ys.length p2] 26) r2
  have s3 := old5 (.cells #[.int .i64 W, .int .i64 F, .int .i64 T, .slice a1 xs.length p1, .slice a2 ys.length p2] 26) s2
  have HB3 := btrans HB2 hA
  have C3 := C2.below hA
  have I13 := I1.alloc (.cells #[.int .i64 W, .int .i64 F, .int .i64 T, .slice a1 xs.length p1, .slice a2 ys.length p2] 26)
  have I23 := I2.alloc (.cells #[.int .i64 W, .int .i64 F, .int .i64 T, .slice a1 xs.length p1, .slice a2 ys.length p2] 26)
  clear HB2 r2 s2 C2 I1 I2 hA
  go_wp2_with fail
  refine (cDrawAny cb cap a bz _ C3 hl).mono ?_
  rintro e w4 ⟨b1, q1, b2, q2, S, rfl, lu, lv, J1, J2, C4, G4⟩
  have eP : (w2.alloc (.cells #[.int .i64 W, .int .i64 F, .int .i64 T, .slice a1 xs.length p1, .slice a2 ys.length p2] 26)).heap.size = w2.heap.size + 1 := by simp
  rw [eP] at J1 J2
  clear eP
  have z4 := G4.size
  simp at z4
  have r4 := (G4.block _ (lt_of_block r3) (by simp; omega)).trans r3
  have s4 := (G4.block _ (lt_of_block s3) (by simp; omega)).trans s3
  have k4 := (G4.block _ (lt_of_block k3) (by simp; omega)).trans k3
  have HB4 : Below w.heap.size w w4 := HB3.grown G4 HB3.size (fun k hk => by cases hk; omega)
  have I14 := own_far I13 G4 (fun k hk e => by have := own_from I13 (Nat.le_refl _) k hk; cases e; omega)
  have I24 := own_far I23 G4 (fun k hk e => by have := own_from I23 (Nat.le_refl _) k hk; cases e; omega)
  clear HB3 r3 s3 k3 C3 I13 I23 G4
  obtain ⟨V, G, H, us, vs⟩ := S
  dsimp only at *
  have hA := balloc w4 (.cells #[.int .i64 V, .int .i64 G, .int .i64 H, .slice b1 us.length q1, .slice b2 vs.length q2] 26)
  have m5 : (w4.alloc (.cells #[.int .i64 V, .int .i64 G, .int .i64 H, .slice b1 us.length q1, .slice b2 vs.length q2] 26)).heap[w4.heap.size]? = some (.cells #[.int .i64 V, .int .i64 G, .int .i64 H, .slice b1 us.length q1, .slice b2 vs.length q2] 26 (0, 0)) := new5 _ _ _ rfl
  have r5 := old5 (.cells #[.int .i64 V, .int .i64 G, .int .i64 H, .slice b1 us.length q1, .slice b2 vs.length q2] 26) r4
  have s5 := old5 (.cells #[.int .i64 V, .int .i64 G, .int .i64 H, .slice b1 us.length q1, .slice b2 vs.length q2] 26) s4
  have k5 := old5 (.cells #[.int .i64 V, .int .i64 G, .int .i64 H, .slice b1 us.length q1, .slice b2 vs.length q2] 26) k4
  have HB5 := btrans HB4 hA
  have C5 := C4.below hA
  have I15 := I14.alloc (.cells #[.int .i64 V, .int .i64 G, .int .i64 H, .slice b1 us.length q1, .slice b2 vs.length q2] 26)
  have I25 := I24.alloc (.cells #[.int .i64 V, .int .i64 G, .int .i64 H, .slice b1 us.length q1, .slice b2 vs.length q2] 26)
  have J15 := J1.alloc (.cells #[.int .i64 V, .int .i64 G, .int .i64 H, .slice b1 us.length q1, .slice b2 vs.length q2] 26)
  have J25 := J2.alloc (.cells #[.int .i64 V, .int .i64 G, .int .i64 H, .slice b1 us.length q1, .slice b2 vs.length q2] 26)
  have e14 := own_blk_lt I14
  have e24 := own_blk_lt I24
  clear HB4 r4 s4 k4 C4 I14 I24 J1 J2 hA
  go_wp2_with fail
  refine (conce cb cap a bz 3 _ C5 hl (by omega) (by omega)).mono ?_
  rintro e w6 ⟨r, rfl, C6, G6⟩
  have z6 := G6.size
  simp at z6
  have r6 := (G6.block _ (lt_of_block r5) (by simp; omega)).trans r5
  have s6 := (G6.block _ (lt_of_block s5) (by simp; omega)).trans s5
  have k6 := (G6.block _ (lt_of_block k5) (by simp; omega)).trans k5
  have m6 := (G6.block _ (lt_of_block m5) (by simp; omega)).trans m5
  have HB6 : Below w.heap.size w w6 := HB5.grown G6 HB5.size (fun k hk => by cases hk; omega)
  have I16 := own_far I15 G6 (fun k hk e => by have := own_from I15 (Nat.le_refl _) k hk; cases e; omega)
  have I26 := own_far I25 G6 (fun k hk e => by have := own_from I25 (Nat.le_refl _) k hk; cases e; omega)
  have J16 := own_far J15 G6 (fun k hk e => by have := own_from J15 (Nat.le_refl _) k hk; cases e; omega)
  have J26 := own_far J25 G6 (fun k hk e => by have := own_from J25 (Nat.le_refl _) k hk; cases e; omega)
  clear HB5 r5 s5 k5 m5 C5 I15 I25 J15 J25 G6 C6
  obtain ⟨⟨z0, z1, z2', z3, z4'⟩, f0, f1, f2, f3, f4⟩ := blk5 r6
  obtain ⟨⟨y0, y1, y2, y3, y4⟩, g0, g1, g2, g3, g4⟩ := blk5 s6
  obtain ⟨⟨u0, u1, u2, u3, u4⟩, -⟩ := blk5 k6
  obtain ⟨⟨t0, t1, t2, t3, t4⟩, h0, h1, h2, h3, h4⟩ := blk5 m6
  generalize w2.heap.size = n2 at *
  generalize w4.heap.size = n4 at *
  cases r
  · go_wp2
    go_region
    have B1 := below_set5 (u0 := .int .i64 W) (u1 := .int .i64 F) (u2 := .int .i64 T) (u3 := .slice a1 xs.length p1) (u4 := .slice a2 ys.length p2) (Nat.le_refl w.heap.size) HB6
    have B2 := (below_set5 (u0 := .int .i64 V) (u1 := .int .i64 G) (u2 := .int .i64 H) (u3 := .slice b1 us.length q1) (u4 := .slice b2 vs.length q2) (Nat.le_succ w.heap.size) B1).drew
    have X1 := (ints_of_own (own_set5 (u0 := .int .i64 V) (u1 := .int .i64 G) (u2 := .int .i64 H) (u3 := .slice b1 us.length q1) (u4 := .slice b2 vs.length q2) (B := w.heap.size + 1) (by omega) (own_set5 (u0 := .int .i64 W) (u1 := .int .i64 F) (u2 := .int .i64 T) (u3 := .slice a1 xs.length p1) (u4 := .slice a2 ys.length p2) (B := w.heap.size) (by omega) I16))).below (Below.refl _ _).drew
    have X2 := (ints_of_own (own_set5 (u0 := .int .i64 V) (u1 := .int .i64 G) (u2 := .int .i64 H) (u3 := .slice b1 us.length q1) (u4 := .slice b2 vs.length q2) (B := w.heap.size + 1) (by omega) (own_set5 (u0 := .int .i64 W) (u1 := .int .i64 F) (u2 := .int .i64 T) (u3 := .slice a1 xs.length p1) (u4 := .slice a2 ys.length p2) (B := w.heap.size) (by omega) I26))).below (Below.refl _ _).drew
    have X3 := (ints_of_own (own_set5 (u0 := .int .i64 V) (u1 := .int .i64 G) (u2 := .int .i64 H) (u3 := .slice b1 us.length q1) (u4 := .slice b2 vs.length q2) (B := w.heap.size + 1) (by omega) (own_set5 (u0 := .int .i64 W) (u1 := .int .i64 F) (u2 := .int .i64 T) (u3 := .slice a1 xs.length p1) (u4 := .slice a2 ys.length p2) (B := w.heap.size) (by omega) J16))).below (Below.refl _ _).drew
    have X4 := (ints_of_own (own_set5 (u0 := .int .i64 V) (u1 := .int .i64 G) (u2 := .int .i64 H) (u3 := .slice b1 us.length q1) (u4 := .slice b2 vs.length q2) (B := w.heap.size + 1) (by omega) (own_set5 (u0 := .int .i64 W) (u1 := .int .i64 F) (u2 := .int .i64 T) (u3 := .slice a1 xs.length p1) (u4 := .slice a2 ys.length p2) (B := w.heap.size) (by omega) J26))).below (Below.refl _ _).drew
    go_wp2
    refine bodyPost_ret (v := .tuple #[.agg #[.int .i64 W, .int .i64 F, .int .i64 T, .slice a1 xs.length p1, .slice a2 ys.length p2], .agg #[.int .i64 V, .int .i64 G, .int .i64 H, .slice b1 us.length q1, .slice b2 vs.length q2]]) (by simp [results, Try.results12, go_sem, z0, z1, z2', z3, z4', y0, y1, y2, y3, y4]) rfl ?_
    exact ⟨a1, p1, a2, p2, b1, q1, b2, q2, ⟨W, F, T, xs, ys⟩, ⟨V, G, H, us, vs⟩, rfl, lx, ly, lu, lv, X1, X2, X3, X4, B2⟩
  · go_wp2
    go_region
    have G7 := gset (gset (gset (gset (grown_set w6 n4 0 (.int .i64 W)) 1 (.int .i64 G)) 2 (.int .i64 H)) 3 (.slice none 0 0)) 4 (.slice none 0 0)
    have I17 := own_far I16 G7 (fun k hk e => by have := e14 k hk; cases e; omega)
    have I27 := own_far I26 G7 (fun k hk e => by have := e24 k hk; cases e; omega)
    have HB7 := below_set5 (u0 := .int .i64 W) (u1 := .int .i64 G) (u2 := .int .i64 H) (u3 := .slice none 0 0) (u4 := .slice none 0 0) (show w.heap.size ≤ n4 by omega) HB6
    have B1 := below_set5 (u0 := .int .i64 W) (u1 := .int .i64 F) (u2 := .int .i64 T) (u3 := .slice a1 xs.length p1) (u4 := .slice a2 ys.length p2) (Nat.le_refl w.heap.size) HB7
    have B2 := (below_set5 (u0 := .int .i64 W) (u1 := .int .i64 G) (u2 := .int .i64 H) (u3 := .slice none 0 0) (u4 := .slice none 0 0) (Nat.le_succ w.heap.size) B1).drew
    have X1 := (ints_of_own (own_set5 (u0 := .int .i64 W) (u1 := .int .i64 G) (u2 := .int .i64 H) (u3 := .slice none 0 0) (u4 := .slice none 0 0) (B := w.heap.size + 1) (by omega) (own_set5 (u0 := .int .i64 W) (u1 := .int .i64 F) (u2 := .int .i64 T) (u3 := .slice a1 xs.length p1) (u4 := .slice a2 ys.length p2) (B := w.heap.size) (by omega) I17))).below (Below.refl _ _).drew
    have X2 := (ints_of_own (own_set5 (u0 := .int .i64 W) (u1 := .int .i64 G) (u2 := .int .i64 H) (u3 := .slice none 0 0) (u4 := .slice none 0 0) (B := w.heap.size + 1) (by omega) (own_set5 (u0 := .int .i64 W) (u1 := .int .i64 F) (u2 := .int .i64 T) (u3 := .slice a1 xs.length p1) (u4 := .slice a2 ys.length p2) (B := w.heap.size) (by omega) I27))).below (Below.refl _ _).drew
    go_wp2
    refine bodyPost_ret (v := .tuple #[.agg #[.int .i64 W, .int .i64 F, .int .i64 T, .slice a1 xs.length p1, .slice a2 ys.length p2], .agg #[.int .i64 W, .int .i64 G, .int .i64 H, .slice none 0 0, .slice none 0 0]]) (by simp [results, Try.results12, go_sem, z0, z1, z2', z3, z4', y0, y1, y2, y3, y4]) rfl ?_
    exact ⟨a1, p1, a2, p2, none, 0, none, 0, ⟨W, F, T, xs, ys⟩, ⟨W, G, H, [], []⟩, rfl, lx, ly, by simp, by simp, X1, X2, .inl rfl, .inl rfl, B2⟩
end Go.Proofs.Ytmchdclieejohaa
