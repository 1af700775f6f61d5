/- A drawn pattern, right or wrong. -/
import Derived.Test.YtmchdclieejohaaLJ
import Derived.Deep.AppendLies
import Derived.Deep.RegionLaw
namespace Go.Proofs.Ytmchdclieejohaa
open Go.RowKit

theorem ints4 (w : World) (x0 x1 x2 x3 : Int) : Ints (w.alloc (.cells #[.int .i64 x0, .int .i64 x1, .int .i64 x2, .int .i64 x3] 3)) (some ⟨w.heap.size, 0, none⟩) [x0, x1, x2, x3] := by
  refine .inr ⟨w.heap.size, 0, rfl, fun i hi => ?_⟩
  match i, hi with
  | 0, _ => simp
  | 1, _ => simp
  | 2, _ => simp
  | 3, _ => simp

set_option maxRecDepth 20000 in
set_option maxHeartbeats 12800000 in
theorem cDrawAny (cb cap : Nat) (a : Option Addr) (bz : List Int) (w : World) (hc : Cur w cb a cap bz) (hl : bz.length ≤ 1048576) :
    Calls Try.prog 34 #[.pointer (some ⟨cb, 0, none⟩)] w fun e w' => ∃ (ao1 : Option Addr) (cp1 : Nat) (ao2 : Option Addr) (cp2 : Nat) (R : PatV), e = .returned (.agg #[.int .i64 R.w, .int .i64 R.f, .int .i64 R.t, .slice ao1 R.xs.length cp1, .slice ao2 R.ys.length cp2]) ∧
      R.xs.length ≤ 30 ∧ R.ys.length ≤ 30 ∧ w'.ownsRow w.heap.size 3 1 (.slice ao1 R.xs.length cp1) R.xs.length (R.xs.map (Value.int .i64)) ∧ w'.ownsRow w.heap.size 3 1 (.slice ao2 R.ys.length cp2) R.ys.length (R.ys.map (Value.int .i64)) ∧ Cur w' cb a cap bz ∧ w.grownBy w' (some cb) := by
  obtain ⟨i0, hi, hz0, hz1, hz2⟩ := info_parts info3
  have hB : ∀ k, OnCur cb a bz k → k < w.heap.size := fun k hk => hc.lt hk
  have hcb := hB cb (.inl rfl)
  have C0 := hc.below (balloc w (.cells #[.int .i64 0, .int .i64 0, .int .i64 0, .slice none 0 0, .slice none 0 0] 26))
  have r0 : (w.alloc (.cells #[.int .i64 0, .int .i64 0, .int .i64 0, .slice none 0 0, .slice none 0 0] 26)).heap[w.heap.size]? = some (.cells #[.int .i64 0, .int .i64 0, .int .i64 0, .slice none 0 0, .slice none 0 0] 26 (0, 0)) := new5 _ _ _ rfl
  have g0 : w.grownBy (w.alloc (.cells #[.int .i64 0, .int .i64 0, .int .i64 0, .slice none 0 0, .slice none 0 0] 26)) (some cb) := gof (balloc w _)
  go_enter Try.func34, Try.ntmps34
  go_wp2_with fail
  refine (cDrawR2 cb cap a bz _ C0 hl).mono ?_
  rintro e w1 ⟨ao1, cp1, ao2, cp2, R, rfl, hok, h200, I1, I2, ha, C1, G1⟩
  have hsz : (w.alloc (.cells #[.int .i64 0, .int .i64 0, .int .i64 0, .slice none 0 0, .slice none 0 0] 26)).heap.size = w.heap.size + 1 := by simp
  rw [hsz] at I1 I2
  have s1 := G1.size
  rw [hsz] at s1
  have r1 := (G1.block _ (lt_of_block r0) (by simp; omega)).trans r0
  have g1 := gtrans g0 G1
  clear C0 r0 g0 G1 hc hsz
  obtain ⟨W, F, T, xs, ys⟩ := R
  dsimp only at *
  obtain ⟨-, ⟨F0, FT, -⟩, -, -⟩ := patOk_bd hok
  have hx20 : xs.length ≤ 20 := by simp only [patOk, Bool.and_eq_true] at hok; exact dOk_len hok.2.2.2.1
  have hy20 : ys.length ≤ 20 := by simp only [patOk, Bool.and_eq_true] at hok; exact dOk_len hok.2.2.2.2
  clear hok
  have OA := OD.new (wk := W) (f := F) (t := T) s1 I1 I2 ha
  have hA := balloc w1 (.cells #[.int .i64 W, .int .i64 F, .int .i64 T, .slice ao1 xs.length cp1, .slice ao2 ys.length cp2] 26)
  have CA := C1.below hA
  have RA := (hA.block _ (lt_of_block r1)).trans r1
  have GA := gbelow g1 hA
  clear I1 I2 ha C1 r1 g1 hA
  go_wp2_with fail
  refine (cbelow cb cap a bz 22 _ CA hl (by omega) (by omega)).mono ?_
  rintro e w2 ⟨k, rfl, k0, k1, C2, G2'⟩
  have O2 := OA.far G2' (by omega)
  have R2 := (G2'.block _ (lt_of_block RA) (by simp; omega)).trans RA
  have G2 := gtrans GA G2'
  have hlt2 := O2.lt
  clear OA CA RA GA G2'
  generalize w1.heap.size = n0 at *
  obtain ⟨⟨u0, u1, u2, u3, u4⟩, -⟩ := blk5 O2.out
  by_cases e0 : k = 0
  · subst e0
    go_wp2_with fail
    have hA := balloc w2 (.cells #[.int .i64 (-1), .int .i64 0, .int .i64 127, .int .i64 128] 3)
    have IL : Ints (w2.alloc (.cells #[.int .i64 (-1), .int .i64 0, .int .i64 127, .int .i64 128] 3)) (some ⟨w2.heap.size, 0, none⟩) [-1, 0, 127, 128] := ints4 _ _ _ _ _
    refine (cPick cb cap a bz _ _ [-1, 0, 127, 128] _ (C2.below hA) hl IL (fun x hx => by cases hx; simp; omega) (by simp) (by simp)).mono ?_
    rintro e w3 ⟨y, rfl, -, C3, G3'⟩
    have O3 := (O2.alloc _).far G3' (by omega)
    have R3 := (G3'.block _ (by simp; omega) (by simp; omega)).trans ((hA.block _ (lt_of_block R2)).trans R2)
    have G3 := gtrans (gbelow G2 hA) G3'
    have OX := O3.set0 y
    have fr := O3.setB 0 (.int .i64 y)
    have CX := C3.under (fun k hk => Nat.lt_succ_of_lt (hB k hk)) fr
    have RX := (fr.block w.heap.size (by omega)).trans R3
    have GX := grown_rest G3 fr (by omega)
    clear u0 u1 u2 u3 u4 IL
    obtain ⟨⟨t0, t1, t2, t3, t4⟩, m0, m1, m2, m3, m4⟩ := blk5 O3.out
    obtain ⟨⟨z0, z1, z2, z3, z4⟩, f0, f1, f2, f3, f4⟩ := blk5 RX
    obtain ⟨⟨u0, u1, u2, u3, u4⟩, -⟩ := blk5 OX.out
    have hbs := below_set5 (u0 := .int .i64 y) (u1 := .int .i64 F) (u2 := .int .i64 T) (u3 := .slice ao1 xs.length cp1) (u4 := .slice ao2 ys.length cp2) (Nat.le_refl w.heap.size) (Below.refl w.heap.size (w3.setCell ⟨n0, 0, none⟩ (.int .i64 y)))
    have Q1 := own_set5 (u0 := .int .i64 y) (u1 := .int .i64 F) (u2 := .int .i64 T) (u3 := .slice ao1 xs.length cp1) (u4 := .slice ao2 ys.length cp2) (B := w.heap.size) (by omega) OX.own1
    have Q2 := own_set5 (u0 := .int .i64 y) (u1 := .int .i64 F) (u2 := .int .i64 T) (u3 := .slice ao1 xs.length cp1) (u4 := .slice ao2 ys.length cp2) (B := w.heap.size) (by omega) OX.own2
    have C9 := CX.under hB hbs
    have GW9 := grown_rest GX hbs (Nat.le_refl _)
    go_wp2
    refine bodyPost_ret (v := .agg #[.int .i64 y, .int .i64 F, .int .i64 T, .slice ao1 xs.length cp1, .slice ao2 ys.length cp2]) (by simp [results, Try.results34, go_sem, z0, z1, z2, z3, z4]) rfl ?_
    exact ⟨_, _, _, _, ⟨y, F, T, xs, ys⟩, rfl, by simp; omega, by simp; omega, Go.Joins.ownsRow_le Q1 (base' := w.heap.size) (by omega), Go.Joins.ownsRow_le Q2 (base' := w.heap.size) (by omega), C9, GW9⟩
  by_cases e1 : k = 1
  · subst e1
    go_wp2_with fail
    have hA := balloc w2 (.cells #[.int .i64 (F - 1), .int .i64 F, .int .i64 3650, .int .i64 3651] 3)
    have IL : Ints (w2.alloc (.cells #[.int .i64 (F - 1), .int .i64 F, .int .i64 3650, .int .i64 3651] 3)) (some ⟨w2.heap.size, 0, none⟩) [F - 1, F, 3650, 3651] := ints4 _ _ _ _ _
    refine (cPick cb cap a bz _ _ [F - 1, F, 3650, 3651] _ (C2.below hA) hl IL (fun x hx => by cases hx; simp; omega) (by simp) (by simp)).mono ?_
    rintro e w3 ⟨y, rfl, -, C3, G3'⟩
    have O3 := (O2.alloc _).far G3' (by omega)
    have R3 := (G3'.block _ (by simp; omega) (by simp; omega)).trans ((hA.block _ (lt_of_block R2)).trans R2)
    have G3 := gtrans (gbelow G2 hA) G3'
    have OX := O3.set2 y
    have fr := O3.setB 2 (.int .i64 y)
    have CX := C3.under (fun k hk => Nat.lt_succ_of_lt (hB k hk)) fr
    have RX := (fr.block w.heap.size (by omega)).trans R3
    have GX := grown_rest G3 fr (by omega)
    clear u0 u1 u2 u3 u4 IL
    obtain ⟨⟨t0, t1, t2, t3, t4⟩, m0, m1, m2, m3, m4⟩ := blk5 O3.out
    obtain ⟨⟨z0, z1, z2, z3, z4⟩, f0, f1, f2, f3, f4⟩ := blk5 RX
    obtain ⟨⟨u0, u1, u2, u3, u4⟩, -⟩ := blk5 OX.out
    have hbs := below_set5 (u0 := .int .i64 W) (u1 := .int .i64 F) (u2 := .int .i64 y) (u3 := .slice ao1 xs.length cp1) (u4 := .slice ao2 ys.length cp2) (Nat.le_refl w.heap.size) (Below.refl w.heap.size (w3.setCell ⟨n0, 2, none⟩ (.int .i64 y)))
    have Q1 := own_set5 (u0 := .int .i64 W) (u1 := .int .i64 F) (u2 := .int .i64 y) (u3 := .slice ao1 xs.length cp1) (u4 := .slice ao2 ys.length cp2) (B := w.heap.size) (by omega) OX.own1
    have Q2 := own_set5 (u0 := .int .i64 W) (u1 := .int .i64 F) (u2 := .int .i64 y) (u3 := .slice ao1 xs.length cp1) (u4 := .slice ao2 ys.length cp2) (B := w.heap.size) (by omega) OX.own2
    have C9 := CX.under hB hbs
    have GW9 := grown_rest GX hbs (Nat.le_refl _)
    go_wp2
    refine bodyPost_ret (v := .agg #[.int .i64 W, .int .i64 F, .int .i64 y, .slice ao1 xs.length cp1, .slice ao2 ys.length cp2]) (by simp [results, Try.results34, go_sem, z0, z1, z2, z3, z4]) rfl ?_
    exact ⟨_, _, _, _, ⟨W, F, y, xs, ys⟩, rfl, by simp; omega, by simp; omega, Go.Joins.ownsRow_le Q1 (base' := w.heap.size) (by omega), Go.Joins.ownsRow_le Q2 (base' := w.heap.size) (by omega), C9, GW9⟩
  by_cases e2 : k = 2
  · subst e2
    go_upto_region 8 with fail
    go_region_law (first
      | (go_simp; go_at_call 55; refine (cbelow cb cap a bz 9 _ (C2.below (Below.refl _ _).drew) hl (by omega) (by omega)).mono ?_; rintro e w3 ⟨y, rfl, y0, y1, C3, G3d⟩; have G3' := undrewG G3d; clear G3d; have O3 := O2.far G3' (by omega); obtain ⟨⟨t0, t1, t2, t3, t4⟩, m0, m1, m2, m3, m4⟩ := blk5 O3.out; have hlt3 := O3.lt; have hFy : IntKind.i64.wrap (F + y) = F + y := wrap_in _ (by omega) (by omega); dsimp only)
      | (refine step_append_lies _ (by rfl) _ _ _ (by rfl) (w.heap.size + 1) 3 i0 (.int .i64 0) 1 8 Try.underlying24 hi hz0 hz1 hz2 rfl (by decide) (.slice ao1 xs.length cp1) xs.length (xs.map (Value.int .i64)) (by rfl) (by exact O3.own1.alloc _) ⟨w3.heap.size, 0, none⟩ 1 1 [.int .i64 (F + y)] rfl rfl (by intro i u hj; match i, hj with | 0, hj => simp at hj; subst hj; simp [Addr.add]) (by intro u hu; simp at hu; subst hu; rfl) (by decide) (by unfold maxLen; omega) (by omega) (by simp; omega) (w3.heap.size + 1) (by simp) ?_; intro g cap2 w6 hown hgrow hat hlt2; have hmid := (O3.mid1 hgrow).trans O3.out; obtain ⟨⟨v0, v1, v2, v3, v4⟩, x0, x1, x2, x3, x4⟩ := blk5 hmid))
    all_goals (
      obtain ⟨OX, hb6⟩ := O3.push1 hown hgrow hat
      have R3 := (G3'.block _ (lt_of_block R2) (by simp; omega)).trans R2
      have G3 := gtrans G2 G3'
      have CX := C3.under (fun k hk => Nat.lt_succ_of_lt (hB k hk)) hb6
      have RX := (hb6.block w.heap.size (by omega)).trans R3
      have GX := grown_rest G3 hb6 (by omega)
      clear u0 u1 u2 u3 u4 t0 t1 t2 t3 t4 m0 m1 m2 m3 m4 hown hgrow hat hmid
      obtain ⟨⟨z0, z1, z2, z3, z4⟩, f0, f1, f2, f3, f4⟩ := blk5 RX
      have hbs := below_set5 (u0 := .int .i64 W) (u1 := .int .i64 F) (u2 := .int .i64 T) (u3 := .slice (some ⟨g, 0, none⟩) (xs.length + 1) cap2) (u4 := .slice ao2 ys.length cp2) (Nat.le_refl w.heap.size) (Below.refl w.heap.size (w6.setCell ⟨n0, 3, none⟩ (.slice (some ⟨g, 0, none⟩) (xs.length + 1) cap2)))
      have Q1 := own_set5 (u0 := .int .i64 W) (u1 := .int .i64 F) (u2 := .int .i64 T) (u3 := .slice (some ⟨g, 0, none⟩) (xs.length + 1) cap2) (u4 := .slice ao2 ys.length cp2) (B := w.heap.size) (by omega) OX.own1
      have Q2 := own_set5 (u0 := .int .i64 W) (u1 := .int .i64 F) (u2 := .int .i64 T) (u3 := .slice (some ⟨g, 0, none⟩) (xs.length + 1) cap2) (u4 := .slice ao2 ys.length cp2) (B := w.heap.size) (by omega) OX.own2
      have C9 := CX.under hB hbs
      have GW9 := grown_rest GX hbs (Nat.le_refl _)
      go_wp2
      refine bodyPost_ret (v := .agg #[.int .i64 W, .int .i64 F, .int .i64 T, .slice (some ⟨g, 0, none⟩) (xs.length + 1) cap2, .slice ao2 ys.length cp2]) (by simp [results, Try.results34, go_sem, z0, z1, z2, z3, z4]) rfl ?_
      exact ⟨some ⟨g, 0, none⟩, cap2, ao2, cp2, ⟨W, F, T, xs ++ [F + y], ys⟩, by simp, by simp; omega, by simp; omega, Go.Joins.ownsRow_le Q1 (base' := w.heap.size) (by omega), Go.Joins.ownsRow_le Q2 (base' := w.heap.size) (by omega), C9, GW9⟩)
  by_cases e3 : k = 3
  · subst e3
    go_upto_region 10 with fail
    go_region_law (first
      | (go_simp; go_at_call 55; refine (cbelow cb cap a bz 9 _ (C2.below (Below.refl _ _).drew) hl (by omega) (by omega)).mono ?_; rintro e w3 ⟨y, rfl, y0, y1, C3, G3d⟩; have G3' := undrewG G3d; clear G3d; have O3 := O2.far G3' (by omega); obtain ⟨⟨t0, t1, t2, t3, t4⟩, m0, m1, m2, m3, m4⟩ := blk5 O3.out; have hlt3 := O3.lt; have hFy : IntKind.i64.wrap (F + y) = F + y := wrap_in _ (by omega) (by omega); dsimp only)
      | (refine step_append_lies _ (by rfl) _ _ _ (by rfl) (w.heap.size + 1) 3 i0 (.int .i64 0) 1 8 Try.underlying24 hi hz0 hz1 hz2 rfl (by decide) (.slice ao2 ys.length cp2) ys.length (ys.map (Value.int .i64)) (by rfl) (by exact O3.own2.alloc _) ⟨w3.heap.size, 0, none⟩ 1 1 [.int .i64 (F + y)] rfl rfl (by intro i u hj; match i, hj with | 0, hj => simp at hj; subst hj; simp [Addr.add]) (by intro u hu; simp at hu; subst hu; rfl) (by decide) (by unfold maxLen; omega) (by omega) (by simp; omega) (w3.heap.size + 1) (by simp) ?_; intro g cap2 w6 hown hgrow hat hlt2; have hmid := (O3.mid2 hgrow).trans O3.out; obtain ⟨⟨v0, v1, v2, v3, v4⟩, x0, x1, x2, x3, x4⟩ := blk5 hmid))
    all_goals (
      obtain ⟨OX, hb6⟩ := O3.push2 hown hgrow hat
      have R3 := (G3'.block _ (lt_of_block R2) (by simp; omega)).trans R2
      have G3 := gtrans G2 G3'
      have CX := C3.under (fun k hk => Nat.lt_succ_of_lt (hB k hk)) hb6
      have RX := (hb6.block w.heap.size (by omega)).trans R3
      have GX := grown_rest G3 hb6 (by omega)
      clear u0 u1 u2 u3 u4 t0 t1 t2 t3 t4 m0 m1 m2 m3 m4 hown hgrow hat hmid
      obtain ⟨⟨z0, z1, z2, z3, z4⟩, f0, f1, f2, f3, f4⟩ := blk5 RX
      have hbs := below_set5 (u0 := .int .i64 W) (u1 := .int .i64 F) (u2 := .int .i64 T) (u3 := .slice ao1 xs.length cp1) (u4 := .slice (some ⟨g, 0, none⟩) (ys.length + 1) cap2) (Nat.le_refl w.heap.size) (Below.refl w.heap.size (w6.setCell ⟨n0, 4, none⟩ (.slice (some ⟨g, 0, none⟩) (ys.length + 1) cap2)))
      have Q1 := own_set5 (u0 := .int .i64 W) (u1 := .int .i64 F) (u2 := .int .i64 T) (u3 := .slice ao1 xs.length cp1) (u4 := .slice (some ⟨g, 0, none⟩) (ys.length + 1) cap2) (B := w.heap.size) (by omega) OX.own1
      have Q2 := own_set5 (u0 := .int .i64 W) (u1 := .int .i64 F) (u2 := .int .i64 T) (u3 := .slice ao1 xs.length cp1) (u4 := .slice (some ⟨g, 0, none⟩) (ys.length + 1) cap2) (B := w.heap.size) (by omega) OX.own2
      have C9 := CX.under hB hbs
      have GW9 := grown_rest GX hbs (Nat.le_refl _)
      go_wp2
      refine bodyPost_ret (v := .agg #[.int .i64 W, .int .i64 F, .int .i64 T, .slice ao1 xs.length cp1, .slice (some ⟨g, 0, none⟩) (ys.length + 1) cap2]) (by simp [results, Try.results34, go_sem, z0, z1, z2, z3, z4]) rfl ?_
      exact ⟨ao1, cp1, some ⟨g, 0, none⟩, cap2, ⟨W, F, T, xs, ys ++ [F + y]⟩, by simp, by simp; omega, by simp; omega, Go.Joins.ownsRow_le Q1 (base' := w.heap.size) (by omega), Go.Joins.ownsRow_le Q2 (base' := w.heap.size) (by omega), C9, GW9⟩)
  by_cases e4 : k = 4
  · subst e4
    go_wp2_with fail
    refine (cbelow cb cap a bz 3 _ C2 hl (by omega) (by omega)).mono ?_
    rintro e w3 ⟨y, rfl, y0, y1, C3, G3'⟩
    have O3 := O2.far G3' (by omega)
    have R3 := (G3'.block _ (lt_of_block R2) (by simp; omega)).trans R2
    have G3 := gtrans G2 G3'
    have OX := O3.set1 (-1 - y)
    have fr := O3.setB 1 (.int .i64 (-1 - y))
    have CX := C3.under (fun k hk => Nat.lt_succ_of_lt (hB k hk)) fr
    have RX := (fr.block w.heap.size (by omega)).trans R3
    have GX := grown_rest G3 fr (by omega)
    clear u0 u1 u2 u3 u4
    obtain ⟨⟨t0, t1, t2, t3, t4⟩, m0, m1, m2, m3, m4⟩ := blk5 O3.out
    obtain ⟨⟨z0, z1, z2, z3, z4⟩, f0, f1, f2, f3, f4⟩ := blk5 RX
    obtain ⟨⟨u0, u1, u2, u3, u4⟩, -⟩ := blk5 OX.out
    have hbs := below_set5 (u0 := .int .i64 W) (u1 := .int .i64 (-1 - y)) (u2 := .int .i64 T) (u3 := .slice ao1 xs.length cp1) (u4 := .slice ao2 ys.length cp2) (Nat.le_refl w.heap.size) (Below.refl w.heap.size (w3.setCell ⟨n0, 1, none⟩ (.int .i64 (-1 - y))))
    have Q1 := own_set5 (u0 := .int .i64 W) (u1 := .int .i64 (-1 - y)) (u2 := .int .i64 T) (u3 := .slice ao1 xs.length cp1) (u4 := .slice ao2 ys.length cp2) (B := w.heap.size) (by omega) OX.own1
    have Q2 := own_set5 (u0 := .int .i64 W) (u1 := .int .i64 (-1 - y)) (u2 := .int .i64 T) (u3 := .slice ao1 xs.length cp1) (u4 := .slice ao2 ys.length cp2) (B := w.heap.size) (by omega) OX.own2
    have C9 := CX.under hB hbs
    have GW9 := grown_rest GX hbs (Nat.le_refl _)
    go_wp2
    refine bodyPost_ret (v := .agg #[.int .i64 W, .int .i64 (-1 - y), .int .i64 T, .slice ao1 xs.length cp1, .slice ao2 ys.length cp2]) (by simp [results, Try.results34, go_sem, z0, z1, z2, z3, z4]) rfl ?_
    exact ⟨_, _, _, _, ⟨W, (-1 - y), T, xs, ys⟩, rfl, by simp; omega, by simp; omega, Go.Joins.ownsRow_le Q1 (base' := w.heap.size) (by omega), Go.Joins.ownsRow_le Q2 (base' := w.heap.size) (by omega), C9, GW9⟩
  by_cases e5 : k = 5
  · subst e5
    have OR := O2.reset 127 0 3650
    have fr := below_set5 (u0 := .int .i64 127) (u1 := .int .i64 0) (u2 := .int .i64 3650) (u3 := .slice none 0 0) (u4 := .slice none 0 0) O2.ge (Below.refl (w.heap.size + 1) w2)
    have CR := C2.under (fun k hk => Nat.lt_succ_of_lt (hB k hk)) fr
    have RR := (fr.block w.heap.size (by omega)).trans R2
    have GR := grown_rest G2 fr (by omega)
    clear u0 u1 u2 u3 u4
    obtain ⟨⟨u0, u1, u2, u3, u4⟩, m0, m1, m2, m3, m4⟩ := blk5 O2.out
    go_wp2
    clear u0 u1 u2 u3 u4 m0 m1 m2 m3 m4 O2 C2 R2 G2 fr
    go_loopw [4] (fun i wr => ∃ (j : Nat) (bo : Option Addr) (bc : Nat) (vs : List Int), i = .int .i64 (j : Int) ∧ j ≤ 21 ∧ vs.length = j ∧ OD (w.heap.size + 1) n0 wr 127 0 3650 bo bc vs none 0 [] ∧ Cur wr cb a cap bz ∧ wr.heap[w.heap.size]? = some (.cells #[.int .i64 0, .int .i64 0, .int .i64 0, .slice none 0 0, .slice none 0 0] 26 (0, 0)) ∧ w.grownBy wr (some cb)) (fun i _ => (22 - intOf i).toNat)
    case atStart => exact ⟨0, none, 0, [], rfl, by omega, rfl, OR, CR, RR, GR⟩
    case round =>
      obtain ⟨j, bo, bc, vs, rfl, j1, hj, O, C, R, G⟩ := hrel
      clear OR CR RR GR
      have hvl : vs.length ≤ 21 := by omega
      replace hj := hide hj
      have hw3 : IntKind.i64.wrap ((j : Int) * 3) = (j : Int) * 3 := wrap_in _ (by omega) (by omega)
      obtain ⟨⟨u0, u1, u2, u3, u4⟩, -⟩ := blk5 O.out
      go_wp2_with fail
      refine (cbelow cb cap a bz 2 _ C hl (by omega) (by omega)).mono ?_
      rintro e w5 ⟨y, rfl, y0, y1, C5, G5⟩
      have O5 := O.far G5 (by omega)
      have R5 := (G5.block _ (lt_of_block R) (by simp; omega)).trans R
      have GW5 := gtrans G G5
      clear O C R G G5 u0 u1 u2 u3 u4
      have hlx := O5.lt
      by_cases hlt : (j : Int) < 20 + y
      · obtain ⟨⟨u0, u1, u2, u3, u4⟩, -⟩ := blk5 O5.out
        simp only [List.length_nil] at u4
        go_wp2_with (at_builtin; refine wpList_append_lies _ rfl _ _ _ rfl (w.heap.size + 1) 3 i0 (.int .i64 0) 1 8 Try.underlying24 hi hz0 hz1 hz2 rfl (by decide) (.slice bo vs.length bc) vs.length (vs.map (Value.int .i64)) rfl (by exact O5.own1.alloc _) ⟨w5.heap.size, 0, none⟩ 1 1 [.int .i64 ((j : Int) * 3)] rfl rfl (by intro i u hj; match i, hj with | 0, hj => simp at hj; subst hj; simp [Addr.add]) (by intro u hu; simp at hu; subst hu; rfl) (by decide) (by unfold maxLen; omega) (by omega) (by simp; omega) (w5.heap.size + 1) (by simp) ?_; intro g cap2 w6 hown hgrow hat hlt2; have hmid := (O5.mid1 hgrow).trans O5.out; obtain ⟨⟨v0, v1, v2, v3, v4⟩, x0, x1, x2, x3, x4⟩ := blk5 hmid)
        obtain ⟨O6, hb6⟩ := O5.push1 hown hgrow hat
        have C6 := C5.under (fun k hk => Nat.lt_succ_of_lt (hB k hk)) hb6
        have R6 := (hb6.block w.heap.size (by omega)).trans R5
        have GW6 := grown_rest GW5 hb6 (by omega)
        clear hown hgrow hat
        go_wp2
        go_roundw
        case rel => exact ⟨j + 1, some ⟨g, 0, none⟩, cap2, vs ++ [(j : Int) * 3], by go_num, by omega, by simp [hj.out], O6, C6, R6, GW6⟩
        case measure => simp [intOf]; omega
      · have OX := O5
        obtain ⟨⟨z0, z1, z2, z3, z4⟩, f0, f1, f2, f3, f4⟩ := blk5 R5
        obtain ⟨⟨u0, u1, u2, u3, u4⟩, -⟩ := blk5 OX.out
        have hbs := below_set5 (u0 := .int .i64 127) (u1 := .int .i64 0) (u2 := .int .i64 3650) (u3 := .slice bo vs.length bc) (u4 := .slice none 0 0) (Nat.le_refl w.heap.size) (Below.refl w.heap.size (w5))
        have Q1 := own_set5 (u0 := .int .i64 127) (u1 := .int .i64 0) (u2 := .int .i64 3650) (u3 := .slice bo vs.length bc) (u4 := .slice none 0 0) (B := w.heap.size) (by omega) OX.own1
        have Q2 := own_set5 (u0 := .int .i64 127) (u1 := .int .i64 0) (u2 := .int .i64 3650) (u3 := .slice bo vs.length bc) (u4 := .slice none 0 0) (B := w.heap.size) (by omega) OX.own2
        have C9 := C5.under hB hbs
        have GW9 := grown_rest GW5 hbs (Nat.le_refl _)
        simp only [List.length_nil] at u4
        go_wp2
        refine bodyPost_ret (v := .agg #[.int .i64 127, .int .i64 0, .int .i64 3650, .slice bo vs.length bc, .slice none 0 0]) (by simp [results, Try.results34, go_sem, z0, z1, z2, z3, z4]) rfl ?_
        exact ⟨bo, bc, none, 0, ⟨127, 0, 3650, vs, []⟩, rfl, by simp; omega, by simp, Go.Joins.ownsRow_le Q1 (base' := w.heap.size) (by omega), World.ownsRow_nil _ _ _ _, C9, GW9⟩
  obtain ⟨⟨z0, z1, z2, z3, z4⟩, f0, f1, f2, f3, f4⟩ := blk5 R2
  have hbs := below_set5 (u0 := .int .i64 W) (u1 := .int .i64 F) (u2 := .int .i64 T) (u3 := .slice ao1 xs.length cp1) (u4 := .slice ao2 ys.length cp2) (Nat.le_refl w.heap.size) (Below.refl w.heap.size (w2))
  have Q1 := own_set5 (u0 := .int .i64 W) (u1 := .int .i64 F) (u2 := .int .i64 T) (u3 := .slice ao1 xs.length cp1) (u4 := .slice ao2 ys.length cp2) (B := w.heap.size) (by omega) O2.own1
  have Q2 := own_set5 (u0 := .int .i64 W) (u1 := .int .i64 F) (u2 := .int .i64 T) (u3 := .slice ao1 xs.length cp1) (u4 := .slice ao2 ys.length cp2) (B := w.heap.size) (by omega) O2.own2
  have C9 := C2.under hB hbs
  have GW9 := grown_rest G2 hbs (Nat.le_refl _)
  go_wp2
  refine bodyPost_ret (v := .agg #[.int .i64 W, .int .i64 F, .int .i64 T, .slice ao1 xs.length cp1, .slice ao2 ys.length cp2]) (by simp [results, Try.results34, go_sem, z0, z1, z2, z3, z4]) rfl ?_
  exact ⟨_, _, _, _, ⟨W, F, T, xs, ys⟩, rfl, by simp; omega, by simp; omega, Go.Joins.ownsRow_le Q1 (base' := w.heap.size) (by omega), Go.Joins.ownsRow_le Q2 (base' := w.heap.size) (by omega), C9, GW9⟩
end Go.Proofs.Ytmchdclieejohaa
