/- A drawn right pattern, its two lists apart. -/
import Derived.Test.YtmchdclieejohaaLE
import Derived.Deep.AppendLies
namespace Go.Proofs.Ytmchdclieejohaa
open Go.RowKit

set_option maxRecDepth 20000 in
set_option maxHeartbeats 6400000 in
theorem cDrawR2 (cb cap : Nat) (a : Option Addr) (bz : List Int) (w : World) (hc : Cur w cb a cap bz) (hl : bz.length ≤ 1048576) :
    Calls Try.prog 42 #[.pointer (some ⟨cb, 0, none⟩)] w fun e w' => ∃ (ao1 : Option Addr) (cp1 : Nat) (ao2 : Option Addr) (cp2 : Nat) (R : PatV), e = .returned (.agg #[.int .i64 R.w, .int .i64 R.f, .int .i64 R.t, .slice ao1 R.xs.length cp1, .slice ao2 R.ys.length cp2]) ∧
      patOk R.w R.f R.t R.xs R.ys = true ∧ R.t ≤ 200 ∧ w'.ownsRow w.heap.size 3 1 (.slice ao1 R.xs.length cp1) R.xs.length (R.xs.map (Value.int .i64)) ∧ w'.ownsRow w.heap.size 3 1 (.slice ao2 R.ys.length cp2) R.ys.length (R.ys.map (Value.int .i64)) ∧ ((Value.slice ao1 R.xs.length cp1).ownBlock = none ∨ (Value.slice ao2 R.ys.length cp2).ownBlock = none ∨ (Value.slice ao1 R.xs.length cp1).ownBlock ≠ (Value.slice ao2 R.ys.length cp2).ownBlock) ∧ Cur w' cb a cap bz ∧ w.grownBy w' (some cb) := by
  obtain ⟨i0, hi, hz0, hz1, hz2⟩ := info_parts info3
  have hB : ∀ k, OnCur cb a bz k → k < w.heap.size := fun k hk => hc.lt hk
  have hcb := hB cb (.inl rfl)
  have C0 := hc.below (balloc w (.cells #[.int .i64 0, .int .i64 0, .int .i64 0, .slice none 0 0, .slice none 0 0] 26))
  have r0 : (w.alloc (.cells #[.int .i64 0, .int .i64 0, .int .i64 0, .slice none 0 0, .slice none 0 0] 26)).heap[w.heap.size]? = some (.cells #[.int .i64 0, .int .i64 0, .int .i64 0, .slice none 0 0, .slice none 0 0] 26 (0, 0)) := new5 _ _ _ rfl
  have g0 : w.grownBy (w.alloc (.cells #[.int .i64 0, .int .i64 0, .int .i64 0, .slice none 0 0, .slice none 0 0] 26)) (some cb) := gof (balloc w _)
  go_enter Try.func42, Try.ntmps42
  go_wp2_with fail
  refine (cbelow cb cap a bz 60 _ C0 hl (by omega) (by omega)).mono ?_
  rintro e w1 ⟨F, rfl, F0, F1, C1, G1⟩
  have r1 := (G1.block _ (lt_of_block r0) (by simp; omega)).trans r0
  have g1 := gtrans g0 G1
  clear C0 r0 g0 G1 hc
  go_wp2_with fail
  refine (cbelow cb cap a bz 128 _ C1 hl (by omega) (by omega)).mono ?_
  rintro e w2 ⟨W, rfl, W0, W1, C2, G2⟩
  have r2 := (G2.block _ (lt_of_block r1) (by simp; omega)).trans r1
  have g2 := gtrans g1 G2
  clear C1 r1 g1 G2
  go_wp2_with fail
  refine (cbelow cb cap a bz 80 _ C2 hl (by omega) (by omega)).mono ?_
  rintro e w3 ⟨y, rfl, y0, y1, C3, G3⟩
  have r3 := (G3.block _ (lt_of_block r2) (by simp; omega)).trans r2
  have g3 := gtrans g2 G3
  clear C2 r2 g2 G3
  have hn0 := lt_of_block r3
  have OC0 := OC.ofOut (Out.new w3 W F (F + y)) rfl
  have C4 := C3.below (balloc w3 (.cells #[.int .i64 W, .int .i64 F, .int .i64 (F + y), .slice none 0 0, .slice none 0 0] 26))
  have r4 := old5 (.cells #[.int .i64 W, .int .i64 F, .int .i64 (F + y), .slice none 0 0, .slice none 0 0] 26) r3
  have g4 := gbelow g3 (balloc w3 (.cells #[.int .i64 W, .int .i64 F, .int .i64 (F + y), .slice none 0 0, .slice none 0 0] 26))
  obtain ⟨⟨u0, u1, u2, u3, u4⟩, -⟩ := blk5 OC0.out
  clear C3 r3 g3
  go_wp2
  go_loopw [5] (fun i wr => ∃ (d : Int) (ao1 : Option Addr) (cp1 : Nat) (xs : List Int) (ao2 : Option Addr) (cp2 : Nat) (ys : List Int), i = .int .i64 d ∧ F ≤ d ∧ d ≤ F + y + 1 ∧ DrawAt W F (F + y) xs ys d ∧ OC w3.heap.size wr W F (F + y) ao1 cp1 xs ao2 cp2 ys ∧ Cur wr cb a cap bz ∧ wr.heap[w.heap.size]? = some (.cells #[.int .i64 0, .int .i64 0, .int .i64 0, .slice none 0 0, .slice none 0 0] 26 (0, 0)) ∧ w.grownBy wr (some cb)) (fun i _ => (F + y + 1 - intOf i).toNat)
  case atStart => exact ⟨F, none, 0, [], none, 0, [], rfl, by omega, by omega, DrawAt.start _ _ _ _, OC0, C4, r4, g4⟩
  case round =>
    obtain ⟨d, ao1, cp1, xs, ao2, cp2, ys, rfl, d0, d1, hD, O, C, R, G⟩ := hrel
    clear OC0 C4 r4 g4 u0 u1 u2 u3 u4
    obtain ⟨⟨u0, u1, u2, u3, u4⟩, -⟩ := blk5 O.out
    have hx20 := dOk_len hD.ok1
    have hy20 := dOk_len hD.ok2
    by_cases hlt : d ≤ F + y
    · go_wp2_with fail
      refine (conce cb cap a bz 9 _ C hl (by omega) (by omega)).mono ?_
      rintro e w5 ⟨r, rfl, C5, G5⟩
      have O5 := O.far G5 (by omega)
      have R5 := (G5.block _ (lt_of_block R) (by simp; omega)).trans R
      have GW5 := gtrans G G5
      clear O C R G G5 u0 u1 u2 u3 u4
      cases r
      · have hD2 := hide hD.skip
        clear hD
        go_wp2
        go_roundw
        case rel => exact ⟨d + 1, ao1, cp1, xs, ao2, cp2, ys, by go_num, by omega, by omega, hD2.out, O5, C5, R5, GW5⟩
        case measure => simp [intOf]; omega
      obtain ⟨⟨u0, u1, u2, u3, u4⟩, -⟩ := blk5 O5.out
      have C40 := fun w => c40 W d w
      cases cw : wkB W d
      · rw [cw] at C40
        by_cases h20 : ys.length < 20
        · have h20' : (ys.length : Int) < 20 := by omega
          have hD2 := hide (hD.put2 h20 d0 hlt cw)
          clear hD
          have hlx := O5.lt
          go_wp2_with (first | (go_at_call 40; refine (C40 _).mono ?_; rintro e w' ⟨rfl, hw'⟩; obtain rfl := hw'.symm) | (at_builtin; refine wpList_append_lies _ rfl _ _ _ rfl (w3.heap.size + 1) 3 i0 (.int .i64 0) 1 8 Try.underlying24 hi hz0 hz1 hz2 rfl (by decide) (.slice ao2 ys.length cp2) ys.length (ys.map (Value.int .i64)) rfl (by exact O5.own2.alloc _) ⟨w5.heap.size, 0, none⟩ 1 1 [.int .i64 d] rfl rfl (by intro i u hj; match i, hj with | 0, hj => simp at hj; subst hj; simp [Addr.add]) (by intro u hu; simp at hu; subst hu; rfl) (by decide) (by unfold maxLen; omega) (by omega) (by simp; omega) (w5.heap.size + 1) (by simp) ?_; intro g cap2 w6 hown hgrow hat hlt2; have hmid := (O5.mid (own_from O5.own2 (Nat.le_refl _)) hgrow).trans O5.out; obtain ⟨⟨v0, v1, v2, v3, v4⟩, x0, x1, x2, x3, x4⟩ := blk5 hmid))
          obtain ⟨O6, hb6⟩ := O5.push2 hown hgrow hat
          have C6 := C5.under (fun k hk => Nat.lt_trans (hB k hk) hn0) hb6
          have R6 := (hb6.block _ hn0).trans R5
          have GW6 := grown_rest GW5 hb6 (Nat.le_of_lt hn0)
          clear hown hgrow hat
          go_wp2
          go_roundw
          case rel => exact ⟨d + 1, ao1, cp1, xs, some ⟨g, 0, none⟩, cap2, ys ++ [d], by go_num, by omega, by omega, hD2.out, O6, C6, R6, GW6⟩
          case measure => simp [intOf]; omega
        · have h20' : ¬ ((ys.length : Int) < 20) := by omega
          have hD2 := hide hD.skip
          clear hD
          go_wp2_with (go_at_call 40; refine (C40 _).mono ?_; rintro e w' ⟨rfl, hw'⟩; obtain rfl := hw'.symm)
          go_roundw
          case rel => exact ⟨d + 1, ao1, cp1, xs, ao2, cp2, ys, by go_num, by omega, by omega, hD2.out, O5, C5, R5, GW5⟩
          case measure => simp [intOf]; omega
      · rw [cw] at C40
        by_cases h20 : xs.length < 20
        · have h20' : (xs.length : Int) < 20 := by omega
          have hD2 := hide (hD.put1 h20 d0 hlt cw)
          clear hD
          have hlx := O5.lt
          go_wp2_with (first | (go_at_call 40; refine (C40 _).mono ?_; rintro e w' ⟨rfl, hw'⟩; obtain rfl := hw'.symm) | (at_builtin; refine wpList_append_lies _ rfl _ _ _ rfl (w3.heap.size + 1) 3 i0 (.int .i64 0) 1 8 Try.underlying24 hi hz0 hz1 hz2 rfl (by decide) (.slice ao1 xs.length cp1) xs.length (xs.map (Value.int .i64)) rfl (by exact O5.own1.alloc _) ⟨w5.heap.size, 0, none⟩ 1 1 [.int .i64 d] rfl rfl (by intro i u hj; match i, hj with | 0, hj => simp at hj; subst hj; simp [Addr.add]) (by intro u hu; simp at hu; subst hu; rfl) (by decide) (by unfold maxLen; omega) (by omega) (by simp; omega) (w5.heap.size + 1) (by simp) ?_; intro g cap2 w6 hown hgrow hat hlt2; have hmid := (O5.mid (own_from O5.own1 (Nat.le_refl _)) hgrow).trans O5.out; obtain ⟨⟨v0, v1, v2, v3, v4⟩, x0, x1, x2, x3, x4⟩ := blk5 hmid))
          obtain ⟨O6, hb6⟩ := O5.push1 hown hgrow hat
          have C6 := C5.under (fun k hk => Nat.lt_trans (hB k hk) hn0) hb6
          have R6 := (hb6.block _ hn0).trans R5
          have GW6 := grown_rest GW5 hb6 (Nat.le_of_lt hn0)
          clear hown hgrow hat
          go_wp2_with (go_at_call 40; refine (C40 _).mono ?_; rintro e w' ⟨rfl, hw'⟩; obtain rfl := hw'.symm)
          go_roundw
          case rel => exact ⟨d + 1, some ⟨g, 0, none⟩, cap2, xs ++ [d], ao2, cp2, ys, by go_num, by omega, by omega, hD2.out, O6, C6, R6, GW6⟩
          case measure => simp [intOf]; omega
        · have h20' : ¬ ((xs.length : Int) < 20) := by omega
          have hD2 := hide hD.skip
          clear hD
          go_wp2_with (go_at_call 40; refine (C40 _).mono ?_; rintro e w' ⟨rfl, hw'⟩; obtain rfl := hw'.symm)
          go_roundw
          case rel => exact ⟨d + 1, ao1, cp1, xs, ao2, cp2, ys, by go_num, by omega, by omega, hD2.out, O5, C5, R5, GW5⟩
          case measure => simp [intOf]; omega
    · obtain ⟨⟨z0, z1, z2, z3, z4⟩, f0, f1, f2, f3, f4⟩ := blk5 R
      have hok := hD.ok (by omega) (by omega) (by omega) (by omega) (by omega)
      clear hD
      have hbs := below_set5 (u0 := .int .i64 W) (u1 := .int .i64 F) (u2 := .int .i64 (F + y)) (u3 := .slice ao1 xs.length cp1) (u4 := .slice ao2 ys.length cp2) (Nat.le_refl w.heap.size) (Below.refl w.heap.size wr)
      have Q1 := own_set5 (u0 := .int .i64 W) (u1 := .int .i64 F) (u2 := .int .i64 (F + y)) (u3 := .slice ao1 xs.length cp1) (u4 := .slice ao2 ys.length cp2) (B := w.heap.size) (by omega) O.own1
      have Q2 := own_set5 (u0 := .int .i64 W) (u1 := .int .i64 F) (u2 := .int .i64 (F + y)) (u3 := .slice ao1 xs.length cp1) (u4 := .slice ao2 ys.length cp2) (B := w.heap.size) (by omega) O.own2
      have C6 := C.under hB hbs
      have GW6 := grown_rest G hbs (Nat.le_refl _)
      go_wp2
      refine bodyPost_ret (v := .agg #[.int .i64 W, .int .i64 F, .int .i64 (F + y), .slice ao1 xs.length cp1, .slice ao2 ys.length cp2]) (by simp [results, Try.results42, go_sem, z0, z1, z2, z3, z4]) rfl ?_
      exact ⟨ao1, cp1, ao2, cp2, ⟨W, F, F + y, xs, ys⟩, rfl, hok, by show F + y ≤ 200; omega, Go.Joins.ownsRow_le Q1 (base' := w.heap.size) (by omega), Go.Joins.ownsRow_le Q2 (base' := w.heap.size) (by omega), O.apart, C6, GW6⟩
end Go.Proofs.Ytmchdclieejohaa
