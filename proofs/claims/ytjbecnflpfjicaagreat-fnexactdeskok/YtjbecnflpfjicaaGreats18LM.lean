/- Sidings compared, marked, and their marks held. -/
import Derived.Test.YtjbecnflpfjicaaGreats18LK
namespace Go.Proofs.YtjbecnflpfjicaaGreat.s18
open Go.RowKit
set_option maxRecDepth 20000 in
set_option maxHeartbeats 3200000 in
theorem cEqSS (a1 a2 : Option Addr) (c1 c2 : Nat) (us vs : List Value) (rows : List (List Int)) (w : World) (h1 : RowsW w a1 us rows) (h2 : RowsW w a2 vs rows) (hn : rows.length ≤ 1048576) (hr : ∀ i, i < rows.length → (rwA rows i).length ≤ 1048576) :
    Calls Tryz.prog 55 #[.slice a1 rows.length c1, .slice a2 rows.length c2] w fun e w' => e = .returned (.bool true) ∧ Below w.heap.size w w' := by
  have e1 := hide h1.cell
  have e2 := hide h2.cell
  have l1 := hide h1.len
  have l2 := hide h2.len
  have y1 := hide h1.each
  have y2 := hide h2.each
  clear h1 h2
  go_enter Tryz.func55, Tryz.ntmps55
  go_wp2
  go_loopw [5] (fun i wr => ∃ k : Nat, k ≤ rows.length ∧ i = .int .i64 k ∧ Below w.heap.size w wr) (fun i _ => rows.length - (intOf i).toNat)
  case atStart => exact ⟨0, Nat.zero_le _, rfl, Below.refl _ _⟩
  case round =>
    obtain ⟨k, hk, rfl, hb⟩ := hrel
    by_cases hlt : k < rows.length
    · obtain ⟨b1, o1, rfl, q1⟩ : ∃ b off, a1 = some ⟨b, off, none⟩ ∧ ∀ i, (hi : i < us.length) → w.cell? ⟨b, off + i, none⟩ = some us[i] := by
        rcases e1.out with h | h
        · simp [h] at hlt
        · exact h
      obtain ⟨b2, o2, rfl, q2⟩ : ∃ b off, a2 = some ⟨b, off, none⟩ ∧ ∀ i, (hi : i < vs.length) → w.cell? ⟨b, off + i, none⟩ = some vs[i] := by
        rcases e2.out with h | h
        · simp [h] at hlt
        · exact h
      have hu : k < us.length := by have := l1.out; omega
      have hv : k < vs.length := by have := l2.out; omega
      obtain ⟨x1, d1, v1, I1, -⟩ := y1.out k hu
      obtain ⟨x2, d2, v2, I2, -⟩ := y2.out k hv
      have p1 := ble hb (q1 k hu)
      have p2 := ble hb (q2 k hv)
      rw [v1] at p1
      rw [v2] at p2
      have J1 : Ints wr.drew x1 (rwA rows k) := (I1.below hb).below (bdraw (Below.refl _ _) 1)
      have J2 : Ints wr.drew x2 (rwA rows k) := (I2.below hb).below (bdraw (Below.refl _ _) 1)
      have CE1 := cEqInts x1 x2 d1 d2 (rwA rows k) wr.drew J1 J2 (by have := hr k hlt; unfold maxLen; omega)
      clear q1 q2 v1 v2 I1 I2 J1 J2
      generalize (rwA rows k).length = X at *
      go_wp2
      go_region_held3 (fun w' => w'.cell? ⟨b1, o1 + k, none⟩ = some (.slice x1 X d1) ∧ w'.cell? ⟨b2, o2 + k, none⟩ = some (.slice x2 X d2)) (go_keep) (first | (go_at_call 54; with_reducible refine CE1.mono ?_; rintro e wc ⟨rfl, hbc⟩; have Bc := undrew hbc; have p1' := ble Bc p1; have p2' := ble Bc p2))
      have hb5 := btrans hb Bc
      clear CE1
      go_wp2
      go_roundw
      case rel => exact ⟨k + 1, by omega, by go_num, hb5⟩
      case measure => simp [intOf]; omega
    · obtain rfl : k = rows.length := by omega
      go_wp2
      go_ret
      exact ⟨rfl, hb⟩
set_option maxRecDepth 20000 in
set_option maxHeartbeats 3200000 in
theorem cEqSid (B1 B2 : Nat) (rv1 v1 rv2 v2 : Value) (us vs : List Value) (room : List Int) (rows : List (List Int)) (w : World) (h1 : SidO B1 w rv1 v1 us room rows) (h2 : SidO B2 w rv2 v2 vs room rows) (hm : room.length ≤ 1048576) (hn : rows.length ≤ 1048576) (hr : ∀ i, i < rows.length → (rwA rows i).length ≤ 1048576) :
    Calls Tryz.prog 28 #[.agg #[rv1, v1], .agg #[rv2, v2]] w fun e w' => e = .returned (.bool true) ∧ Below w.heap.size w w' := by
  obtain ⟨ra1, rc1, a1, c1, rfl, rfl, I1, R1, -⟩ := h1.arg
  obtain ⟨ra2, rc2, a2, c2, rfl, rfl, I2, R2, -⟩ := h2.arg
  have HB := btrans (balloc w (.cells #[.slice ra1 room.length rc1, .slice a1 rows.length c1] 44)) (balloc _ (.cells #[.slice ra2 room.length rc2, .slice a2 rows.length c2] 44))
  have k1 := heap_alloc_new w (.cells #[.slice ra1 room.length rc1, .slice a1 rows.length c1] 44)
  have k2 := heap_alloc_new (w.alloc (.cells #[.slice ra1 room.length rc1, .slice a1 rows.length c1] 44)) (.cells #[.slice ra2 room.length rc2, .slice a2 rows.length c2] 44)
  rw [sz1] at k2
  have k1' := ((balloc (w.alloc (.cells #[.slice ra1 room.length rc1, .slice a1 rows.length c1] 44)) (.cells #[.slice ra2 room.length rc2, .slice a2 rows.length c2] 44)).block w.heap.size (by rw [sz1]; omega)).trans k1
  have hz9 : ((w.alloc (.cells #[.slice ra1 room.length rc1, .slice a1 rows.length c1] 44)).alloc (.cells #[.slice ra2 room.length rc2, .slice a2 rows.length c2] 44)).heap.size = w.heap.size + 1 + 1 := by rw [sz1, sz1]
  clear h1 h2 k1
  go_enter Tryz.func28, Tryz.ntmps28
  go_wp2_with fail
  generalize (w.alloc (Obj.cells #[Value.slice ra1 room.length rc1, Value.slice a1 rows.length c1] 44)).alloc (Obj.cells #[Value.slice ra2 room.length rc2, Value.slice a2 rows.length c2] 44) = W at *
  refine (cEqInts ra1 ra2 rc1 rc2 room W (I1.below HB) (I2.below HB) (by unfold maxLen; omega)).mono ?_
  rintro e w3 ⟨rfl, hb⟩
  have HB3 := btrans HB hb
  have x1 : w3.cell? ⟨w.heap.size, 1, none⟩ = some (.slice a1 rows.length c1) := by rw [cell_blk ((hb.block w.heap.size (by omega)).trans k1')]; rfl
  have x2 : w3.cell? ⟨w.heap.size + 1, 1, none⟩ = some (.slice a2 rows.length c2) := by rw [cell_blk ((hb.block (w.heap.size + 1) (by omega)).trans k2)]; rfl
  clear k1' k2 hb HB
  go_wp2_with fail
  refine (cEqSS a1 a2 c1 c2 us vs rows w3 (R1.below HB3) (R2.below HB3) hn hr).mono ?_
  rintro e w4 ⟨rfl, hb⟩
  have HB4 := btrans HB3 hb
  clear hb HB3
  go_wp2
  go_ret
  exact ⟨rfl, HB4⟩
/-! Frames. -/
/-- Nothing turns but the blocks of P. -/
structure Fr (P : Nat → Prop) (w w' : World) : Prop where
  os : w'.os = w.os
  tape : w'.tape = w.tape
  output : w'.output = w.output
  size : w.heap.size ≤ w'.heap.size
  block : ∀ k, k < w.heap.size → ¬ P k → w'.heap[k]? = w.heap[k]?
theorem Fr.of_below {P : Nat → Prop} {w w' : World} (h : Below w.heap.size w w') : Fr P w w' := ⟨h.os, h.tape, h.output, h.size, fun k hk _ => h.block k hk⟩
theorem Fr.of_grown {P : Nat → Prop} {w w' : World} {r : Option Nat} (h : w.grownBy w' r) (hr : ∀ k, r = some k → P k) : Fr P w w' := ⟨h.os, h.tape, h.output, h.size, fun k hk hn => h.block k hk (fun e => hn (hr k e.symm))⟩
theorem Fr.trans {P : Nat → Prop} {a b c : World} (h : Fr P a b) (g : Fr P b c) : Fr P a c := ⟨g.os.trans h.os, g.tape.trans h.tape, g.output.trans h.output, Nat.le_trans h.size g.size, fun k hk hn => (g.block k (Nat.lt_of_lt_of_le hk h.size) hn).trans (h.block k hk hn)⟩
theorem Fr.to_below {P : Nat → Prop} {B : Nat} {a w w' : World} (h : Fr P w w') (hb : Below B a w) (hB : B ≤ w.heap.size) (hP : ∀ k, P k → B ≤ k) : Below B a w' :=
  ⟨h.os.trans hb.os, h.tape.trans hb.tape, h.output.trans hb.output, Nat.le_trans hb.size h.size, fun k hk => (h.block k (by omega) (fun hp => by have := hP k hp; omega)).trans (hb.block k hk)⟩
theorem SidO.fr {P : Nat → Prop} {B : Nat} {w w' : World} {rv v : Value} {vs : List Value} {room : List Int} {rows : List (List Int)} (h : SidO B w rv v vs room rows) (f : Fr P w w') (hP : ∀ k, SidB rv v vs k → ¬ P k) : SidO B w' rv v vs room rows :=
  h.keep (fun k hk => f.block k (h.blk k hk).2 (hP k hk))
/-! Marked. -/
theorem TabR.renew {e B : Nat} {w w2 : World} {v : Value} {vs : List Value} {xss : List (List Int)} (h : TabR e B w v vs xss) (he : e ≠ 3) {j : Nat} (hj : j < vs.length) {ys : List Int} (hg : w.grownBy w2 vs[j].ownBlock) (hr : RowI w2 B vs[j] ys) : TabR e B w2 v vs (setR xss j ys) := by
  have hl := h.len
  refine ⟨by rw [setR_len]; exact own_far h.own hg (fun k hk e1 => h.apart he j hj k e1.symm hk), fun i hi => ?_, h.pair⟩
  rw [rwA_set (by omega)]
  by_cases e1 : i = j
  · subst e1; rw [if_pos rfl]; exact hr
  · rw [if_neg e1]; exact (h.each i hi).far hg (fun k hk e2 => h.pair i j hi hj e1 k hk e2)
/-- Rows that are marked from k on, the first j of them. -/
def mkUp (k : Int) (rows : List (List Int)) (j : Nat) : List (List Int) := (List.range rows.length).map (fun i => if i < j then marksInts (k + sm rows i) (rwA rows i).length else rwA rows i)
def mkR (k : Int) (rows : List (List Int)) : List (List Int) := mkUp k rows rows.length
theorem mkUp_len (k : Int) (rows : List (List Int)) (j : Nat) : (mkUp k rows j).length = rows.length := by simp [mkUp]
theorem mkUp_at {k : Int} {rows : List (List Int)} {j i : Nat} (h : i < rows.length) : rwA (mkUp k rows j) i = if i < j then marksInts (k + sm rows i) (rwA rows i).length else rwA rows i := by simp [mkUp, rwA, List.getD, h]
theorem mkUp_zero (k : Int) (rows : List (List Int)) : mkUp k rows 0 = rows := rows_ext (mkUp_len _ _ _) (fun i hi => by rw [mkUp_len] at hi; rw [mkUp_at hi, if_neg (by omega)])
theorem mkUp_step {k : Int} {rows : List (List Int)} {j : Nat} (h : j < rows.length) : setR (mkUp k rows j) j (marksInts (k + sm rows j) (rwA rows j).length) = mkUp k rows (j + 1) := by
  refine rows_ext (by rw [setR_len, mkUp_len, mkUp_len]) fun i hi => ?_
  rw [setR_len, mkUp_len] at hi
  rw [rwA_set (by rw [mkUp_len]; exact h), mkUp_at hi, mkUp_at hi]
  by_cases e : i = j
  · subst e; rw [if_pos rfl, if_pos (by omega)]
  · rw [if_neg e]
    by_cases g : i < j
    · rw [if_pos g, if_pos (by omega)]
    · rw [if_neg g, if_neg (by omega)]
theorem mkR_at {k : Int} {rows : List (List Int)} {i : Nat} (h : i < rows.length) : rwA (mkR k rows) i = marksInts (k + sm rows i) (rwA rows i).length := by rw [mkR, mkUp_at h, if_pos h]
theorem mkR_len (k : Int) (rows : List (List Int)) : (mkR k rows).length = rows.length := mkUp_len _ _ _
/-- How marks are held. -/
theorem TabR.marks {e B n c : Nat} {w : World} {a : Option Addr} {vs : List Value} {k : Int} {rows : List (List Int)} (h : TabR e B w (.slice a n c) vs (mkR k rows)) : vs.length = rows.length ∧ (rows = [] ∨ ∃ b off, a = some ⟨b, off, none⟩ ∧ ∀ i, (hi : i < vs.length) → w.cell? ⟨b, off + i, none⟩ = some vs[i]) ∧
    ∀ i, (hi : i < vs.length) → ∃ ai ci, vs[i] = .slice ai (rwA rows i).length ci ∧ Ints w ai (marksInts (k + sm rows i) (rwA rows i).length) := by
  have hR := h.rowsW
  have hl := hR.len
  rw [mkR_len] at hl
  refine ⟨hl, ?_, fun i hi => ?_⟩
  · rcases hR.cell with h1 | h1
    · left
      have := congrArg List.length h1
      rw [mkR_len] at this
      exact List.length_eq_zero_iff.1 (by simpa using this)
    · exact .inr h1
  · obtain ⟨ai, ci, h1, h2, -⟩ := hR.each i hi
    rw [mkR_at (by omega)] at h1 h2
    rw [marksInts_len] at h1
    exact ⟨ai, ci, h1, h2⟩
theorem SidB.row {rv v : Value} {vs : List Value} {j : Nat} (hj : j < vs.length) {k : Nat} (hk : vs[j].ownBlock = some k) : SidB rv v vs k := .inr (.inr ⟨j, hj, hk⟩)
end Go.Proofs.YtjbecnflpfjicaaGreat.s18
