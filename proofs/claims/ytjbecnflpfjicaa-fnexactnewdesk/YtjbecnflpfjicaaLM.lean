/- Sidings compared, marked, and their marks held. -/
import Derived.Test.YtjbecnflpfjicaaLK
namespace Go.Proofs.Ytjbecnflpfjicaa
open Go.RowKit
set_option maxRecDepth 20000 in
set_option maxHeartbeats 3200000 in
theorem cEqSS (a1 a2 : Option Addr) (c1 c2 : Nat) (us vs : List Value) (rows : List (List Int)) (w : World) (h1 : RowsW w a1 us rows) (h2 : RowsW w a2 vs rows) (hn : rows.length ≤ 1048576) (hr : ∀ i, i < rows.length → (rwA rows i).length ≤ 1048576) :
    Calls Try.prog 25 #[.slice a1 rows.length c1, .slice a2 rows.length c2] w fun e w' => e = .returned (.bool true) ∧ Below w.heap.size w w' := by
  have e1 := hide h1.cell
  have e2 := hide h2.cell
  have l1 := hide h1.len
  have l2 := hide h2.len
  have y1 := hide h1.each
  have y2 := hide h2.each
  clear h1 h2
  go_enter Try.func25, Try.ntmps25
  go_wp2
  go_loopw [5] (fun i wr => ∃ k : Nat, k ≤ rows.length ∧ i = .int .i64 k ∧ Below w.heap.size w wr) (fun i _ => rows.length - (intOf i).toNat)
  case atStart => exact ⟨0, Nat.zero_le _, rfl, Below.refl _ _⟩
  case round =>
    obtain ⟨k, hk, rfl, hb⟩ := hrel
    by_cases hlt : k < rows.length
    · obtain ⟨b1, o1, rfl, q1⟩ : ∃ b off, a1 = some ⟨b, off, none⟩ ∧ ∀ i, (hi : i < us.length) → w.cell? ⟨b, off + i, none⟩ = some us[i] := by
        rcases e1.out with h | h
        · simp [h] at hlt
        · exact h
      obtain ⟨b2, o2, rfl, q2⟩ : ∃ b off, a2 = some ⟨b, off, none⟩ ∧ ∀ i, (hi : i < vs.length) → w.cell? ⟨b, off + i, none⟩ = some vs[i] := by
        rcases e2.out with h | h
        · simp [h] at hlt
        · exact h
      have hu : k < us.length := by have := l1.out; omega
      have hv : k < vs.length := by have := l2.out; omega
      obtain ⟨x1, d1, v1, I1, -⟩ := y1.out k hu
      obtain ⟨x2, d2, v2, I2, -⟩ := y2.out k hv
      have p1 := ble hb (q1 k hu)
      have p2 := ble hb (q2 k hv)
      rw [v1] at p1
      rw [v2] at p2
      have J1 : Ints wr.drew x1 (rwA rows k) := (I1.below hb).below (bdraw (Below.refl _ _) 1)
      have J2 : Ints wr.drew x2 (rwA rows k) := (I2.below hb).below (bdraw (Below.refl _ _) 1)
      have CE1 := cEqInts x1 x2 d1 d2 (rwA rows k) wr.drew J1 J2 (by have := hr k hlt; unfold maxLen; omega)
      clear q1 q2 v1 v2 I1 I2 J1 J2
      generalize (rwA rows k).length = X at *
      go_wp2
      go_region_held3 (fun w' => w'.cell? ⟨b1, o1 + k, none⟩ = some (.slice x1 X d1) ∧ w'.cell? ⟨b2, o2 + k, none⟩ = some (.slice x2 X d2)) (go_keep) (first | (go_at_call 24; with_reducible refine CE1.mono ?_; rintro e wc ⟨rfl, hbc⟩; have Bc := undrew hbc; have p1' := ble Bc p1; have p2' := ble Bc p2))
      have hb5 := btrans hb Bc
      clear CE1
      go_wp2
      go_roundw
      case rel => exact ⟨k + 1, by omega, by go_num, hb5⟩
      case measure => simp [intOf]; omega
    · obtain rfl : k = rows.length := by omega
      go_wp2
      go_ret
      exact ⟨rfl, hb⟩
set_option maxRecDepth 20000 in
set_option maxHeartbeats 3200000 in
theorem cEqSid (B1 B2 : Nat) (rv1 v1 rv2 v2 : Value) (us vs : List Value) (room : List Int) (rows : List (List Int)) (w : World) (h1 : SidO B1 w rv1 v1 us room rows) (h2 : SidO B2 w rv2 v2 vs room rows) (hm : room.length ≤ 1048576) (hn : rows.length ≤ 1048576) (hr : ∀ i, i < rows.length → (rwA rows i).length ≤ 1048576) :
    Calls Try.prog 12 #[.agg #[rv1, v1], .agg #[rv2, v2]] w fun e w' => e = .returned (.bool true) ∧ Below w.heap.size w w' := by
  obtain ⟨ra1, rc1, a1, c1, rfl, rfl, I1, R1, -⟩ := h1.arg
  obtain ⟨ra2, rc2, a2, c2, rfl, rfl, I2, R2, -⟩ := h2.arg
  have HB := btrans (balloc w (.cells #[.slice ra1 room.length rc1, .slice a1 rows.length c1] 32)) (balloc _ (.cells #[.slice ra2 room.length rc2, .slice a2 rows.length c2] 32))
  have k1 := heap_alloc_new w (.cells #[.slice ra1 room.length rc1, .slice a1 rows.length c1] 32)
  have k2 := heap_alloc_new (w.alloc (.cells #[.slice ra1 room.length rc1, .slice a1 rows.length c1] 32)) (.cells #[.slice ra2 room.length rc2, .slice a2 rows.length c2] 32)
  rw [sz1] at k2
  have k1' := ((balloc (w.alloc (.cells #[.slice ra1 room.length rc1, .slice a1 rows.length c1] 32)) (.cells #[.slice ra2 room.length rc2, .slice a2 rows.length c2] 32)).block w.heap.size (by rw [sz1]; omega)).trans k1
  have hz9 : ((w.alloc (.cells #[.slice ra1 room.length rc1, .slice a1 rows.length c1] 32)).alloc (.cells #[.slice ra2 room.length rc2, .slice a2 rows.length c2] 32)).heap.size = w.heap.size + 1 + 1 := by rw [sz1, sz1]
  clear h1 h2 k1
  go_enter Try.func12, Try.ntmps12
  go_wp2_with fail
  generalize (w.alloc (Obj.cells #[Value.slice ra1 room.length rc1, Value.slice a1 rows.length c1] 32)).alloc (Obj.cells #[Value.slice ra2 room.length rc2, Value.slice a2 rows.length c2] 32) = W at *
  refine (cEqInts ra1 ra2 rc1 rc2 room W (I1.below HB) (I2.below HB) (by unfold maxLen; omega)).mono ?_
  rintro e w3 ⟨rfl, hb⟩
  have HB3 := btrans HB hb
  have x1 : w3.cell? ⟨w.heap.size, 1, none⟩ = some (.slice a1 rows.length c1) := by rw [cell_blk ((hb.block w.heap.size (by omega)).trans k1')]; rfl
  have x2 : w3.cell? ⟨w.heap.size + 1, 1, none⟩ = some (.slice a2 rows.length c2) := by rw [cell_blk ((hb.block (w.heap.size + 1) (by omega)).trans k2)]; rfl
  clear k1' k2 hb HB
  go_wp2_with fail
  refine (cEqSS a1 a2 c1 c2 us vs rows w3 (R1.below HB3) (R2.below HB3) hn hr).mono ?_
  rintro e w4 ⟨rfl, hb⟩
  have HB4 := btrans HB3 hb
  clear hb HB3
  go_wp2
  go_ret
  exact ⟨rfl, HB4⟩
/-! Frames. -/
/-- Nothing turns but the blocks of P. -/
structure Fr (P : Nat → Prop) (w w' : World) : Prop where
  os : w'.os = w.os
  tape : w'.tape = w.tape
  output : w'.output = w.output
  size : w.heap.size ≤ w'.heap.size
  block : ∀ k, k < w.heap.size → ¬ P k → w'.heap[k]? = w.heap[k]?
theorem Fr.of_below {P : Nat → Prop} {w w' : World} (h : Below w.heap.size w w') : Fr P w w' := ⟨h.os, h.tape, h.output, h.size, fun k hk _ => h.block k hk⟩
theorem Fr.of_grown {P : Nat → Prop} {w w' : World} {r : Option Nat} (h : w.grownBy w' r) (hr : ∀ k, r = some k → P k) : Fr P w w' := ⟨h.os, h.tape, h.output, h.size, fun k hk hn => h.block k hk (fun e => hn (hr k e.symm))⟩
theorem Fr.trans {P : Nat → Prop} {a b c : World} (h : Fr P a b) (g : Fr P b c) : Fr P a c := ⟨g.os.trans h.os, g.tape.trans h.tape, g.output.trans h.output, Nat.le_trans h.size g.size, fun k hk hn => (g.block k (Nat.lt_of_lt_of_le hk h.size) hn).trans (h.block k hk hn)⟩
theorem Fr.to_below {P : Nat → Prop} {B : Nat} {a w w' : World} (h : Fr P w w') (hb : Below B a w) (hB : B ≤ w.heap.size) (hP : ∀ k, P k → B ≤ k) : Below B a w' :=
  ⟨h.os.trans hb.os, h.tape.trans hb.tape, h.output.trans hb.output, Nat.le_trans hb.size h.size, fun k hk => (h.block k (by omega) (fun hp => by have := hP k hp; omega)).trans (hb.block k hk)⟩
theorem SidO.fr {P : Nat → Prop} {B : Nat} {w w' : World} {rv v : Value} {vs : List Value} {room : List Int} {rows : List (List Int)} (h : SidO B w rv v vs room rows) (f : Fr P w w') (hP : ∀ k, SidB rv v vs k → ¬ P k) : SidO B w' rv v vs room rows :=
  h.keep (fun k hk => f.block k (h.blk k hk).2 (hP k hk))
/-! Marked. -/
set_option maxHeartbeats 800000 in
theorem cMarkCut (g cap c2 : Nat) (xs : List Int) (k : Int) (w : World) (ho : w.ownsRow g 3 1 (.slice (some ⟨g, 0, none⟩) xs.length cap) xs.length (xs.map (Value.int .i64))) (hl : xs.length ≤ 1048576) (hk0 : 0 ≤ k) (hk1 : k ≤ 10000000) :
    Calls Try.prog 30 #[.slice (some ⟨g, 0, none⟩) xs.length c2, .int .i64 k] w fun e w' => e = .returned (.int .i64 (k + xs.length)) ∧
      w'.ownsRow g 3 1 (.slice (some ⟨g, 0, none⟩) xs.length cap) xs.length ((marksInts k xs.length).map (Value.int .i64)) ∧ w.grownBy w' (some g) := by
  go_enter Try.func30, Try.ntmps30
  go_wp2
  go_loopw [1, 5] (fun kk i wr => ∃ j : Nat, j ≤ xs.length ∧ kk = .int .i64 (k + j) ∧ i = .int .i64 j ∧ wr.ownsRow g 3 1 (.slice (some ⟨g, 0, none⟩) xs.length cap) xs.length (((marksInts k j).map (Value.int .i64)) ++ ((xs.drop j).map (Value.int .i64))) ∧ w.grownBy wr (some g)) (fun _ i _ => xs.length - (intOf i).toNat)
  case atStart => exact ⟨0, Nat.zero_le _, by simp, rfl, by simpa [marksInts] using ho, World.grownBy.refl _ _⟩
  case round =>
    obtain ⟨j, hj, rfl, rfl, hown, hgr⟩ := hrel
    by_cases hlt : j < xs.length
    · have hfr := hown.frozenAt j
      have hcw : wr.cell? ⟨g, j, none⟩ = some (Value.int .i64 (xs.getD j 0)) := by
        rw [hown.cellAt j (by omega), List.getElem?_append_right (by simp [marksInts_len])]
        simp [marksInts_len, List.getD, hlt]
      obtain ⟨hown2, -⟩ := hown.stored j (Value.int .i64 (k + (j : Int)))
      rw [markInts_step xs k j hlt] at hown2
      have hgr3 := gset hgr j (Value.int .i64 (k + (j : Int)))
      clear hown hgr
      go_wp2
      go_roundw
      case rel => exact ⟨j + 1, by omega, by go_num, by go_num, hown2, hgr3⟩
      case measure => simp [intOf]; omega
    · obtain rfl : j = xs.length := by omega
      have hown2 : wr.ownsRow g 3 1 (.slice (some ⟨g, 0, none⟩) xs.length cap) xs.length ((marksInts k xs.length).map (Value.int .i64)) := by simpa using hown
      clear hown ho
      go_wp2
      go_ret
      exact ⟨rfl, hown2, hgr⟩
/-- A row is marked. -/
theorem cMarkRow (B : Nat) (v : Value) (xs : List Int) (k : Int) (w : World) (h : RowI w B v xs) (hl : xs.length ≤ 1048576) (hk0 : 0 ≤ k) (hk1 : k ≤ 10000000) :
    Calls Try.prog 30 #[v, .int .i64 k] w fun e w' => e = .returned (.int .i64 (k + xs.length)) ∧ RowI w' B v (marksInts k xs.length) ∧ w.grownBy w' v.ownBlock := by
  rcases h with h | ⟨g, cur, rfl, hB, hh, hs, hm, ht⟩
  · refine (cMarkInts B xs.length v xs k w rfl h hl hk0 hk1).mono ?_
    rintro e w1 ⟨rfl, h1, h2⟩
    exact ⟨rfl, RowI.own h1, h2⟩
  · have ho : w.ownsRow g 3 1 (.slice (some ⟨g, 0, none⟩) xs.length cur.size) xs.length (enc xs) := ⟨by simp [enc], .inr ⟨g, cur.size, cur, rfl, Nat.le_refl _, hh, hs, hm, by omega, by rw [Nat.mul_one]; exact ht⟩⟩
    refine (cMarkCut g cur.size xs.length xs k w ho hl hk0 hk1).mono ?_
    rintro e w1 ⟨rfl, h1, h2⟩
    refine ⟨rfl, .inr ?_, by simpa [Value.ownBlock] using h2⟩
    rcases h1.2 with ⟨e1, _⟩ | ⟨g', cap', cur', e1, _, hh', hn', hm', hs', ht'⟩
    · cases e1
    · simp only [Value.slice.injEq, Option.some.injEq, Addr.mk.injEq, and_true, true_and] at e1
      obtain ⟨rfl, rfl⟩ := e1
      rw [Nat.mul_one] at ht' hs'
      exact ⟨g, cur', by rw [marksInts_len], hB, hh', by rw [marksInts_len]; omega, by omega, by rw [marksInts_len]; exact ht'⟩
theorem TabR.renew {e B : Nat} {w w2 : World} {v : Value} {vs : List Value} {xss : List (List Int)} (h : TabR e B w v vs xss) (he : e ≠ 3) {j : Nat} (hj : j < vs.length) {ys : List Int} (hg : w.grownBy w2 vs[j].ownBlock) (hr : RowI w2 B vs[j] ys) : TabR e B w2 v vs (setR xss j ys) := by
  have hl := h.len
  refine ⟨by rw [setR_len]; exact own_far h.own hg (fun k hk e1 => h.apart he j hj k e1.symm hk), fun i hi => ?_, h.pair⟩
  rw [rwA_set (by omega)]
  by_cases e1 : i = j
  · subst e1; rw [if_pos rfl]; exact hr
  · rw [if_neg e1]; exact (h.each i hi).far hg (fun k hk e2 => h.pair i j hi hj e1 k hk e2)
/-- Rows that are marked from k on, the first j of them. -/
def mkUp (k : Int) (rows : List (List Int)) (j : Nat) : List (List Int) := (List.range rows.length).map (fun i => if i < j then marksInts (k + sm rows i) (rwA rows i).length else rwA rows i)
def mkR (k : Int) (rows : List (List Int)) : List (List Int) := mkUp k rows rows.length
theorem mkUp_len (k : Int) (rows : List (List Int)) (j : Nat) : (mkUp k rows j).length = rows.length := by simp [mkUp]
theorem mkUp_at {k : Int} {rows : List (List Int)} {j i : Nat} (h : i < rows.length) : rwA (mkUp k rows j) i = if i < j then marksInts (k + sm rows i) (rwA rows i).length else rwA rows i := by simp [mkUp, rwA, List.getD, h]
theorem mkUp_zero (k : Int) (rows : List (List Int)) : mkUp k rows 0 = rows := rows_ext (mkUp_len _ _ _) (fun i hi => by rw [mkUp_len] at hi; rw [mkUp_at hi, if_neg (by omega)])
theorem mkUp_step {k : Int} {rows : List (List Int)} {j : Nat} (h : j < rows.length) : setR (mkUp k rows j) j (marksInts (k + sm rows j) (rwA rows j).length) = mkUp k rows (j + 1) := by
  refine rows_ext (by rw [setR_len, mkUp_len, mkUp_len]) fun i hi => ?_
  rw [setR_len, mkUp_len] at hi
  rw [rwA_set (by rw [mkUp_len]; exact h), mkUp_at hi, mkUp_at hi]
  by_cases e : i = j
  · subst e; rw [if_pos rfl, if_pos (by omega)]
  · rw [if_neg e]
    by_cases g : i < j
    · rw [if_pos g, if_pos (by omega)]
    · rw [if_neg g, if_neg (by omega)]
theorem mkR_at {k : Int} {rows : List (List Int)} {i : Nat} (h : i < rows.length) : rwA (mkR k rows) i = marksInts (k + sm rows i) (rwA rows i).length := by rw [mkR, mkUp_at h, if_pos h]
theorem mkR_len (k : Int) (rows : List (List Int)) : (mkR k rows).length = rows.length := mkUp_len _ _ _
set_option maxRecDepth 20000 in
set_option maxHeartbeats 3200000 in
theorem cMarkSS (B : Nat) (v : Value) (vs : List Value) (rows : List (List Int)) (k : Int) (w : World) (h : TabR 29 B w v vs rows) (hR : rows.length ≤ 1048576) (hn : sm rows rows.length ≤ 1048576) (hk0 : 0 ≤ k) (hk1 : k ≤ 5000000) :
    Calls Try.prog 31 #[v, .int .i64 k] w fun e w' => e = .returned (.int .i64 (k + sm rows rows.length)) ∧ TabR 29 B w' v vs (mkR k rows) ∧ Fr (fun b => ∃ j, ∃ hj : j < vs.length, vs[j].ownBlock = some b) w w' := by
  have hvl := hide h.len
  have h0 : TabR 29 B w v vs (mkUp k rows 0) := by rw [mkUp_zero]; exact h
  obtain ⟨a, c, rfl⟩ := own_form h.own
  have h9 := hide h
  clear h
  go_enter Try.func31, Try.ntmps31
  go_wp2
  go_loopw [1, 5] (fun kk i wr => ∃ j S : Nat, j ≤ rows.length ∧ i = .int .i64 j ∧ kk = .int .i64 (k + S) ∧ Hid (S = sm rows j) ∧ S ≤ 1048576 ∧ TabR 29 B wr (.slice a rows.length c) vs (mkUp k rows j) ∧ Fr (fun b => ∃ j, ∃ hj : j < vs.length, vs[j].ownBlock = some b) w wr) (fun _ i _ => rows.length - (intOf i).toNat)
  case atStart => exact ⟨0, 0, Nat.zero_le _, rfl, by simp, hide (sm_zero _).symm, by omega, h0, Fr.of_below (Below.refl _ _)⟩
  case round =>
    obtain ⟨j, S, hj, rfl, rfl, hS, hS1, hT, hF⟩ := hrel
    clear h0
    by_cases hlt : j < rows.length
    · have hjv : j < vs.length := by have := hvl.out; omega
      obtain ⟨g, rfl⟩ : ∃ g, a = some ⟨g, 0, none⟩ := by
        rcases hT.own.2 with ⟨_, e2⟩ | ⟨g, _, _, e, _⟩
        · rw [mkUp_len] at e2; omega
        · simp only [Value.slice.injEq] at e; exact ⟨g, e.1⟩
      have p := hT.cell hjv
      have hr := hT.each j hjv
      rw [mkUp_at hlt, if_neg (by omega)] at hr
      obtain ⟨ai, ci, hv, -⟩ := hr.form
      have hX1 := sm_row hlt
      have CM := cMarkRow B vs[j] (rwA rows j) (k + S) wr hr (by omega) (by omega) (by omega)
      have hst := hide (mkUp_step (k := k) hlt)
      have hs2 := hide (sm_succ hlt)
      have hs3 := sm_mono rows.length (show j + 1 ≤ rows.length by omega) (Nat.le_refl _)
      rw [hs2.out, ← hS.out] at hs3
      rw [hv] at p CM
      have hvH := hide hv
      have hTH := hide hT
      clear hT hr hv
      generalize hX : (rwA rows j).length = X at *
      replace hX := hide hX
      go_wp2_with fail
      refine CM.mono ?_
      rintro e w2 ⟨rfl, hr2, hg2⟩
      rw [← hvH.out] at hr2 hg2
      have hT2 := hTH.out.renew (by decide) hjv hg2 hr2
      rw [hS.out, hst.out] at hT2
      have hF2 := hF.trans (Fr.of_grown hg2 (fun b hb => ⟨j, hjv, hb⟩))
      have hS2 : Hid (S + X = sm rows (j + 1)) := hide (by rw [hs2.out, ← hS.out])
      clear CM hTH hr2 hg2 hst hs2 hF hS
      go_wp2
      go_roundw
      case rel => exact ⟨j + 1, S + X, by omega, by go_num, congrArg (Value.int .i64) (by omega), hS2, by omega, hT2, hF2⟩
      case measure => simp [intOf]; omega
    · obtain rfl : j = rows.length := by omega
      have hpost : (Ending.returned (.int .i64 (k + (S : Int))) = .returned (.int .i64 (k + sm rows rows.length))) ∧ TabR 29 B wr (.slice a rows.length c) vs (mkR k rows) ∧ Fr (fun b => ∃ j, ∃ hj : j < vs.length, vs[j].ownBlock = some b) w wr := ⟨by rw [hS.out], hT, hF⟩
      clear hT hF hS h9
      go_wp2
      go_ret
      exact hpost
/-- How marks are held. -/
theorem TabR.marks {e B n c : Nat} {w : World} {a : Option Addr} {vs : List Value} {k : Int} {rows : List (List Int)} (h : TabR e B w (.slice a n c) vs (mkR k rows)) : vs.length = rows.length ∧ (rows = [] ∨ ∃ b off, a = some ⟨b, off, none⟩ ∧ ∀ i, (hi : i < vs.length) → w.cell? ⟨b, off + i, none⟩ = some vs[i]) ∧
    ∀ i, (hi : i < vs.length) → ∃ ai ci, vs[i] = .slice ai (rwA rows i).length ci ∧ Ints w ai (marksInts (k + sm rows i) (rwA rows i).length) := by
  have hR := h.rowsW
  have hl := hR.len
  rw [mkR_len] at hl
  refine ⟨hl, ?_, fun i hi => ?_⟩
  · rcases hR.cell with h1 | h1
    · left
      have := congrArg List.length h1
      rw [mkR_len] at this
      exact List.length_eq_zero_iff.1 (by simpa using this)
    · exact .inr h1
  · obtain ⟨ai, ci, h1, h2, -⟩ := hR.each i hi
    rw [mkR_at (by omega)] at h1 h2
    rw [marksInts_len] at h1
    exact ⟨ai, ci, h1, h2⟩
set_option maxRecDepth 20000 in
set_option maxHeartbeats 3200000 in
theorem cHeldSS (B : Nat) (v : Value) (vs : List Value) (rows : List (List Int)) (k : Int) (w : World) (h : TabR 29 B w v vs (mkR k rows)) (hR : rows.length ≤ 1048576) (hn : sm rows rows.length ≤ 1048576) (hk0 : 0 ≤ k) (hk1 : k ≤ 5000000) :
    Calls Try.prog 36 #[v, .int .i64 k] w fun e w' => e = .returned (.int .i64 (k + sm rows rows.length)) ∧ w' = w := by
  obtain ⟨a, c, rfl⟩ := own_form h.own
  obtain ⟨hvl0, hcell0, heach0⟩ := h.marks
  rw [mkR_len]
  have hvl := hide hvl0
  have hcell := hide hcell0
  have heach := hide heach0
  clear h hvl0 hcell0 heach0
  go_enter Try.func36, Try.ntmps36
  go_wp2
  go_loop [1, 5] (fun kk i => ∃ j S : Nat, j ≤ rows.length ∧ i = .int .i64 j ∧ kk = .int .i64 (k + S) ∧ Hid (S = sm rows j) ∧ S ≤ 1048576) (fun _ i => rows.length - (intOf i).toNat)
  case atStart => exact ⟨0, 0, Nat.zero_le _, rfl, by simp, hide (sm_zero _).symm, by omega⟩
  case round =>
    obtain ⟨j, S, hj, rfl, rfl, hS, hS1⟩ := hrel
    by_cases hlt : j < rows.length
    · have hjv : j < vs.length := by have := hvl.out; omega
      obtain ⟨b1, o1, rfl, q1⟩ : ∃ b off, a = some ⟨b, off, none⟩ ∧ ∀ i, (hi : i < vs.length) → w.cell? ⟨b, off + i, none⟩ = some vs[i] := by
        rcases hcell.out with h | h
        · simp [h] at hlt
        · exact h
      obtain ⟨ai, ci, hv, hI⟩ := heach.out j hjv
      have p := q1 j hjv
      rw [hv] at p
      have hX1 := sm_row hlt
      rw [← hS.out] at hI
      have CM := cHeldIntsa ai ci (rwA rows j).length (k + S) w hI (by omega) (by omega) (by omega)
      have hs2 := hide (sm_succ hlt)
      have hs3 := sm_mono rows.length (show j + 1 ≤ rows.length by omega) (Nat.le_refl _)
      rw [hs2.out, ← hS.out] at hs3
      have hS2 : Hid (S + (rwA rows j).length = sm rows (j + 1)) := hide (by rw [hs2.out, ← hS.out])
      clear hv hI q1
      generalize (rwA rows j).length = X at *
      have hneg : ¬ (k + (S : Int) + (X : Int) < 0) := by omega
      have hneg2 : ¬ (k + ((S : Int) + (X : Int)) < 0) := by omega
      go_wp2_with fail
      refine CM.mono ?_
      rintro e w2 ⟨rfl, hw⟩
      subst w2
      clear CM
      go_wp2
      go_round
      case rel => exact ⟨j + 1, S + X, by omega, by go_num, congrArg (Value.int .i64) (by omega), hS2, by omega⟩
      case measure => simp [intOf]; omega
    · obtain rfl : j = rows.length := by omega
      have hpost : Hid (k + (S : Int) = k + sm rows rows.length) := hide (by rw [hS.out])
      clear hS
      go_wp2
      go_ret
      exact ⟨ret_int hpost.out, rfl⟩
theorem SidB.row {rv v : Value} {vs : List Value} {j : Nat} (hj : j < vs.length) {k : Nat} (hk : vs[j].ownBlock = some k) : SidB rv v vs k := .inr (.inr ⟨j, hj, hk⟩)
set_option maxRecDepth 20000 in
set_option maxHeartbeats 3200000 in
/-- Sidings are marked. -/
theorem cMarkSid (B : Nat) (rv v : Value) (vs : List Value) (room : List Int) (rows : List (List Int)) (k : Int) (w : World) (h : SidO B w rv v vs room rows) (hm : room.length ≤ 1048576) (hR : rows.length ≤ 1048576) (hn : sm rows rows.length ≤ 1048576) (hk0 : 0 ≤ k) (hk1 : k ≤ 3000000) :
    Calls Try.prog 16 #[.agg #[rv, v], .int .i64 k] w fun e w' => e = .returned (.int .i64 (k + room.length + sm rows rows.length)) ∧ SidO B w' rv v vs (marksInts k room.length) (mkR (k + room.length) rows) ∧ Fr (SidB rv v vs) w w' := by
  have hW := balloc w (.cells #[rv, v] 32)
  have kW := heap_alloc_new w (.cells #[rv, v] 32)
  have hS := h.below hW
  have hblk := h.blk
  obtain ⟨ra, rc, rfl, -⟩ := h.room.form
  obtain ⟨a, c, rfl⟩ := own_form h.tab.own
  clear h
  go_enter Try.func16, Try.ntmps16
  go_wp2_with fail
  refine (cMarkRow B _ room k _ hS.room hm hk0 (by omega)).mono ?_
  rintro e w2 ⟨rfl, hr2, hg2⟩
  have hT2 : TabR 29 B w2 (.slice a rows.length c) vs rows := ⟨own_far hS.tab.own hg2 (fun b hb e => row_apart hS.tab.own hS.room (by decide) b e.symm hb), fun j hj => (hS.tab.each j hj).far hg2 (fun b hb => hS.far j hj b hb), hS.tab.pair⟩
  have hF2 : Fr (SidB (.slice ra room.length rc) (.slice a rows.length c) vs) w w2 := (Fr.of_below hW).trans (Fr.of_grown hg2 (fun b hb => .inl hb))
  have k2 : w2.heap[w.heap.size]? = some (.cells #[.slice ra room.length rc, .slice a rows.length c] 32 (0, 0)) := (hg2.block w.heap.size (by rw [sz1]; omega) (fun e => by have := (hblk w.heap.size (.inl e.symm)).2; omega)).trans kW
  have x1 : w2.cell? ⟨w.heap.size, 1, none⟩ = some (.slice a rows.length c) := by rw [cell_blk k2]; rfl
  have hfarH := hide hS.far
  clear hS kW hW hg2
  generalize hMr : marksInts k room.length = M at *
  replace hMr := hide hMr
  go_wp2_with fail
  refine (cMarkSS B _ vs rows (k + room.length) w2 hT2 hR hn (by omega) (by omega)).mono ?_
  rintro e w3 ⟨rfl, hT3, hf3⟩
  have hr3 : RowI w3 B (.slice ra room.length rc) M := hr2.same (fun b hb => hf3.block b (hr2.blk b hb).2.1 (fun ⟨j, hj, e⟩ => hfarH.out j hj b e hb))
  have hF3 : Fr (SidB (.slice ra room.length rc) (.slice a rows.length c) vs) w w3 := hF2.trans ⟨hf3.os, hf3.tape, hf3.output, hf3.size, fun b hb hn => hf3.block b hb (fun hh => hn (.inr (.inr hh)))⟩
  have hS3 : SidO B w3 (.slice ra room.length rc) (.slice a rows.length c) vs M (mkR (k + room.length) rows) := ⟨hr3, hT3, hfarH.out⟩
  clear hT3 hr3 hf3 hF2 hT2 hr2 x1 k2
  generalize hZ : sm rows rows.length = Z at *
  replace hZ := hide hZ
  go_wp2
  go_ret
  exact ⟨ret_int (by rw [hZ.out]), by rw [hMr.out]; exact hS3, hF3⟩
set_option maxRecDepth 20000 in
set_option maxHeartbeats 3200000 in
/-- The marks of sidings are held. -/
theorem cHeldSid (B : Nat) (rv v : Value) (vs : List Value) (n : Nat) (rows : List (List Int)) (k : Int) (w : World) (h : SidO B w rv v vs (marksInts k n) (mkR (k + n) rows)) (hm : n ≤ 1048576) (hR : rows.length ≤ 1048576) (hn : sm rows rows.length ≤ 1048576) (hk0 : 0 ≤ k) (hk1 : k ≤ 3000000) :
    Calls Try.prog 20 #[.agg #[rv, v], .int .i64 k] w fun e w' => e = .returned (.int .i64 (k + n + sm rows rows.length)) ∧ Below w.heap.size w w' := by
  have hW := balloc w (.cells #[rv, v] 32)
  have hS := h.below hW
  obtain ⟨ra, rc, hrv, hI, -⟩ := hS.room.form
  obtain ⟨a, c, hv⟩ := own_form hS.tab.own
  rw [marksInts_len] at hrv
  rw [mkR_len] at hv
  have CT := cHeldSS B v vs rows (k + n) _ hS.tab hR hn (by omega) (by omega)
  have CR := cHeldIntsa ra rc n k _ hI hm hk0 (by omega)
  subst hrv
  subst hv
  clear h hS hI
  have h1 : ¬ (k + (n : Int) < 0) := by omega
  have h2 : ¬ (k + (n : Int) + (sm rows rows.length : Int) < 0) := by omega
  have h3 : ¬ (k + ((n : Int) + (sm rows rows.length : Int)) < 0) := by omega
  generalize sm rows rows.length = Z at *
  go_enter Try.func20, Try.ntmps20
  go_wp2_with fail
  refine CR.mono ?_
  rintro e w2 ⟨rfl, hw⟩
  subst w2
  go_wp2_with fail
  refine CT.mono ?_
  rintro e w2 ⟨rfl, hw⟩
  subst w2
  go_wp2
  go_ret
  exact ⟨by first | rfl | (congr 2; omega), hW⟩
end Go.Proofs.Ytjbecnflpfjicaa
