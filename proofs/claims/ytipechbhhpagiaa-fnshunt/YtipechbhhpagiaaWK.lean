/- The walk of the law on right sidings. -/
import Derived.Test.YtipechbhhpagiaaLM
import Derived.Test.YtipechbhhpagiaaSS
namespace Go.Proofs.Ytipechbhhpagiaa
open Go.RowKit
theorem undrewS {w w1 : World} (h : Below w.drew.heap.size w.drew w1) : Below w.heap.size w w1 := undrew h
theorem blk2 {w : World} {b : Nat} {x y : Value} {t : TypeId} (h : w.heap[b]? = some (.cells #[x, y] t (0, 0))) : (w.cell? ⟨b, 0, none⟩ = some x ∧ w.cell? ⟨b, 1, none⟩ = some y) ∧ w.frozen? ⟨b, 0, none⟩ = false ∧ w.frozen? ⟨b, 1, none⟩ = false :=
  ⟨⟨by rw [cell_blk h]; rfl, by rw [cell_blk h]; rfl⟩, frozen_of_row w b 0 _ _ h, frozen_of_row w b 1 _ _ h⟩
theorem blk_keep {w w' : World} (hb : Below w.heap.size w w') {b : Nat} {o : Obj} (h : w.heap[b]? = some o) : w'.heap[b]? = some o := (hb.block b (lt_of_block h)).trans h
set_option maxRecDepth 20000 in
set_option maxHeartbeats 6400000 in
theorem walkSidingsOk (ra : Option Addr) (rc : Nat) (room : List Int) (a : Option Addr) (c : Nat) (us : List Value) (rows : List (List Int)) (w : World) (hM : Ints w ra room) (nM : room.length ≤ maxLen) (hR : RowsW w a us rows) (nR : rows.length ≤ maxLen) (nr : ∀ i, i < rows.length → (rwA rows i).length ≤ maxLen) :
    Calls Try.prog 5 #[.agg #[.slice ra room.length rc, .slice a rows.length c]] w fun e w' => e = .returned (.bool true) ∧ Below w.heap.size w w' := by
  have HB := balloc w (.cells #[.slice ra room.length rc, .slice a rows.length c] 48)
  have A0 := heap_alloc_new w (.cells #[.slice ra room.length rc, .slice a rows.length c] 48)
  go_enter Try.func5, Try.ntmps5
  go_wp2_with fail
  refine (cSzSid ra rc room a c us rows 1048576 _ (hR.below HB) (by omega) (by omega) nM nR nr).mono ?_
  rintro e w1 ⟨r, rfl, hrr, hb⟩
  replace HB := btrans HB hb
  replace A0 := blk_keep hb A0
  clear hb
  rcases hrr with rfl | ⟨r0, r1⟩
  · go_wp2
    go_ret
    exact ⟨rfl, HB⟩
  have hr5 : ¬ r < 0 := by omega
  have lM : room.length ≤ 1048576 := by omega
  have lR : rows.length ≤ 1048576 := by omega
  have hsm : sm rows rows.length ≤ 1048576 := by omega
  have lr : ∀ i, i < rows.length → (rwA rows i).length ≤ 1048576 := fun i hi => by have := sm_row hi; omega
  clear r1 nr
  obtain ⟨⟨x0, x1⟩, -⟩ := blk2 A0
  go_wp2_with fail
  refine (cToSid ra rc room a c us rows _ (hM.below HB) (hR.below HB) lM lR lr).mono ?_
  rintro e w2 ⟨g0, T0, vs0, rfl, S0, hb⟩
  replace HB := btrans HB hb
  replace A0 := blk_keep hb A0
  clear hb x0 x1
  obtain ⟨ra0, rc0, a0, c0, e1, e2, I0, R0, -⟩ := S0.arg
  have CS := cSidS ra0 rc0 room a0 c0 vs0 rows w2 I0 R0 lr
  unfold sidVal at CS
  rw [← e1, ← e2] at CS
  clear I0 R0 e1 e2 S0
  go_wp2_with fail
  refine CS.mono ?_
  rintro e w3 ⟨rfl, hb⟩
  replace HB := btrans HB hb
  replace A0 := blk_keep hb A0
  clear hb CS
  obtain ⟨⟨x0, x1⟩, -⟩ := blk2 A0
  go_wp2_with fail
  refine (cToSid ra rc room a c us rows _ (hM.below HB) (hR.below HB) lM lR lr).mono ?_
  rintro e w4 ⟨g1, T1, vs1, rfl, S1, hb⟩
  replace HB := btrans HB hb
  replace A0 := blk_keep hb A0
  clear hb x0 x1
  have hb := balloc w4 (.cells #[.slice (some ⟨g1, 0, none⟩) room.length room.length, .slice (some ⟨T1, 0, none⟩) rows.length rows.length] 27)
  have X0 := heap_alloc_new w4 (.cells #[.slice (some ⟨g1, 0, none⟩) room.length room.length, .slice (some ⟨T1, 0, none⟩) rows.length rows.length] 27)
  replace HB := btrans HB hb
  replace A0 := blk_keep hb A0
  replace S1 := S1.below hb
  clear hb
  obtain ⟨ra0, rc0, a0, c0, e1, e2, I0, R0, -⟩ := S1.arg
  have CI := cSidI ra0 rc0 room a0 c0 vs1 rows _ I0 R0 lr
  unfold sidVal at CI
  rw [← e1, ← e2] at CI
  clear I0 R0 e1 e2
  generalize sidB room rows = RB at *
  go_wp2_with fail
  refine CI.mono ?_
  rintro e w5 ⟨rfl, hb⟩
  replace HB := btrans HB hb
  replace A0 := blk_keep hb A0
  replace X0 := blk_keep hb X0
  replace S1 := S1.below hb
  clear hb CI
  have hRB : (!(RB == RB)) = false := by cases RB <;> rfl
  go_wp2_with fail
  obtain ⟨⟨x0, x1⟩, -⟩ := blk2 A0
  obtain ⟨⟨y0, y1⟩, -⟩ := blk2 X0
  have hMd : Ints w5.drew ra room := (hM.below HB).below (bdraw (Below.refl _ _) 1)
  have hRd : RowsW w5.drew a us rows := (hR.below HB).below (bdraw (Below.refl _ _) 1)
  have CT := cToSid ra rc room a c us rows w5.drew hMd hRd lM lR lr
  clear hMd hRd
  go_region_held3 (fun w' => w'.cell? ⟨w.heap.size, 0, none⟩ = some (.slice ra room.length rc) ∧ w'.cell? ⟨w.heap.size, 1, none⟩ = some (.slice a rows.length c) ∧ w'.cell? ⟨w4.heap.size, 0, none⟩ = some (.slice (some ⟨g1, 0, none⟩) room.length room.length) ∧ w'.cell? ⟨w4.heap.size, 1, none⟩ = some (.slice (some ⟨T1, 0, none⟩) rows.length rows.length)) (go_keep) (first
    | (go_at_call 30; with_reducible refine CT.mono ?_; rintro e wa ⟨g2, T2, vs2, rfl, S2, hba⟩; have Ba := undrew hba; have i0 := ble Ba x0; have i1 := ble Ba x1; have i2 := ble Ba y0; have i3 := ble Ba y1; have S1a := S1.below Ba)
    | (go_at_call 31; with_reducible refine (cEqSid _ _ _ _ _ _ _ _ room rows _ S1a S2 lM lR lr).mono ?_; rintro e wb ⟨rfl, hbb⟩; have Bb := btrans Ba hbb; have j0 := ble Bb x0; have j1 := ble Bb x1; have j2 := ble Bb y0; have j3 := ble Bb y1))
  replace HB := btrans HB Bb
  clear CT S1 S1a S2
  go_wp2
  go_ret
  exact ⟨rfl, HB⟩
end Go.Proofs.Ytipechbhhpagiaa
