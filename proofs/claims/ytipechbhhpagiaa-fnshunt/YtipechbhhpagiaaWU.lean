/- Undo of both, and the walk of its law. -/
import Derived.Test.YtipechbhhpagiaaMS
namespace Go.Proofs.Ytipechbhhpagiaa
open Go.RowKit
theorem undo_val (x : ShV) : (undoS x).val = .agg #[.int .i64 x.t, .int .i64 x.f, .int .i64 x.m] := rfl
set_option maxHeartbeats 800000 in
theorem cUndoI (x : ShV) (w : World) : Calls Try.prog 17 #[x.val] w fun e w' => e = .returned (undoS x).val ∧ Below w.heap.size w w' := by
  rw [undo_val]
  obtain ⟨xf, xt, xm⟩ := x
  unfold ShV.val
  dsimp only
  have hW := btrans (balloc w (.cells #[.int .i64 xf, .int .i64 xt, .int .i64 xm] 37)) (balloc _ (.cells #[.int .i64 xt, .int .i64 xf, .int .i64 xm] 37))
  go_enter Try.func17, Try.ntmps17
  go_wp2
  refine bodyPost_ret (v := .agg #[.int .i64 xt, .int .i64 xf, .int .i64 xm]) (by simp [results, Try.results17, go_sem]) rfl ⟨rfl, ?_⟩
  exact hW
set_option maxHeartbeats 800000 in
theorem cUndoS (x : ShV) (w : World) : Calls Try.prog 43 #[x.val] w fun e w' => e = .returned (undoS x).val ∧ Below w.heap.size w w' := by
  rw [undo_val]
  obtain ⟨xf, xt, xm⟩ := x
  unfold ShV.val
  dsimp only
  have hW := btrans (balloc w (.cells #[.int .i64 xf, .int .i64 xt, .int .i64 xm] 37)) (balloc _ (.cells #[.int .i64 xt, .int .i64 xf, .int .i64 xm] 37))
  go_enter Try.func43, Try.ntmps43
  go_wp2
  refine bodyPost_ret (v := .agg #[.int .i64 xt, .int .i64 xf, .int .i64 xm]) (by simp [results, Try.results43, go_sem]) rfl ⟨rfl, ?_⟩
  exact hW
set_option maxRecDepth 20000 in
set_option maxHeartbeats 1600000 in
theorem walkUndo (x : ShV) (w : World) : Calls Try.prog 8 #[x.val] w fun e w' => e = .returned (.bool true) ∧ Below w.heap.size w w' := by
  have HB := balloc w (.cells #[.int .i64 x.f, .int .i64 x.t, .int .i64 x.m] 52)
  have TU := fun w => cToShV x w
  have US := fun w => cUndoS x w
  have UI := fun w => cUndoI x w
  have EQ := fun w => cEqShV (undoS x) w
  rw [undo_val] at EQ
  simp only [undo_val] at US UI
  obtain ⟨xf, xt, xm⟩ := x
  unfold ShV.val at *
  dsimp only at *
  have A0 := heap_alloc_new w (.cells #[.int .i64 xf, .int .i64 xt, .int .i64 xm] 52)
  go_enter Try.func8, Try.ntmps8
  go_wp2_with fail
  refine (TU _).mono ?_
  rintro e w1 ⟨rfl, hb⟩
  replace HB := btrans HB hb
  replace A0 := (hb.block w.heap.size (by rw [sz1]; omega)).trans A0
  clear hb
  go_wp2_with fail
  refine (US _).mono ?_
  rintro e w2 ⟨rfl, hb⟩
  replace HB := btrans HB hb
  replace A0 := (hb.block w.heap.size (lt_of_block A0)).trans A0
  clear hb
  have hb := balloc w2 (.cells #[.int .i64 xt, .int .i64 xf, .int .i64 xm] 37)
  replace HB := btrans HB hb
  replace A0 := (hb.block w.heap.size (lt_of_block A0)).trans A0
  have A1 := heap_alloc_new w2 (.cells #[.int .i64 xt, .int .i64 xf, .int .i64 xm] 37)
  clear hb
  have c0 : (w2.alloc (.cells #[.int .i64 xt, .int .i64 xf, .int .i64 xm] 37)).cell? ⟨w.heap.size, 0, none⟩ = some (.int .i64 xf) := by simp [World.cell?, A0]
  have c1 : (w2.alloc (.cells #[.int .i64 xt, .int .i64 xf, .int .i64 xm] 37)).cell? ⟨w.heap.size, 1, none⟩ = some (.int .i64 xt) := by simp [World.cell?, A0]
  have c2 : (w2.alloc (.cells #[.int .i64 xt, .int .i64 xf, .int .i64 xm] 37)).cell? ⟨w.heap.size, 2, none⟩ = some (.int .i64 xm) := by simp [World.cell?, A0]
  go_wp2_with fail
  refine (TU _).mono ?_
  rintro e w3 ⟨rfl, hb⟩
  replace HB := btrans HB hb
  replace A1 := (hb.block w2.heap.size (by rw [sz1]; omega)).trans A1
  clear hb c0 c1 c2 A0
  go_wp2_with fail
  refine (UI _).mono ?_
  rintro e w4 ⟨rfl, hb⟩
  replace HB := btrans HB hb
  replace A1 := (hb.block w2.heap.size (lt_of_block A1)).trans A1
  clear hb
  have hb := balloc w4 (.cells #[.int .i64 xt, .int .i64 xf, .int .i64 xm] 37)
  replace HB := btrans HB hb
  replace A1 := (hb.block w2.heap.size (lt_of_block A1)).trans A1
  clear hb
  have c0 : (w4.alloc (.cells #[.int .i64 xt, .int .i64 xf, .int .i64 xm] 37)).cell? ⟨w2.heap.size, 0, none⟩ = some (.int .i64 xt) := by simp [World.cell?, A1]
  have c1 : (w4.alloc (.cells #[.int .i64 xt, .int .i64 xf, .int .i64 xm] 37)).cell? ⟨w2.heap.size, 1, none⟩ = some (.int .i64 xf) := by simp [World.cell?, A1]
  have c2 : (w4.alloc (.cells #[.int .i64 xt, .int .i64 xf, .int .i64 xm] 37)).cell? ⟨w2.heap.size, 2, none⟩ = some (.int .i64 xm) := by simp [World.cell?, A1]
  go_wp2_with fail
  refine (EQ _).mono ?_
  rintro e w5 ⟨rfl, hb⟩
  replace HB := btrans HB hb
  go_wp2
  go_ret
  exact ⟨rfl, HB⟩
end Go.Proofs.Ytipechbhhpagiaa
