/- Which units fit, and which formations can run: of the program and of the model. -/
import Derived.Test.YtnddhpdhbmbikaaDoorCC
import Derived.Laws.StructEq
import Derived.Deep.RegionWith
namespace Go.Proofs.YtnddhpdhbmbikaaDoor
open Go.RowKit
def coupC (c : Int) : Int := if c ≤ 3 then 3 else if 6 < c then 9 else c
theorem fit_coup (a b : UV) : fitB a b = (coupC a.c == coupC b.c) := by
  rw [fitB, Bool.eq_iff_iff]
  simp only [decide_eq_true_eq, beq_iff_eq, coupC]
  split <;> split <;> (try split) <;> (try split) <;> omega

set_option maxHeartbeats 800000 in
theorem cCoupling (u : UV) (w : World) : Calls Tryd.prog 46 #[u.val] w fun e w' => e = .returned (.agg #[.int .i64 0, .int .i64 (coupC u.c), .int .i64 0, .bool false]) ∧ Below w.heap.size w w' := by
  obtain ⟨i, c, m, b⟩ := u
  unfold UV.val
  dsimp only
  by_cases h3 : c ≤ 3
  · rw [show coupC c = 3 by simp [coupC, h3]]
    go_enter Tryd.func46, Tryd.ntmps46
    go_wp2
    refine bodyPost_ret (v := .agg #[.int .i64 0, .int .i64 3, .int .i64 0, .bool false]) (by simp [results, Tryd.results46, go_sem]) rfl ⟨rfl, ?_⟩
    exact btrans (balloc _ _) (balloc _ _)
  by_cases h6 : 6 < c
  · rw [show coupC c = 9 by simp [coupC, h3, h6]]
    go_enter Tryd.func46, Tryd.ntmps46
    go_wp2
    refine bodyPost_ret (v := .agg #[.int .i64 0, .int .i64 9, .int .i64 0, .bool false]) (by simp [results, Tryd.results46, go_sem]) rfl ⟨rfl, ?_⟩
    exact btrans (balloc _ _) (balloc _ _)
  · rw [show coupC c = c by simp [coupC, h3, h6]]
    go_enter Tryd.func46, Tryd.ntmps46
    go_wp2
    refine bodyPost_ret (v := .agg #[.int .i64 0, .int .i64 c, .int .i64 0, .bool false]) (by simp [results, Tryd.results46, go_sem]) rfl ⟨rfl, ?_⟩
    exact btrans (balloc _ _) (balloc _ _)

set_option maxRecDepth 20000 in
set_option maxHeartbeats 1600000 in
theorem cFitI (u v : UV) (w : World) : Calls Tryd.prog 32 #[u.val, v.val] w fun e w' => e = .returned (.bool (fitB u v)) ∧ Below w.heap.size w w' := by
  rw [fit_coup]
  have CU := fun w => cCoupling u w
  have CV := fun w => cCoupling v w
  obtain ⟨i, c, m, b⟩ := u
  obtain ⟨i', c', m', b'⟩ := v
  unfold UV.val at CU CV ⊢
  dsimp only at CU CV ⊢
  generalize coupC c = C at *
  generalize coupC c' = D at *
  have hW := btrans (balloc w (.cells #[.int .i64 i, .int .i64 c, .int .i64 m, .bool b] 34)) (balloc _ (.cells #[.int .i64 i', .int .i64 c', .int .i64 m', .bool b'] 34))
  have A0 := blk_keep (balloc _ (.cells #[.int .i64 i', .int .i64 c', .int .i64 m', .bool b'] 34)) (one_block' w (.cells #[.int .i64 i, .int .i64 c, .int .i64 m, .bool b] 34))
  have A1 := one_block' (w.alloc (.cells #[.int .i64 i, .int .i64 c, .int .i64 m, .bool b] 34)) (.cells #[.int .i64 i', .int .i64 c', .int .i64 m', .bool b'] 34)
  rw [sz1] at A1
  go_enter Tryd.func32, Tryd.ntmps32
  go_wp2_with fail
  generalize ((w.alloc (.cells #[.int .i64 i, .int .i64 c, .int .i64 m, .bool b] 34)).alloc (.cells #[.int .i64 i', .int .i64 c', .int .i64 m', .bool b'] 34)) = V at *
  have x0 := blk_cell A0 0
  have x1 := blk_cell A0 1
  have x2 := blk_cell A0 2
  have x3 := blk_cell A0 3
  have y0 := blk_cell A1 0
  have y1 := blk_cell A1 1
  have y2 := blk_cell A1 2
  have y3 := blk_cell A1 3
  simp at x0 x1 x2 x3 y0 y1 y2 y3
  by_cases hCD : C = D
  · subst hCD
    go_region_held3 (fun w' => w'.cell? ⟨w.heap.size, 0, none⟩ = some (.int .i64 i) ∧ w'.cell? ⟨w.heap.size, 1, none⟩ = some (.int .i64 c) ∧ w'.cell? ⟨w.heap.size, 2, none⟩ = some (.int .i64 m) ∧ w'.cell? ⟨w.heap.size, 3, none⟩ = some (.bool b) ∧ w'.cell? ⟨w.heap.size + 1, 0, none⟩ = some (.int .i64 i') ∧ w'.cell? ⟨w.heap.size + 1, 1, none⟩ = some (.int .i64 c') ∧ w'.cell? ⟨w.heap.size + 1, 2, none⟩ = some (.int .i64 m') ∧ w'.cell? ⟨w.heap.size + 1, 3, none⟩ = some (.bool b')) (go_keep) (first
      | (go_at_call 46; with_reducible refine (CV _).mono ?_; rintro e wb ⟨rfl, hbb⟩; have Bb := btrans Ba hbb; have z0 := ble Bb x0; have z1 := ble Bb x1; have z2 := ble Bb x2; have z3 := ble Bb x3; have z4 := ble Bb y0; have z5 := ble Bb y1; have z6 := ble Bb y2; have z7 := ble Bb y3)
      | (go_at_call 46; with_reducible refine (CU _).mono ?_; rintro e wa ⟨rfl, hba⟩; have Ba := undrew hba; have s0 := ble Ba x0; have s1 := ble Ba x1; have s2 := ble Ba x2; have s3 := ble Ba x3; have s4 := ble Ba y0; have s5 := ble Ba y1; have s6 := ble Ba y2; have s7 := ble Ba y3))
    go_wp2
    go_ret
    exact ⟨ret_bool (by simp), btrans hW Bb⟩
  · have hne : (C == D) = false := by simpa using hCD
    clear hCD
    go_region_held3 (fun w' => w'.cell? ⟨w.heap.size, 0, none⟩ = some (.int .i64 i) ∧ w'.cell? ⟨w.heap.size, 1, none⟩ = some (.int .i64 c) ∧ w'.cell? ⟨w.heap.size, 2, none⟩ = some (.int .i64 m) ∧ w'.cell? ⟨w.heap.size, 3, none⟩ = some (.bool b) ∧ w'.cell? ⟨w.heap.size + 1, 0, none⟩ = some (.int .i64 i') ∧ w'.cell? ⟨w.heap.size + 1, 1, none⟩ = some (.int .i64 c') ∧ w'.cell? ⟨w.heap.size + 1, 2, none⟩ = some (.int .i64 m') ∧ w'.cell? ⟨w.heap.size + 1, 3, none⟩ = some (.bool b')) (go_keep) (first
      | (go_at_call 46; with_reducible refine (CV _).mono ?_; rintro e wb ⟨rfl, hbb⟩; have Bb := btrans Ba hbb; have z0 := ble Bb x0; have z1 := ble Bb x1; have z2 := ble Bb x2; have z3 := ble Bb x3; have z4 := ble Bb y0; have z5 := ble Bb y1; have z6 := ble Bb y2; have z7 := ble Bb y3)
      | (go_at_call 46; with_reducible refine (CU _).mono ?_; rintro e wa ⟨rfl, hba⟩; have Ba := undrew hba; have s0 := ble Ba x0; have s1 := ble Ba x1; have s2 := ble Ba x2; have s3 := ble Ba x3; have s4 := ble Ba y0; have s5 := ble Ba y1; have s6 := ble Ba y2; have s7 := ble Ba y3))
    go_wp2
    go_ret
    exact ⟨ret_bool (by simp [hne]), btrans hW Bb⟩

end Go.Proofs.YtnddhpdhbmbikaaDoor
