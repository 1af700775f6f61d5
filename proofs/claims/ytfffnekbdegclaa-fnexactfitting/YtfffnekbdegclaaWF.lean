/- The walk of the law on Fitting. -/
import Derived.Test.YtfffnekbdegclaaCD
import Derived.Deep.RegionHeld3
namespace Go.Proofs.Ytfffnekbdegclaa
open Go.RowKit
set_option maxRecDepth 20000 in
set_option maxHeartbeats 6400000 in
theorem walkFitting (u v : UV) (w : World) :
    Calls Try.prog 6 #[u.val, v.val] w fun e w' => e = .returned (.bool true) ∧ Below w.heap.size w w' := by
  have TU := fun w => cToUV u w
  have TV := fun w => cToUV v w
  have FI := fun w => cFitI u v w
  have FS := fun w => cFitS u v w
  generalize fitB u v = R at *
  obtain ⟨i, c, m, b⟩ := u
  obtain ⟨i', c', m', b'⟩ := v
  unfold UV.val at *
  dsimp only at *
  have hW := btrans (balloc w (.cells #[.int .i64 i, .int .i64 c, .int .i64 m, .bool b] 43)) (balloc _ (.cells #[.int .i64 i', .int .i64 c', .int .i64 m', .bool b'] 43))
  have A0 := blk_keep (balloc _ (.cells #[.int .i64 i', .int .i64 c', .int .i64 m', .bool b'] 43)) (one_block' w (.cells #[.int .i64 i, .int .i64 c, .int .i64 m, .bool b] 43))
  have A1 := one_block' (w.alloc (.cells #[.int .i64 i, .int .i64 c, .int .i64 m, .bool b] 43)) (.cells #[.int .i64 i', .int .i64 c', .int .i64 m', .bool b'] 43)
  rw [sz1] at A1
  go_enter Try.func6, Try.ntmps6
  go_wp2_with fail
  generalize ((w.alloc (.cells #[.int .i64 i, .int .i64 c, .int .i64 m, .bool b] 43)).alloc (.cells #[.int .i64 i', .int .i64 c', .int .i64 m', .bool b'] 43)) = V at *
  have x0 : V.cell? ⟨w.heap.size, 0, none⟩ = some (.int .i64 i) := blk_cell A0 0
  have x1 : V.cell? ⟨w.heap.size, 1, none⟩ = some (.int .i64 c) := blk_cell A0 1
  have x2 : V.cell? ⟨w.heap.size, 2, none⟩ = some (.int .i64 m) := blk_cell A0 2
  have x3 : V.cell? ⟨w.heap.size, 3, none⟩ = some (.bool b) := blk_cell A0 3
  have y0 : V.cell? ⟨w.heap.size + 1, 0, none⟩ = some (.int .i64 i') := blk_cell A1 0
  have y1 : V.cell? ⟨w.heap.size + 1, 1, none⟩ = some (.int .i64 c') := blk_cell A1 1
  have y2 : V.cell? ⟨w.heap.size + 1, 2, none⟩ = some (.int .i64 m') := blk_cell A1 2
  have y3 : V.cell? ⟨w.heap.size + 1, 3, none⟩ = some (.bool b') := blk_cell A1 3
  go_region_held3 (fun w' => w'.cell? ⟨w.heap.size, 0, none⟩ = some (.int .i64 i) ∧ w'.cell? ⟨w.heap.size, 1, none⟩ = some (.int .i64 c) ∧ w'.cell? ⟨w.heap.size, 2, none⟩ = some (.int .i64 m) ∧ w'.cell? ⟨w.heap.size, 3, none⟩ = some (.bool b) ∧ w'.cell? ⟨w.heap.size + 1, 0, none⟩ = some (.int .i64 i') ∧ w'.cell? ⟨w.heap.size + 1, 1, none⟩ = some (.int .i64 c') ∧ w'.cell? ⟨w.heap.size + 1, 2, none⟩ = some (.int .i64 m') ∧ w'.cell? ⟨w.heap.size + 1, 3, none⟩ = some (.bool b')) (go_keep) (first
    | (go_at_call 29; with_reducible refine (FS _).mono ?_; rintro e wc ⟨rfl, hbc⟩; have Bc := btrans Bb hbc; have xc0 := ble Bc x0; have xc1 := ble Bc x1; have xc2 := ble Bc x2; have xc3 := ble Bc x3; have yc0 := ble Bc y0; have yc1 := ble Bc y1; have yc2 := ble Bc y2; have yc3 := ble Bc y3)
    | (go_at_call 30; with_reducible refine (TV _).mono ?_; rintro e wb ⟨rfl, hbb⟩; have Bb := btrans Ba hbb; have xb0 := ble Bb x0; have xb1 := ble Bb x1; have xb2 := ble Bb x2; have xb3 := ble Bb x3; have yb0 := ble Bb y0; have yb1 := ble Bb y1; have yb2 := ble Bb y2; have yb3 := ble Bb y3)
    | (go_at_call 30; with_reducible refine (TU _).mono ?_; rintro e wa ⟨rfl, hba⟩; have Ba := undrew hba; have xa0 := ble Ba x0; have xa1 := ble Ba x1; have xa2 := ble Ba x2; have xa3 := ble Ba x3; have ya0 := ble Ba y0; have ya1 := ble Ba y1; have ya2 := ble Ba y2; have ya3 := ble Ba y3))
  have H1 := btrans hW Bc
  have A2 := blk_keep Bc A0
  have A3 := blk_keep Bc A1
  clear hW A0 A1 Ba Bb Bc x0 x1 x2 x3 y0 y1 y2 y3 xa0 xa1 xa2 xa3 ya0 ya1 ya2 ya3 xb0 xb1 xb2 xb3 yb0 yb1 yb2 yb3 xc0 xc1 xc2 xc3 yc0 yc1 yc2 yc3
  have hW := H1
  have A0 := A2
  have A1 := A3
  go_wp2_with fail
  have x0 : wc.cell? ⟨w.heap.size, 0, none⟩ = some (.int .i64 i) := blk_cell A0 0
  have x1 : wc.cell? ⟨w.heap.size, 1, none⟩ = some (.int .i64 c) := blk_cell A0 1
  have x2 : wc.cell? ⟨w.heap.size, 2, none⟩ = some (.int .i64 m) := blk_cell A0 2
  have x3 : wc.cell? ⟨w.heap.size, 3, none⟩ = some (.bool b) := blk_cell A0 3
  have y0 : wc.cell? ⟨w.heap.size + 1, 0, none⟩ = some (.int .i64 i') := blk_cell A1 0
  have y1 : wc.cell? ⟨w.heap.size + 1, 1, none⟩ = some (.int .i64 c') := blk_cell A1 1
  have y2 : wc.cell? ⟨w.heap.size + 1, 2, none⟩ = some (.int .i64 m') := blk_cell A1 2
  have y3 : wc.cell? ⟨w.heap.size + 1, 3, none⟩ = some (.bool b') := blk_cell A1 3
  go_region_held3 (fun w' => w'.cell? ⟨w.heap.size, 0, none⟩ = some (.int .i64 i) ∧ w'.cell? ⟨w.heap.size, 1, none⟩ = some (.int .i64 c) ∧ w'.cell? ⟨w.heap.size, 2, none⟩ = some (.int .i64 m) ∧ w'.cell? ⟨w.heap.size, 3, none⟩ = some (.bool b) ∧ w'.cell? ⟨w.heap.size + 1, 0, none⟩ = some (.int .i64 i') ∧ w'.cell? ⟨w.heap.size + 1, 1, none⟩ = some (.int .i64 c') ∧ w'.cell? ⟨w.heap.size + 1, 2, none⟩ = some (.int .i64 m') ∧ w'.cell? ⟨w.heap.size + 1, 3, none⟩ = some (.bool b')) (go_keep) (first
    | (go_at_call 19; with_reducible refine (FI _).mono ?_; rintro e wf ⟨rfl, hbc⟩; have Bf := btrans Be hbc; have xc0 := ble Bf x0; have xc1 := ble Bf x1; have xc2 := ble Bf x2; have xc3 := ble Bf x3; have yc0 := ble Bf y0; have yc1 := ble Bf y1; have yc2 := ble Bf y2; have yc3 := ble Bf y3)
    | (go_at_call 30; with_reducible refine (TV _).mono ?_; rintro e we ⟨rfl, hbb⟩; have Be := btrans Bd hbb; have xb0 := ble Be x0; have xb1 := ble Be x1; have xb2 := ble Be x2; have xb3 := ble Be x3; have yb0 := ble Be y0; have yb1 := ble Be y1; have yb2 := ble Be y2; have yb3 := ble Be y3)
    | (go_at_call 30; with_reducible refine (TU _).mono ?_; rintro e wd ⟨rfl, hba⟩; have Bd := undrew hba; have xa0 := ble Bd x0; have xa1 := ble Bd x1; have xa2 := ble Bd x2; have xa3 := ble Bd x3; have ya0 := ble Bd y0; have ya1 := ble Bd y1; have ya2 := ble Bd y2; have ya3 := ble Bd y3))
  have H2 := btrans hW Bf
  go_wp2
  go_ret
  exact ⟨rfl, H2⟩
end Go.Proofs.Ytfffnekbdegclaa
