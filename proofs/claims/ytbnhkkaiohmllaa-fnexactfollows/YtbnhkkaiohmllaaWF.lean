/- The walk of the law on who follows. -/
import Derived.Test.YtbnhkkaiohmllaaCA
import Derived.Deep.RegionHeld3
namespace Go.Proofs.Ytbnhkkaiohmllaa
open Go.RowKit
theorem blk_cell {w : World} {b : Nat} {cs : Array Value} {t : TypeId} {f : Nat × Nat} (h : w.heap[b]? = some (.cells cs t f)) (i : Nat) : w.cell? ⟨b, i, none⟩ = cs[i]? := by
  simp [World.cell?, h]
set_option maxRecDepth 20000 in
set_option maxHeartbeats 6400000 in
theorem walkFollows (u v : TaskV) (n : Int) (w : World) :
    Calls Try.prog 8 #[u.val, v.val, .int .i64 n] w fun e w' => e = .returned (.bool true) ∧ Below w.heap.size w w' := by
  have TU := fun w => cToTaskV u w
  have TV := fun w => cToTaskV v w
  have FI := fun w => cFolI u v n w
  have FS := fun w => cFolS u v n w
  generalize folB u v n = R at *
  obtain ⟨xe, xd, xf, xt, xp⟩ := u
  obtain ⟨ye, yd, yf, yt, yp⟩ := v
  unfold TaskV.val at *
  dsimp only at *
  have hW := btrans (balloc w (.cells #[.int .i64 xe, .int .i64 xd, .int .i64 xf, .int .i64 xt, .int .i64 xp] 45)) (balloc _ (.cells #[.int .i64 ye, .int .i64 yd, .int .i64 yf, .int .i64 yt, .int .i64 yp] 45))
  have A0 := blk_keep (balloc _ (.cells #[.int .i64 ye, .int .i64 yd, .int .i64 yf, .int .i64 yt, .int .i64 yp] 45)) (one_block w (.cells #[.int .i64 xe, .int .i64 xd, .int .i64 xf, .int .i64 xt, .int .i64 xp] 45))
  have A1 := one_block (w.alloc (.cells #[.int .i64 xe, .int .i64 xd, .int .i64 xf, .int .i64 xt, .int .i64 xp] 45)) (.cells #[.int .i64 ye, .int .i64 yd, .int .i64 yf, .int .i64 yt, .int .i64 yp] 45)
  rw [sz1] at A1
  go_enter Try.func8, Try.ntmps8
  go_wp2_with fail
  generalize ((w.alloc (.cells #[.int .i64 xe, .int .i64 xd, .int .i64 xf, .int .i64 xt, .int .i64 xp] 45)).alloc (.cells #[.int .i64 ye, .int .i64 yd, .int .i64 yf, .int .i64 yt, .int .i64 yp] 45)) = V at *
  have x0 : V.cell? ⟨w.heap.size, 0, none⟩ = some (.int .i64 xe) := blk_cell A0 0
  have x1 : V.cell? ⟨w.heap.size, 1, none⟩ = some (.int .i64 xd) := blk_cell A0 1
  have x2 : V.cell? ⟨w.heap.size, 2, none⟩ = some (.int .i64 xf) := blk_cell A0 2
  have x3 : V.cell? ⟨w.heap.size, 3, none⟩ = some (.int .i64 xt) := blk_cell A0 3
  have x4 : V.cell? ⟨w.heap.size, 4, none⟩ = some (.int .i64 xp) := blk_cell A0 4
  have y0 : V.cell? ⟨w.heap.size + 1, 0, none⟩ = some (.int .i64 ye) := blk_cell A1 0
  have y1 : V.cell? ⟨w.heap.size + 1, 1, none⟩ = some (.int .i64 yd) := blk_cell A1 1
  have y2 : V.cell? ⟨w.heap.size + 1, 2, none⟩ = some (.int .i64 yf) := blk_cell A1 2
  have y3 : V.cell? ⟨w.heap.size + 1, 3, none⟩ = some (.int .i64 yt) := blk_cell A1 3
  have y4 : V.cell? ⟨w.heap.size + 1, 4, none⟩ = some (.int .i64 yp) := blk_cell A1 4
  go_region_held3 (fun w' => w'.cell? ⟨w.heap.size, 0, none⟩ = some (.int .i64 xe) ∧ w'.cell? ⟨w.heap.size, 1, none⟩ = some (.int .i64 xd) ∧ w'.cell? ⟨w.heap.size, 2, none⟩ = some (.int .i64 xf) ∧ w'.cell? ⟨w.heap.size, 3, none⟩ = some (.int .i64 xt) ∧ w'.cell? ⟨w.heap.size, 4, none⟩ = some (.int .i64 xp) ∧ w'.cell? ⟨w.heap.size + 1, 0, none⟩ = some (.int .i64 ye) ∧ w'.cell? ⟨w.heap.size + 1, 1, none⟩ = some (.int .i64 yd) ∧ w'.cell? ⟨w.heap.size + 1, 2, none⟩ = some (.int .i64 yf) ∧ w'.cell? ⟨w.heap.size + 1, 3, none⟩ = some (.int .i64 yt) ∧ w'.cell? ⟨w.heap.size + 1, 4, none⟩ = some (.int .i64 yp)) (go_keep) (first
    | (go_at_call 37; with_reducible refine (FS _).mono ?_; rintro e wc ⟨rfl, hbc⟩; have Bc := btrans Bb hbc; have cx0 := ble Bc x0; have cx1 := ble Bc x1; have cx2 := ble Bc x2; have cx3 := ble Bc x3; have cx4 := ble Bc x4; have cy0 := ble Bc y0; have cy1 := ble Bc y1; have cy2 := ble Bc y2; have cy3 := ble Bc y3; have cy4 := ble Bc y4)
    | (go_at_call 38; with_reducible refine (TV _).mono ?_; rintro e wb ⟨rfl, hbb⟩; have Bb := btrans Ba hbb; have bx0 := ble Bb x0; have bx1 := ble Bb x1; have bx2 := ble Bb x2; have bx3 := ble Bb x3; have bx4 := ble Bb x4; have by0 := ble Bb y0; have by1 := ble Bb y1; have by2 := ble Bb y2; have by3 := ble Bb y3; have by4 := ble Bb y4)
    | (go_at_call 38; with_reducible refine (TU _).mono ?_; rintro e wa ⟨rfl, hba⟩; have Ba := undrew hba; have ax0 := ble Ba x0; have ax1 := ble Ba x1; have ax2 := ble Ba x2; have ax3 := ble Ba x3; have ax4 := ble Ba x4; have ay0 := ble Ba y0; have ay1 := ble Ba y1; have ay2 := ble Ba y2; have ay3 := ble Ba y3; have ay4 := ble Ba y4))
  have H1 := btrans hW Bc
  have A2 := blk_keep Bc A0
  have A3 := blk_keep Bc A1
  clear hW A0 A1 Ba Bb Bc x0 x1 x2 x3 x4 y0 y1 y2 y3 y4 ax0 ax1 ax2 ax3 ax4 ay0 ay1 ay2 ay3 ay4 bx0 bx1 bx2 bx3 bx4 by0 by1 by2 by3 by4 cx0 cx1 cx2 cx3 cx4 cy0 cy1 cy2 cy3 cy4
  have hW := H1
  have A0 := A2
  have A1 := A3
  go_wp2_with fail
  have x0 : wc.cell? ⟨w.heap.size, 0, none⟩ = some (.int .i64 xe) := blk_cell A0 0
  have x1 : wc.cell? ⟨w.heap.size, 1, none⟩ = some (.int .i64 xd) := blk_cell A0 1
  have x2 : wc.cell? ⟨w.heap.size, 2, none⟩ = some (.int .i64 xf) := blk_cell A0 2
  have x3 : wc.cell? ⟨w.heap.size, 3, none⟩ = some (.int .i64 xt) := blk_cell A0 3
  have x4 : wc.cell? ⟨w.heap.size, 4, none⟩ = some (.int .i64 xp) := blk_cell A0 4
  have y0 : wc.cell? ⟨w.heap.size + 1, 0, none⟩ = some (.int .i64 ye) := blk_cell A1 0
  have y1 : wc.cell? ⟨w.heap.size + 1, 1, none⟩ = some (.int .i64 yd) := blk_cell A1 1
  have y2 : wc.cell? ⟨w.heap.size + 1, 2, none⟩ = some (.int .i64 yf) := blk_cell A1 2
  have y3 : wc.cell? ⟨w.heap.size + 1, 3, none⟩ = some (.int .i64 yt) := blk_cell A1 3
  have y4 : wc.cell? ⟨w.heap.size + 1, 4, none⟩ = some (.int .i64 yp) := blk_cell A1 4
  go_region_held3 (fun w' => w'.cell? ⟨w.heap.size, 0, none⟩ = some (.int .i64 xe) ∧ w'.cell? ⟨w.heap.size, 1, none⟩ = some (.int .i64 xd) ∧ w'.cell? ⟨w.heap.size, 2, none⟩ = some (.int .i64 xf) ∧ w'.cell? ⟨w.heap.size, 3, none⟩ = some (.int .i64 xt) ∧ w'.cell? ⟨w.heap.size, 4, none⟩ = some (.int .i64 xp) ∧ w'.cell? ⟨w.heap.size + 1, 0, none⟩ = some (.int .i64 ye) ∧ w'.cell? ⟨w.heap.size + 1, 1, none⟩ = some (.int .i64 yd) ∧ w'.cell? ⟨w.heap.size + 1, 2, none⟩ = some (.int .i64 yf) ∧ w'.cell? ⟨w.heap.size + 1, 3, none⟩ = some (.int .i64 yt) ∧ w'.cell? ⟨w.heap.size + 1, 4, none⟩ = some (.int .i64 yp)) (go_keep) (first
    | (go_at_call 28; with_reducible refine (FI _).mono ?_; rintro e wf ⟨rfl, hbc⟩; have Bf := btrans Be hbc; have cx0 := ble Bf x0; have cx1 := ble Bf x1; have cx2 := ble Bf x2; have cx3 := ble Bf x3; have cx4 := ble Bf x4; have cy0 := ble Bf y0; have cy1 := ble Bf y1; have cy2 := ble Bf y2; have cy3 := ble Bf y3; have cy4 := ble Bf y4)
    | (go_at_call 38; with_reducible refine (TV _).mono ?_; rintro e we ⟨rfl, hbb⟩; have Be := btrans Bd hbb; have bx0 := ble Be x0; have bx1 := ble Be x1; have bx2 := ble Be x2; have bx3 := ble Be x3; have bx4 := ble Be x4; have by0 := ble Be y0; have by1 := ble Be y1; have by2 := ble Be y2; have by3 := ble Be y3; have by4 := ble Be y4)
    | (go_at_call 38; with_reducible refine (TU _).mono ?_; rintro e wd ⟨rfl, hba⟩; have Bd := undrew hba; have ax0 := ble Bd x0; have ax1 := ble Bd x1; have ax2 := ble Bd x2; have ax3 := ble Bd x3; have ax4 := ble Bd x4; have ay0 := ble Bd y0; have ay1 := ble Bd y1; have ay2 := ble Bd y2; have ay3 := ble Bd y3; have ay4 := ble Bd y4))
  have H2 := btrans hW Bf
  go_wp2
  go_ret
  exact ⟨rfl, H2⟩
end Go.Proofs.Ytbnhkkaiohmllaa
