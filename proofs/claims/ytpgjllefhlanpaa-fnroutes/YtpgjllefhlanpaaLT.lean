/- The program's ops, by name. -/
import Derived.Test.YtpgjllefhlanpaaLS
namespace Go.Proofs.Ytpgjllefhlanpaa
open Go.RowKit

set_option maxRecDepth 20000 in
set_option maxHeartbeats 1600000 in
theorem cReqI (v : Int) (a b x y z : Option Addr) (ca cb cx cy cz : Nat) (p : PlantV) (l : LockV) (w : World) (hP : PlantIn w a b p) (hL : LockIn w x y z l) (hx : Plain x cx) (hy : Plain y cy) (hz : Plain z cz) (hS : Small p) (hT : LSmall l) :
    Calls Try.prog 10 #[plantVal a ca b cb p, lockVal x cx y cy z cz l, .int .i64 v] w fun e w' => ∃ x' cx' y' cy' z' cz', e = .returned (.tuple #[lockVal x' cx' y' cy' z' cz' (opL .req p l v), .int .i64 (opC .req p l v)]) ∧
      LockOwn w' w.heap.size w'.heap.size x' cx' y' cy' z' cz' (opL .req p l v) ∧ Below w.heap.size w w' := by
  have CD := fun w hP hL => cDone .req v a b x y z ca cb cx cy cz p l w hP hL hx hy hz hS hT
  unfold stepVal at CD
  unfold plantVal lockVal at *
  generalize opL .req p l v = l' at *
  generalize opC .req p l v = c' at *
  have HB := below3 w (.cells #[.slice a p.under.length ca, .int .i64 p.blocks, .slice b p.routes.length cb] 27) (.cells #[.slice x l.pos.length cx, .slice y l.set.length cy, .slice z l.taken.length cz] 33) (.cells #[.slice none 0 0, .slice none 0 0, .slice none 0 0] 33)
  obtain ⟨K0, K1, K2⟩ := three_blocks w (.cells #[.slice a p.under.length ca, .int .i64 p.blocks, .slice b p.routes.length cb] 27) (.cells #[.slice x l.pos.length cx, .slice y l.set.length cy, .slice z l.taken.length cz] 33) (.cells #[.slice none 0 0, .slice none 0 0, .slice none 0 0] 33)
  have hs := size3 w (.cells #[.slice a p.under.length ca, .int .i64 p.blocks, .slice b p.routes.length cb] 27) (.cells #[.slice x l.pos.length cx, .slice y l.set.length cy, .slice z l.taken.length cz] 33) (.cells #[.slice none 0 0, .slice none 0 0, .slice none 0 0] 33)
  go_enter Try.func10, Try.ntmps10
  go_wp2_with fail
  refine (CD _ (hP.below HB) (hL.below HB)).mono ?_
  rintro e w1 ⟨x1, cx1, y1, cy1, z1, cz1, rfl, hO, -, -, -, hb⟩
  rw [hs] at hO
  have k2 := blk_keep hb K2
  replace HB := btrans HB hb
  clear hb K0 K1 K2 CD hs
  obtain ⟨⟨u0, u1, u2⟩, f0, f1, f2⟩ := blk3 k2
  have mO := ((hO.setFar (g := w.heap.size + 1 + 1) (i := 0) (u := .slice x1 l'.pos.length cx1) (by omega)).setFar (g := w.heap.size + 1 + 1) (i := 1) (u := .slice y1 l'.set.length cy1) (by omega)).setFar (g := w.heap.size + 1 + 1) (i := 2) (u := .slice z1 l'.taken.length cz1) (by omega)
  have mB := below_set (o := 2) (v := .slice z1 l'.taken.length cz1) (b := w.heap.size + 1 + 1) (by omega) (below_set (o := 1) (v := .slice y1 l'.set.length cy1) (b := w.heap.size + 1 + 1) (by omega) (below_set (o := 0) (v := .slice x1 l'.pos.length cx1) (b := w.heap.size + 1 + 1) (by omega) HB))
  go_wp2_with fail
  refine bodyPost_ret (v := .tuple #[.agg #[.slice x1 l'.pos.length cx1, .slice y1 l'.set.length cy1, .slice z1 l'.taken.length cz1], .int .i64 c']) (by simp [results, Try.results10, go_sem, u0, u1, u2]) rfl ⟨x1, cx1, y1, cy1, z1, cz1, rfl, ?_, mB⟩
  exact mO.wider (by omega) (by simp)

set_option maxRecDepth 20000 in
set_option maxHeartbeats 1600000 in
theorem cOccI (v : Int) (a b x y z : Option Addr) (ca cb cx cy cz : Nat) (p : PlantV) (l : LockV) (w : World) (hP : PlantIn w a b p) (hL : LockIn w x y z l) (hx : Plain x cx) (hy : Plain y cy) (hz : Plain z cz) (hS : Small p) (hT : LSmall l) :
    Calls Try.prog 11 #[plantVal a ca b cb p, lockVal x cx y cy z cz l, .int .i64 v] w fun e w' => ∃ x' cx' y' cy' z' cz', e = .returned (.tuple #[lockVal x' cx' y' cy' z' cz' (opL .occ p l v), .int .i64 (opC .occ p l v)]) ∧
      LockOwn w' w.heap.size w'.heap.size x' cx' y' cy' z' cz' (opL .occ p l v) ∧ Below w.heap.size w w' := by
  have CD := fun w hP hL => cDone .occ v a b x y z ca cb cx cy cz p l w hP hL hx hy hz hS hT
  unfold stepVal at CD
  unfold plantVal lockVal at *
  generalize opL .occ p l v = l' at *
  generalize opC .occ p l v = c' at *
  have HB := below3 w (.cells #[.slice a p.under.length ca, .int .i64 p.blocks, .slice b p.routes.length cb] 27) (.cells #[.slice x l.pos.length cx, .slice y l.set.length cy, .slice z l.taken.length cz] 33) (.cells #[.slice none 0 0, .slice none 0 0, .slice none 0 0] 33)
  obtain ⟨K0, K1, K2⟩ := three_blocks w (.cells #[.slice a p.under.length ca, .int .i64 p.blocks, .slice b p.routes.length cb] 27) (.cells #[.slice x l.pos.length cx, .slice y l.set.length cy, .slice z l.taken.length cz] 33) (.cells #[.slice none 0 0, .slice none 0 0, .slice none 0 0] 33)
  have hs := size3 w (.cells #[.slice a p.under.length ca, .int .i64 p.blocks, .slice b p.routes.length cb] 27) (.cells #[.slice x l.pos.length cx, .slice y l.set.length cy, .slice z l.taken.length cz] 33) (.cells #[.slice none 0 0, .slice none 0 0, .slice none 0 0] 33)
  go_enter Try.func11, Try.ntmps11
  go_wp2_with fail
  refine (CD _ (hP.below HB) (hL.below HB)).mono ?_
  rintro e w1 ⟨x1, cx1, y1, cy1, z1, cz1, rfl, hO, -, -, -, hb⟩
  rw [hs] at hO
  have k2 := blk_keep hb K2
  replace HB := btrans HB hb
  clear hb K0 K1 K2 CD hs
  obtain ⟨⟨u0, u1, u2⟩, f0, f1, f2⟩ := blk3 k2
  have mO := ((hO.setFar (g := w.heap.size + 1 + 1) (i := 0) (u := .slice x1 l'.pos.length cx1) (by omega)).setFar (g := w.heap.size + 1 + 1) (i := 1) (u := .slice y1 l'.set.length cy1) (by omega)).setFar (g := w.heap.size + 1 + 1) (i := 2) (u := .slice z1 l'.taken.length cz1) (by omega)
  have mB := below_set (o := 2) (v := .slice z1 l'.taken.length cz1) (b := w.heap.size + 1 + 1) (by omega) (below_set (o := 1) (v := .slice y1 l'.set.length cy1) (b := w.heap.size + 1 + 1) (by omega) (below_set (o := 0) (v := .slice x1 l'.pos.length cx1) (b := w.heap.size + 1 + 1) (by omega) HB))
  go_wp2_with fail
  refine bodyPost_ret (v := .tuple #[.agg #[.slice x1 l'.pos.length cx1, .slice y1 l'.set.length cy1, .slice z1 l'.taken.length cz1], .int .i64 c']) (by simp [results, Try.results11, go_sem, u0, u1, u2]) rfl ⟨x1, cx1, y1, cy1, z1, cz1, rfl, ?_, mB⟩
  exact mO.wider (by omega) (by simp)

set_option maxRecDepth 20000 in
set_option maxHeartbeats 1600000 in
theorem cVacI (v : Int) (a b x y z : Option Addr) (ca cb cx cy cz : Nat) (p : PlantV) (l : LockV) (w : World) (hP : PlantIn w a b p) (hL : LockIn w x y z l) (hx : Plain x cx) (hy : Plain y cy) (hz : Plain z cz) (hS : Small p) (hT : LSmall l) :
    Calls Try.prog 12 #[plantVal a ca b cb p, lockVal x cx y cy z cz l, .int .i64 v] w fun e w' => ∃ x' cx' y' cy' z' cz', e = .returned (.tuple #[lockVal x' cx' y' cy' z' cz' (opL .vac p l v), .int .i64 (opC .vac p l v)]) ∧
      LockOwn w' w.heap.size w'.heap.size x' cx' y' cy' z' cz' (opL .vac p l v) ∧ Below w.heap.size w w' := by
  have CD := fun w hP hL => cDone .vac v a b x y z ca cb cx cy cz p l w hP hL hx hy hz hS hT
  unfold stepVal at CD
  unfold plantVal lockVal at *
  generalize opL .vac p l v = l' at *
  generalize opC .vac p l v = c' at *
  have HB := below3 w (.cells #[.slice a p.under.length ca, .int .i64 p.blocks, .slice b p.routes.length cb] 27) (.cells #[.slice x l.pos.length cx, .slice y l.set.length cy, .slice z l.taken.length cz] 33) (.cells #[.slice none 0 0, .slice none 0 0, .slice none 0 0] 33)
  obtain ⟨K0, K1, K2⟩ := three_blocks w (.cells #[.slice a p.under.length ca, .int .i64 p.blocks, .slice b p.routes.length cb] 27) (.cells #[.slice x l.pos.length cx, .slice y l.set.length cy, .slice z l.taken.length cz] 33) (.cells #[.slice none 0 0, .slice none 0 0, .slice none 0 0] 33)
  have hs := size3 w (.cells #[.slice a p.under.length ca, .int .i64 p.blocks, .slice b p.routes.length cb] 27) (.cells #[.slice x l.pos.length cx, .slice y l.set.length cy, .slice z l.taken.length cz] 33) (.cells #[.slice none 0 0, .slice none 0 0, .slice none 0 0] 33)
  go_enter Try.func12, Try.ntmps12
  go_wp2_with fail
  refine (CD _ (hP.below HB) (hL.below HB)).mono ?_
  rintro e w1 ⟨x1, cx1, y1, cy1, z1, cz1, rfl, hO, -, -, -, hb⟩
  rw [hs] at hO
  have k2 := blk_keep hb K2
  replace HB := btrans HB hb
  clear hb K0 K1 K2 CD hs
  obtain ⟨⟨u0, u1, u2⟩, f0, f1, f2⟩ := blk3 k2
  have mO := ((hO.setFar (g := w.heap.size + 1 + 1) (i := 0) (u := .slice x1 l'.pos.length cx1) (by omega)).setFar (g := w.heap.size + 1 + 1) (i := 1) (u := .slice y1 l'.set.length cy1) (by omega)).setFar (g := w.heap.size + 1 + 1) (i := 2) (u := .slice z1 l'.taken.length cz1) (by omega)
  have mB := below_set (o := 2) (v := .slice z1 l'.taken.length cz1) (b := w.heap.size + 1 + 1) (by omega) (below_set (o := 1) (v := .slice y1 l'.set.length cy1) (b := w.heap.size + 1 + 1) (by omega) (below_set (o := 0) (v := .slice x1 l'.pos.length cx1) (b := w.heap.size + 1 + 1) (by omega) HB))
  go_wp2_with fail
  refine bodyPost_ret (v := .tuple #[.agg #[.slice x1 l'.pos.length cx1, .slice y1 l'.set.length cy1, .slice z1 l'.taken.length cz1], .int .i64 c']) (by simp [results, Try.results12, go_sem, u0, u1, u2]) rfl ⟨x1, cx1, y1, cy1, z1, cz1, rfl, ?_, mB⟩
  exact mO.wider (by omega) (by simp)

set_option maxRecDepth 20000 in
set_option maxHeartbeats 1600000 in
theorem cWdI (v : Int) (a b x y z : Option Addr) (ca cb cx cy cz : Nat) (p : PlantV) (l : LockV) (w : World) (hP : PlantIn w a b p) (hL : LockIn w x y z l) (hx : Plain x cx) (hy : Plain y cy) (hz : Plain z cz) (hS : Small p) (hT : LSmall l) :
    Calls Try.prog 13 #[plantVal a ca b cb p, lockVal x cx y cy z cz l, .int .i64 v] w fun e w' => ∃ x' cx' y' cy' z' cz', e = .returned (.tuple #[lockVal x' cx' y' cy' z' cz' (opL .wd p l v), .int .i64 (opC .wd p l v)]) ∧
      LockOwn w' w.heap.size w'.heap.size x' cx' y' cy' z' cz' (opL .wd p l v) ∧ Below w.heap.size w w' := by
  have CD := fun w hP hL => cDone .wd v a b x y z ca cb cx cy cz p l w hP hL hx hy hz hS hT
  unfold stepVal at CD
  unfold plantVal lockVal at *
  generalize opL .wd p l v = l' at *
  generalize opC .wd p l v = c' at *
  have HB := below3 w (.cells #[.slice a p.under.length ca, .int .i64 p.blocks, .slice b p.routes.length cb] 27) (.cells #[.slice x l.pos.length cx, .slice y l.set.length cy, .slice z l.taken.length cz] 33) (.cells #[.slice none 0 0, .slice none 0 0, .slice none 0 0] 33)
  obtain ⟨K0, K1, K2⟩ := three_blocks w (.cells #[.slice a p.under.length ca, .int .i64 p.blocks, .slice b p.routes.length cb] 27) (.cells #[.slice x l.pos.length cx, .slice y l.set.length cy, .slice z l.taken.length cz] 33) (.cells #[.slice none 0 0, .slice none 0 0, .slice none 0 0] 33)
  have hs := size3 w (.cells #[.slice a p.under.length ca, .int .i64 p.blocks, .slice b p.routes.length cb] 27) (.cells #[.slice x l.pos.length cx, .slice y l.set.length cy, .slice z l.taken.length cz] 33) (.cells #[.slice none 0 0, .slice none 0 0, .slice none 0 0] 33)
  go_enter Try.func13, Try.ntmps13
  go_wp2_with fail
  refine (CD _ (hP.below HB) (hL.below HB)).mono ?_
  rintro e w1 ⟨x1, cx1, y1, cy1, z1, cz1, rfl, hO, -, -, -, hb⟩
  rw [hs] at hO
  have k2 := blk_keep hb K2
  replace HB := btrans HB hb
  clear hb K0 K1 K2 CD hs
  obtain ⟨⟨u0, u1, u2⟩, f0, f1, f2⟩ := blk3 k2
  have mO := ((hO.setFar (g := w.heap.size + 1 + 1) (i := 0) (u := .slice x1 l'.pos.length cx1) (by omega)).setFar (g := w.heap.size + 1 + 1) (i := 1) (u := .slice y1 l'.set.length cy1) (by omega)).setFar (g := w.heap.size + 1 + 1) (i := 2) (u := .slice z1 l'.taken.length cz1) (by omega)
  have mB := below_set (o := 2) (v := .slice z1 l'.taken.length cz1) (b := w.heap.size + 1 + 1) (by omega) (below_set (o := 1) (v := .slice y1 l'.set.length cy1) (b := w.heap.size + 1 + 1) (by omega) (below_set (o := 0) (v := .slice x1 l'.pos.length cx1) (b := w.heap.size + 1 + 1) (by omega) HB))
  go_wp2_with fail
  refine bodyPost_ret (v := .tuple #[.agg #[.slice x1 l'.pos.length cx1, .slice y1 l'.set.length cy1, .slice z1 l'.taken.length cz1], .int .i64 c']) (by simp [results, Try.results13, go_sem, u0, u1, u2]) rfl ⟨x1, cx1, y1, cy1, z1, cz1, rfl, ?_, mB⟩
  exact mO.wider (by omega) (by simp)
end Go.Proofs.Ytpgjllefhlanpaa
