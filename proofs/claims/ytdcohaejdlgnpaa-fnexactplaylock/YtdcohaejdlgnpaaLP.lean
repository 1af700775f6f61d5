/- The program's do: an op of a kind, refused or done. -/
import Derived.Test.YtdcohaejdlgnpaaLO
namespace Go.Proofs.Ytdcohaejdlgnpaa
open Go.RowKit
def stepVal : OpK → Int → Value
  | .req, x => .iface 87 (.int .i64 x)
  | .occ, x => .iface 89 (.int .i64 x)
  | .vac, x => .iface 90 (.int .i64 x)
  | .wd, x => .iface 91 (.int .i64 x)
  | .none, _ => .iface 112 (.agg #[])
set_option maxHeartbeats 400000 in
theorem cThReq (a b : Option Addr) (ca cb : Nat) (p : PlantV) (x : Int) (w : World) (h1 : p.routes.length ≤ 1048576) :
    Calls Try.prog 119 #[.int .i64 x, plantVal a ca b cb p] w fun e w' => e = .returned (.bool (isRoute p x)) ∧ Below w.heap.size w w' := by
  have CR := fun w => cHasRoute a b ca cb p x w h1
  unfold plantVal isRoute at *
  have hb := balloc w (.cells #[.slice a p.under.length ca, .int .i64 p.blocks, .slice b p.routes.length cb] 30)
  go_enter Try.func119, Try.ntmps119
  go_wp2_with fail
  refine (CR _).mono ?_
  rintro e w1 ⟨rfl, hb1⟩
  go_wp2
  go_ret
  exact ⟨rfl, btrans hb hb1⟩
set_option maxHeartbeats 400000 in
theorem cThWd (a b : Option Addr) (ca cb : Nat) (p : PlantV) (x : Int) (w : World) (h1 : p.routes.length ≤ 1048576) :
    Calls Try.prog 122 #[.int .i64 x, plantVal a ca b cb p] w fun e w' => e = .returned (.bool (isRoute p x)) ∧ Below w.heap.size w w' := by
  have CR := fun w => cHasRoute a b ca cb p x w h1
  unfold plantVal isRoute at *
  have hb := balloc w (.cells #[.slice a p.under.length ca, .int .i64 p.blocks, .slice b p.routes.length cb] 30)
  go_enter Try.func122, Try.ntmps122
  go_wp2_with fail
  refine (CR _).mono ?_
  rintro e w1 ⟨rfl, hb1⟩
  go_wp2
  go_ret
  exact ⟨rfl, btrans hb hb1⟩
set_option maxHeartbeats 400000 in
theorem cThOcc (a b : Option Addr) (ca cb : Nat) (p : PlantV) (x : Int) (w : World) (h1 : 1 ≤ p.blocks) (h24 : p.blocks ≤ 24) :
    Calls Try.prog 120 #[.int .i64 x, plantVal a ca b cb p] w fun e w' => e = .returned (.bool (isBlock p x)) ∧ Below w.heap.size w w' := by
  have CR := fun w => cHasBlock a b ca cb p x w h1 h24
  unfold plantVal isBlock at *
  have hb := balloc w (.cells #[.slice a p.under.length ca, .int .i64 p.blocks, .slice b p.routes.length cb] 30)
  go_enter Try.func120, Try.ntmps120
  go_wp2_with fail
  refine (CR _).mono ?_
  rintro e w1 ⟨rfl, hb1⟩
  go_wp2
  go_ret
  exact ⟨rfl, btrans hb hb1⟩
set_option maxHeartbeats 400000 in
theorem cThVac (a b : Option Addr) (ca cb : Nat) (p : PlantV) (x : Int) (w : World) (h1 : 1 ≤ p.blocks) (h24 : p.blocks ≤ 24) :
    Calls Try.prog 121 #[.int .i64 x, plantVal a ca b cb p] w fun e w' => e = .returned (.bool (isBlock p x)) ∧ Below w.heap.size w w' := by
  have CR := fun w => cHasBlock a b ca cb p x w h1 h24
  unfold plantVal isBlock at *
  have hb := balloc w (.cells #[.slice a p.under.length ca, .int .i64 p.blocks, .slice b p.routes.length cb] 30)
  go_enter Try.func121, Try.ntmps121
  go_wp2_with fail
  refine (CR _).mono ?_
  rintro e w1 ⟨rfl, hb1⟩
  go_wp2
  go_ret
  exact ⟨rfl, btrans hb hb1⟩
set_option maxHeartbeats 400000 in
theorem cThNone (a b : Option Addr) (ca cb : Nat) (p : PlantV) (w : World) :
    Calls Try.prog 123 #[.agg #[], plantVal a ca b cb p] w fun e w' => e = .returned (.bool false) ∧ Below w.heap.size w w' := by
  unfold plantVal
  have hb := btrans (balloc w (.cells #[] 112)) (balloc _ (.cells #[.slice a p.under.length ca, .int .i64 p.blocks, .slice b p.routes.length cb] 30))
  go_enter Try.func123, Try.ntmps123
  go_wp2
  go_ret
  exact ⟨rfl, hb⟩

set_option maxRecDepth 20000 in
set_option maxHeartbeats 1600000 in
/-- Where the locking is not right, every op is refused. -/
theorem cDoBad (k : OpK) (v : Int) (a b x y z : Option Addr) (ca cb cx cy cz lo hi : Nat) (p : PlantV) (l : LockV) (w : World) (hP : PlantIn w a b p) (hL : LockOwn w lo hi x cx y cy z cz l) (hS : Small p) (hT : LSmall l) (h : lockOk p l = false) :
    Calls Try.prog 86 #[stVal a ca b cb p x cx y cy z cz l, stepVal k v] w fun e w' => e = endOf 1 ∧ Far lo hi w w' ∧ LockOwn w' lo hi x cx y cy z cz l := by
  have CL := fun w hP hL => cLockOkI a b x y z ca cb cx cy cz p l w hP hL hS hT
  rw [h] at CL
  unfold stVal plantVal lockVal at *
  have hb0 := balloc w (.cells #[.slice a p.under.length ca, .int .i64 p.blocks, .slice b p.routes.length cb, .slice x l.pos.length cx, .slice y l.set.length cy, .slice z l.taken.length cz] 84)
  have F0 := (Far.refl lo hi w).below hb0
  have hL0 := hL.below hb0
  go_enter Try.func86, Try.ntmps86
  go_wp2_with fail
  refine (CL _ (hP.below hb0) hL0.read).mono ?_
  rintro e w1 ⟨rfl, hb⟩
  replace F0 := F0.below hb
  replace hL0 := hL0.below hb
  clear hb hb0
  go_wp2_with fail
  refine (cRefYes 1 _).mono ?_
  rintro e w2 ⟨rfl, hw⟩
  subst w2
  go_wp2
  exact ⟨rfl, (endOf_refu (by decide)).symm, F0, hL0⟩

end Go.Proofs.Ytdcohaejdlgnpaa
