/- The program's do: an op of a kind, refused or done. -/
import Derived.Test.YtpgjllefhlanpaaLO
namespace Go.Proofs.Ytpgjllefhlanpaa
open Go.RowKit
def stepVal : OpK → Int → Value
  | .req, x => .iface 62 (.int .i64 x)
  | .occ, x => .iface 63 (.int .i64 x)
  | .vac, x => .iface 64 (.int .i64 x)
  | .wd, x => .iface 65 (.int .i64 x)
  | .none, _ => .iface 87 (.agg #[])
set_option maxHeartbeats 400000 in
theorem cThReq (a b : Option Addr) (ca cb : Nat) (p : PlantV) (x : Int) (w : World) (h1 : p.routes.length ≤ 1048576) :
    Calls Try.prog 87 #[.int .i64 x, plantVal a ca b cb p] w fun e w' => e = .returned (.bool (isRoute p x)) ∧ Below w.heap.size w w' := by
  have CR := fun w => cHasRoute a b ca cb p x w h1
  unfold plantVal isRoute at *
  have hb := balloc w (.cells #[.slice a p.under.length ca, .int .i64 p.blocks, .slice b p.routes.length cb] 27)
  go_enter Try.func87, Try.ntmps87
  go_wp2_with fail
  refine (CR _).mono ?_
  rintro e w1 ⟨rfl, hb1⟩
  go_wp2
  go_ret
  exact ⟨rfl, btrans hb hb1⟩
set_option maxHeartbeats 400000 in
theorem cThWd (a b : Option Addr) (ca cb : Nat) (p : PlantV) (x : Int) (w : World) (h1 : p.routes.length ≤ 1048576) :
    Calls Try.prog 90 #[.int .i64 x, plantVal a ca b cb p] w fun e w' => e = .returned (.bool (isRoute p x)) ∧ Below w.heap.size w w' := by
  have CR := fun w => cHasRoute a b ca cb p x w h1
  unfold plantVal isRoute at *
  have hb := balloc w (.cells #[.slice a p.under.length ca, .int .i64 p.blocks, .slice b p.routes.length cb] 27)
  go_enter Try.func90, Try.ntmps90
  go_wp2_with fail
  refine (CR _).mono ?_
  rintro e w1 ⟨rfl, hb1⟩
  go_wp2
  go_ret
  exact ⟨rfl, btrans hb hb1⟩
set_option maxHeartbeats 400000 in
theorem cThOcc (a b : Option Addr) (ca cb : Nat) (p : PlantV) (x : Int) (w : World) (h1 : 1 ≤ p.blocks) (h24 : p.blocks ≤ 24) :
    Calls Try.prog 88 #[.int .i64 x, plantVal a ca b cb p] w fun e w' => e = .returned (.bool (isBlock p x)) ∧ Below w.heap.size w w' := by
  have CR := fun w => cHasBlock a b ca cb p x w h1 h24
  unfold plantVal isBlock at *
  have hb := balloc w (.cells #[.slice a p.under.length ca, .int .i64 p.blocks, .slice b p.routes.length cb] 27)
  go_enter Try.func88, Try.ntmps88
  go_wp2_with fail
  refine (CR _).mono ?_
  rintro e w1 ⟨rfl, hb1⟩
  go_wp2
  go_ret
  exact ⟨rfl, btrans hb hb1⟩
set_option maxHeartbeats 400000 in
theorem cThVac (a b : Option Addr) (ca cb : Nat) (p : PlantV) (x : Int) (w : World) (h1 : 1 ≤ p.blocks) (h24 : p.blocks ≤ 24) :
    Calls Try.prog 89 #[.int .i64 x, plantVal a ca b cb p] w fun e w' => e = .returned (.bool (isBlock p x)) ∧ Below w.heap.size w w' := by
  have CR := fun w => cHasBlock a b ca cb p x w h1 h24
  unfold plantVal isBlock at *
  have hb := balloc w (.cells #[.slice a p.under.length ca, .int .i64 p.blocks, .slice b p.routes.length cb] 27)
  go_enter Try.func89, Try.ntmps89
  go_wp2_with fail
  refine (CR _).mono ?_
  rintro e w1 ⟨rfl, hb1⟩
  go_wp2
  go_ret
  exact ⟨rfl, btrans hb hb1⟩
set_option maxHeartbeats 400000 in
theorem cThNone (a b : Option Addr) (ca cb : Nat) (p : PlantV) (w : World) :
    Calls Try.prog 91 #[.agg #[], plantVal a ca b cb p] w fun e w' => e = .returned (.bool false) ∧ Below w.heap.size w w' := by
  unfold plantVal
  have hb := btrans (balloc w (.cells #[] 87)) (balloc _ (.cells #[.slice a p.under.length ca, .int .i64 p.blocks, .slice b p.routes.length cb] 27))
  go_enter Try.func91, Try.ntmps91
  go_wp2
  go_ret
  exact ⟨rfl, hb⟩

set_option maxRecDepth 20000 in
set_option maxHeartbeats 1600000 in
/-- Where the locking is not right, every op is refused. -/
theorem cDoBad (k : OpK) (v : Int) (a b x y z : Option Addr) (ca cb cx cy cz lo hi : Nat) (p : PlantV) (l : LockV) (w : World) (hP : PlantIn w a b p) (hL : LockOwn w lo hi x cx y cy z cz l) (hS : Small p) (hT : LSmall l) (h : lockOk p l = false) :
    Calls Try.prog 50 #[stVal a ca b cb p x cx y cy z cz l, stepVal k v] w fun e w' => e = endOf 1 ∧ Far lo hi w w' ∧ LockOwn w' lo hi x cx y cy z cz l := by
  have CL := fun w hP hL => cLockOkI a b x y z ca cb cx cy cz p l w hP hL hS hT
  rw [h] at CL
  unfold stVal plantVal lockVal at *
  have hb0 := balloc w (.cells #[.slice a p.under.length ca, .int .i64 p.blocks, .slice b p.routes.length cb, .slice x l.pos.length cx, .slice y l.set.length cy, .slice z l.taken.length cz] 61)
  have F0 := (Far.refl lo hi w).below hb0
  have hL0 := hL.below hb0
  go_enter Try.func50, Try.ntmps50
  go_wp2_with fail
  refine (CL _ (hP.below hb0) hL0.read).mono ?_
  rintro e w1 ⟨rfl, hb⟩
  replace F0 := F0.below hb
  replace hL0 := hL0.below hb
  clear hb hb0
  go_wp2_with fail
  refine (cRefYes 1 _).mono ?_
  rintro e w2 ⟨rfl, hw⟩
  subst w2
  go_wp2
  exact ⟨rfl, (endOf_refu (by decide)).symm, F0, hL0⟩

end Go.Proofs.Ytpgjllefhlanpaa
