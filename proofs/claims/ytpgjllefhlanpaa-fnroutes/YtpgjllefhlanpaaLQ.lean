/- The program's do, op by op. -/
import Derived.Test.YtpgjllefhlanpaaLP
namespace Go.Proofs.Ytpgjllefhlanpaa
open Go.RowKit
theorem as_request_request (v : Int) (w : World) : (Instr.typeAssert (.iface 62 (.int .i64 v)) 56 62 true).run Try.prog w = .ok (.tuple #[.int .i64 v, .bool true]) w := by kernel_rfl
theorem as_occupy_request (v : Int) (w : World) : (Instr.typeAssert (.iface 63 (.int .i64 v)) 56 62 true).run Try.prog w = .ok (.tuple #[.int .i64 0, .bool false]) w := by kernel_rfl
theorem as_occupy_occupy (v : Int) (w : World) : (Instr.typeAssert (.iface 63 (.int .i64 v)) 56 63 true).run Try.prog w = .ok (.tuple #[.int .i64 v, .bool true]) w := by kernel_rfl
theorem as_vacate_request (v : Int) (w : World) : (Instr.typeAssert (.iface 64 (.int .i64 v)) 56 62 true).run Try.prog w = .ok (.tuple #[.int .i64 0, .bool false]) w := by kernel_rfl
theorem as_vacate_occupy (v : Int) (w : World) : (Instr.typeAssert (.iface 64 (.int .i64 v)) 56 63 true).run Try.prog w = .ok (.tuple #[.int .i64 0, .bool false]) w := by kernel_rfl
theorem as_vacate_vacate (v : Int) (w : World) : (Instr.typeAssert (.iface 64 (.int .i64 v)) 56 64 true).run Try.prog w = .ok (.tuple #[.int .i64 v, .bool true]) w := by kernel_rfl
theorem as_withdraw_request (v : Int) (w : World) : (Instr.typeAssert (.iface 65 (.int .i64 v)) 56 62 true).run Try.prog w = .ok (.tuple #[.int .i64 0, .bool false]) w := by kernel_rfl
theorem as_withdraw_occupy (v : Int) (w : World) : (Instr.typeAssert (.iface 65 (.int .i64 v)) 56 63 true).run Try.prog w = .ok (.tuple #[.int .i64 0, .bool false]) w := by kernel_rfl
theorem as_withdraw_vacate (v : Int) (w : World) : (Instr.typeAssert (.iface 65 (.int .i64 v)) 56 64 true).run Try.prog w = .ok (.tuple #[.int .i64 0, .bool false]) w := by kernel_rfl
theorem as_withdraw_withdraw (v : Int) (w : World) : (Instr.typeAssert (.iface 65 (.int .i64 v)) 56 65 true).run Try.prog w = .ok (.tuple #[.int .i64 v, .bool true]) w := by kernel_rfl
set_option maxRecDepth 20000 in
set_option maxHeartbeats 3200000 in
theorem cDoReq (v : Int) (a b x y z : Option Addr) (ca cb cx cy cz lo hi : Nat) (p : PlantV) (l : LockV) (w0 w : World) (hP : PlantIn w0 a b p) (HB : Below w0.heap.size w0 w) (hlo : w0.heap.size ≤ lo) (hhi : hi ≤ w.heap.size) (hL : LockOwn w lo hi x cx y cy z cz l) (hS : Small p) (hT : LSmall l) (h : lockOk p l = true) :
    Calls Try.prog 50 #[stVal a ca b cb p x cx y cy z cz l, stepVal .req v] w fun e w' => e = endOf (reqC p l v) ∧ Far lo hi w w' ∧ LockOwn w' lo hi x cx y cy z cz (reqL p l v) := by
  have hF := lock_fits h
  have hm : ∀ w, (method 240 62 (.int .i64 v) "loop.example/g00075/impl.there").run Try.prog w = .ok (87, .int .i64 v) w := fun _ => by kernel_rfl
  have CL := fun w hP hL => cLockOkI a b x y z ca cb cx cy cz p l w hP hL hS hT
  have CR := fun w => cThReq a b ca cb p v w hS.routes
  rw [h] at CL
  unfold stepVal
  unfold stVal plantVal lockVal at *
  have hb0 := balloc w (.cells #[.slice a p.under.length ca, .int .i64 p.blocks, .slice b p.routes.length cb, .slice x l.pos.length cx, .slice y l.set.length cy, .slice z l.taken.length cz] 61)
  have k0 : (w.alloc (.cells #[.slice a p.under.length ca, .int .i64 p.blocks, .slice b p.routes.length cb, .slice x l.pos.length cx, .slice y l.set.length cy, .slice z l.taken.length cz] 61)).heap[w.heap.size]? = some (.cells #[.slice a p.under.length ca, .int .i64 p.blocks, .slice b p.routes.length cb, .slice x l.pos.length cx, .slice y l.set.length cy, .slice z l.taken.length cz] 61 (0, 0)) := new1
  have F0 := (Far.refl lo hi w).below hb0
  have hL0 := hL.below hb0
  have hsz := hb0.size
  replace HB := btrans HB hb0
  go_enter Try.func50, Try.ntmps50
  go_wp2_with fail
  refine (CL _ (hP.below HB) hL0.read).mono ?_
  rintro e w1 ⟨rfl, hb⟩
  replace F0 := F0.below hb
  replace hL0 := hL0.below hb
  replace HB := btrans HB hb
  replace k0 := blk_keep hb k0
  have hsz1 := hb.size
  clear hb hb0
  obtain ⟨g0, g1, g2, g3, g4, g5⟩ := blk6 k0
  go_wp2_with fail
  clear g0 g1 g2 g3 g4 g5
  refine (CR _).mono ?_
  rintro e w2 ⟨rfl, hb⟩
  replace F0 := F0.below hb
  replace hL0 := hL0.below hb
  replace HB := btrans HB hb
  replace k0 := blk_keep hb k0
  have hsz2 := hb.size
  clear hb CL CR hm
  cases hv : isRoute p v
  · have hC := hide (show reqC p l v = 1 by simp [reqC, hv])
    have hQ := hide (show reqL p l v = l by unfold reqL; rw [hC.out]; rfl)
    go_wp2_with fail
    refine (cRefYes 1 _).mono ?_
    rintro e w3 ⟨rfl, hw⟩
    subst w3
    go_wp2
    rw [hC.out, hQ.out]
    exact ⟨rfl, (endOf_refu (by decide)).symm, F0, hL0⟩
  obtain ⟨q, rfl⟩ := Int.eq_ofNat_of_zero_le (inB_true hv).1
  have hq := (inB_true hv).2
  have hqr : q < p.routes.length := by omega
  have CM : ∀ w2, Below w0.heap.size w0 w2 → LockOwn w2 lo hi x cx y cy z cz l → hi ≤ w2.heap.size → Calls Try.prog 60 #[stVal a ca b cb p x cx y cy z cz l, .int .i64 (q : Int)] w2 fun e w' => e = endOf (reqC p l (q : Int)) ∧ Far lo hi w2 w' ∧ LockOwn w' lo hi x cx y cy z cz (reqL p l (q : Int)) := fun w2 HB2 hL2 hh => by
    have hC : reqC p l (q : Int) = setC p l q := by simp [reqC, setC, h, hv]
    have hQ : reqL p l (q : Int) = (bif decide (setC p l q = 0) then setRoute p l q else l) := by unfold reqL; rw [hC]
    rw [hC, hQ]
    exact cSet a b x y z ca cb cx cy cz lo hi p l q w0 w2 hP HB2 hlo hh hL2 hS hT hF hqr
  unfold stVal at CM
  obtain ⟨g0, g1, g2, g3, g4, g5⟩ := blk6 k0
  have as0 := as_request_request (q : Int)
  go_wp2_with fail
  refine (cRefNo 1 _).mono ?_
  rintro e w3 ⟨rfl, hw⟩
  subst w3
  go_wp2_with fail
  clear g0 g1 g2 g3 g4 g5
  refine (CM _ HB hL0 (by omega)).mono ?_
  rintro e w3 ⟨rfl, hf, hl⟩
  have F1 := F0.trans hf
  clear hf F0 hL0 k0
  by_cases hc0 : reqC p l (q : Int) = 0
  · have hE := hide (show endOf (reqC p l (q : Int)) = .returned (.tuple #[]) by rw [hc0]; rfl)
    replace hc0 := hide hc0
    rw [hE.out]
    go_wp2
    go_end0
    exact ⟨hE.out.symm, F1, hl⟩
  · have hE := hide (endOf_refu hc0)
    rw [hE.out]
    go_wp2
    exact ⟨rfl, hE.out.symm, F1, hl⟩
set_option maxRecDepth 20000 in
set_option maxHeartbeats 3200000 in
theorem cDoWd (v : Int) (a b x y z : Option Addr) (ca cb cx cy cz lo hi : Nat) (p : PlantV) (l : LockV) (w0 w : World) (hP : PlantIn w0 a b p) (HB : Below w0.heap.size w0 w) (hhi : hi ≤ w.heap.size) (hL : LockOwn w lo hi x cx y cy z cz l) (hS : Small p) (hT : LSmall l) (h : lockOk p l = true) :
    Calls Try.prog 50 #[stVal a ca b cb p x cx y cy z cz l, stepVal .wd v] w fun e w' => e = endOf (wdC p l v) ∧ Far lo hi w w' ∧ LockOwn w' lo hi x cx y cy z cz (wdL p l v) := by
  have hF := lock_fits h
  have hm : ∀ w, (method 240 65 (.int .i64 v) "loop.example/g00075/impl.there").run Try.prog w = .ok (90, .int .i64 v) w := fun _ => by kernel_rfl
  have CL := fun w hP hL => cLockOkI a b x y z ca cb cx cy cz p l w hP hL hS hT
  have CR := fun w => cThWd a b ca cb p v w hS.routes
  rw [h] at CL
  unfold stepVal
  unfold stVal plantVal lockVal at *
  have hb0 := balloc w (.cells #[.slice a p.under.length ca, .int .i64 p.blocks, .slice b p.routes.length cb, .slice x l.pos.length cx, .slice y l.set.length cy, .slice z l.taken.length cz] 61)
  have k0 : (w.alloc (.cells #[.slice a p.under.length ca, .int .i64 p.blocks, .slice b p.routes.length cb, .slice x l.pos.length cx, .slice y l.set.length cy, .slice z l.taken.length cz] 61)).heap[w.heap.size]? = some (.cells #[.slice a p.under.length ca, .int .i64 p.blocks, .slice b p.routes.length cb, .slice x l.pos.length cx, .slice y l.set.length cy, .slice z l.taken.length cz] 61 (0, 0)) := new1
  have F0 := (Far.refl lo hi w).below hb0
  have hL0 := hL.below hb0
  have hsz := hb0.size
  replace HB := btrans HB hb0
  go_enter Try.func50, Try.ntmps50
  go_wp2_with fail
  refine (CL _ (hP.below HB) hL0.read).mono ?_
  rintro e w1 ⟨rfl, hb⟩
  replace F0 := F0.below hb
  replace hL0 := hL0.below hb
  replace HB := btrans HB hb
  replace k0 := blk_keep hb k0
  have hsz1 := hb.size
  clear hb hb0
  obtain ⟨g0, g1, g2, g3, g4, g5⟩ := blk6 k0
  go_wp2_with fail
  clear g0 g1 g2 g3 g4 g5
  refine (CR _).mono ?_
  rintro e w2 ⟨rfl, hb⟩
  replace F0 := F0.below hb
  replace hL0 := hL0.below hb
  replace HB := btrans HB hb
  replace k0 := blk_keep hb k0
  have hsz2 := hb.size
  clear hb CL CR hm
  cases hv : isRoute p v
  · have hC := hide (show wdC p l v = 1 by simp [wdC, hv])
    have hQ := hide (show wdL p l v = l by unfold wdL; rw [hC.out]; rfl)
    go_wp2_with fail
    refine (cRefYes 1 _).mono ?_
    rintro e w3 ⟨rfl, hw⟩
    subst w3
    go_wp2
    rw [hC.out, hQ.out]
    exact ⟨rfl, (endOf_refu (by decide)).symm, F0, hL0⟩
  obtain ⟨q, rfl⟩ := Int.eq_ofNat_of_zero_le (inB_true hv).1
  have hq := (inB_true hv).2
  have hqr : q < p.routes.length := by omega
  have CM : ∀ w2, Below w0.heap.size w0 w2 → LockOwn w2 lo hi x cx y cy z cz l → hi ≤ w2.heap.size → Calls Try.prog 63 #[stVal a ca b cb p x cx y cy z cz l, .int .i64 (q : Int)] w2 fun e w' => e = endOf (wdC p l (q : Int)) ∧ Far lo hi w2 w' ∧ LockOwn w' lo hi x cx y cy z cz (wdL p l (q : Int)) := fun w2 HB2 hL2 _ => by
    have hC : wdC p l (q : Int) = (bif l.set.getD q false then (bif held p l q then 4 else 0) else 6) := by simp [wdC, h, hv]
    have hQ : wdL p l (q : Int) = (bif l.set.getD q false && !held p l q then ⟨l.pos, l.set.set q false, l.taken⟩ else l) := by
      unfold wdL; rw [hC]; cases l.set.getD q false <;> cases held p l q <;> rfl
    rw [hC, hQ]
    exact cUnset a b x y z ca cb cx cy cz lo hi p l q w2 (hP.below HB2) hL2 hS hT hF hqr
  unfold stVal at CM
  obtain ⟨g0, g1, g2, g3, g4, g5⟩ := blk6 k0
  have as0 := as_withdraw_request (q : Int)
  have as1 := as_withdraw_occupy (q : Int)
  have as2 := as_withdraw_vacate (q : Int)
  have as3 := as_withdraw_withdraw (q : Int)
  go_wp2_with fail
  refine (cRefNo 1 _).mono ?_
  rintro e w3 ⟨rfl, hw⟩
  subst w3
  go_wp2_with fail
  clear g0 g1 g2 g3 g4 g5
  refine (CM _ HB hL0 (by omega)).mono ?_
  rintro e w3 ⟨rfl, hf, hl⟩
  have F1 := F0.trans hf
  clear hf F0 hL0 k0
  by_cases hc0 : wdC p l (q : Int) = 0
  · have hE := hide (show endOf (wdC p l (q : Int)) = .returned (.tuple #[]) by rw [hc0]; rfl)
    replace hc0 := hide hc0
    rw [hE.out]
    go_wp2
    go_end0
    exact ⟨hE.out.symm, F1, hl⟩
  · have hE := hide (endOf_refu hc0)
    rw [hE.out]
    go_wp2
    exact ⟨rfl, hE.out.symm, F1, hl⟩
set_option maxRecDepth 20000 in
set_option maxHeartbeats 3200000 in
theorem cDoOcc (v : Int) (a b x y z : Option Addr) (ca cb cx cy cz lo hi : Nat) (p : PlantV) (l : LockV) (w0 w : World) (hP : PlantIn w0 a b p) (HB : Below w0.heap.size w0 w) (hhi : hi ≤ w.heap.size) (hL : LockOwn w lo hi x cx y cy z cz l) (hS : Small p) (hT : LSmall l) (h : lockOk p l = true) :
    Calls Try.prog 50 #[stVal a ca b cb p x cx y cy z cz l, stepVal .occ v] w fun e w' => e = endOf (occC p l v) ∧ Far lo hi w w' ∧ LockOwn w' lo hi x cx y cy z cz (occL p l v) := by
  have hF := lock_fits h
  have hm : ∀ w, (method 240 63 (.int .i64 v) "loop.example/g00075/impl.there").run Try.prog w = .ok (88, .int .i64 v) w := fun _ => by kernel_rfl
  have CL := fun w hP hL => cLockOkI a b x y z ca cb cx cy cz p l w hP hL hS hT
  have CR := fun w => cThOcc a b ca cb p v w hF.ok.b1 hF.ok.b24
  rw [h] at CL
  unfold stepVal
  unfold stVal plantVal lockVal at *
  have hb0 := balloc w (.cells #[.slice a p.under.length ca, .int .i64 p.blocks, .slice b p.routes.length cb, .slice x l.pos.length cx, .slice y l.set.length cy, .slice z l.taken.length cz] 61)
  have k0 : (w.alloc (.cells #[.slice a p.under.length ca, .int .i64 p.blocks, .slice b p.routes.length cb, .slice x l.pos.length cx, .slice y l.set.length cy, .slice z l.taken.length cz] 61)).heap[w.heap.size]? = some (.cells #[.slice a p.under.length ca, .int .i64 p.blocks, .slice b p.routes.length cb, .slice x l.pos.length cx, .slice y l.set.length cy, .slice z l.taken.length cz] 61 (0, 0)) := new1
  have F0 := (Far.refl lo hi w).below hb0
  have hL0 := hL.below hb0
  have hsz := hb0.size
  replace HB := btrans HB hb0
  go_enter Try.func50, Try.ntmps50
  go_wp2_with fail
  refine (CL _ (hP.below HB) hL0.read).mono ?_
  rintro e w1 ⟨rfl, hb⟩
  replace F0 := F0.below hb
  replace hL0 := hL0.below hb
  replace HB := btrans HB hb
  replace k0 := blk_keep hb k0
  have hsz1 := hb.size
  clear hb hb0
  obtain ⟨g0, g1, g2, g3, g4, g5⟩ := blk6 k0
  go_wp2_with fail
  clear g0 g1 g2 g3 g4 g5
  refine (CR _).mono ?_
  rintro e w2 ⟨rfl, hb⟩
  replace F0 := F0.below hb
  replace hL0 := hL0.below hb
  replace HB := btrans HB hb
  replace k0 := blk_keep hb k0
  have hsz2 := hb.size
  clear hb CL CR hm
  cases hv : isBlock p v
  · have hC := hide (show occC p l v = 1 by simp [occC, hv])
    have hQ := hide (show occL p l v = l by unfold occL; rw [hC.out]; rfl)
    go_wp2_with fail
    refine (cRefYes 1 _).mono ?_
    rintro e w3 ⟨rfl, hw⟩
    subst w3
    go_wp2
    rw [hC.out, hQ.out]
    exact ⟨rfl, (endOf_refu (by decide)).symm, F0, hL0⟩
  obtain ⟨q, rfl⟩ := Int.eq_ofNat_of_zero_le (inB_true hv).1
  have hq := (inB_true hv).2
  have hqr : q < l.taken.length := by have := hF.taken; omega
  have CM : ∀ w2, Below w0.heap.size w0 w2 → LockOwn w2 lo hi x cx y cy z cz l → hi ≤ w2.heap.size → Calls Try.prog 61 #[stVal a ca b cb p x cx y cy z cz l, .int .i64 (q : Int)] w2 fun e w' => e = endOf (occC p l (q : Int)) ∧ Far lo hi w2 w' ∧ LockOwn w' lo hi x cx y cy z cz (occL p l (q : Int)) := fun w2 HB2 hL2 _ => by
    have hC : occC p l (q : Int) = (bif l.taken.getD q false then 4 else bif reached p l (q : Int) then 0 else 6) := by simp [occC, h, hv]
    have hQ : occL p l (q : Int) = (bif !l.taken.getD q false && reached p l (q : Int) then ⟨l.pos, l.set, l.taken.set q true⟩ else l) := by
      unfold occL; rw [hC]; cases l.taken.getD q false <;> cases reached p l (q : Int) <;> rfl
    rw [hC, hQ]
    exact cEnter a b x y z ca cb cx cy cz lo hi p l q w2 (hP.below HB2) hL2 hS hT hF hqr
  unfold stVal at CM
  obtain ⟨g0, g1, g2, g3, g4, g5⟩ := blk6 k0
  have as0 := as_occupy_request (q : Int)
  have as1 := as_occupy_occupy (q : Int)
  go_wp2_with fail
  refine (cRefNo 1 _).mono ?_
  rintro e w3 ⟨rfl, hw⟩
  subst w3
  go_wp2_with fail
  clear g0 g1 g2 g3 g4 g5
  refine (CM _ HB hL0 (by omega)).mono ?_
  rintro e w3 ⟨rfl, hf, hl⟩
  have F1 := F0.trans hf
  clear hf F0 hL0 k0
  by_cases hc0 : occC p l (q : Int) = 0
  · have hE := hide (show endOf (occC p l (q : Int)) = .returned (.tuple #[]) by rw [hc0]; rfl)
    replace hc0 := hide hc0
    rw [hE.out]
    go_wp2
    go_end0
    exact ⟨hE.out.symm, F1, hl⟩
  · have hE := hide (endOf_refu hc0)
    rw [hE.out]
    go_wp2
    exact ⟨rfl, hE.out.symm, F1, hl⟩
set_option maxRecDepth 20000 in
set_option maxHeartbeats 3200000 in
theorem cDoVac (v : Int) (a b x y z : Option Addr) (ca cb cx cy cz lo hi : Nat) (p : PlantV) (l : LockV) (w0 w : World) (hP : PlantIn w0 a b p) (HB : Below w0.heap.size w0 w) (hhi : hi ≤ w.heap.size) (hL : LockOwn w lo hi x cx y cy z cz l) (hS : Small p) (hT : LSmall l) (h : lockOk p l = true) :
    Calls Try.prog 50 #[stVal a ca b cb p x cx y cy z cz l, stepVal .vac v] w fun e w' => e = endOf (vacC p l v) ∧ Far lo hi w w' ∧ LockOwn w' lo hi x cx y cy z cz (vacL p l v) := by
  have hF := lock_fits h
  have hm : ∀ w, (method 240 64 (.int .i64 v) "loop.example/g00075/impl.there").run Try.prog w = .ok (89, .int .i64 v) w := fun _ => by kernel_rfl
  have CL := fun w hP hL => cLockOkI a b x y z ca cb cx cy cz p l w hP hL hS hT
  have CR := fun w => cThVac a b ca cb p v w hF.ok.b1 hF.ok.b24
  rw [h] at CL
  unfold stepVal
  unfold stVal plantVal lockVal at *
  have hb0 := balloc w (.cells #[.slice a p.under.length ca, .int .i64 p.blocks, .slice b p.routes.length cb, .slice x l.pos.length cx, .slice y l.set.length cy, .slice z l.taken.length cz] 61)
  have k0 : (w.alloc (.cells #[.slice a p.under.length ca, .int .i64 p.blocks, .slice b p.routes.length cb, .slice x l.pos.length cx, .slice y l.set.length cy, .slice z l.taken.length cz] 61)).heap[w.heap.size]? = some (.cells #[.slice a p.under.length ca, .int .i64 p.blocks, .slice b p.routes.length cb, .slice x l.pos.length cx, .slice y l.set.length cy, .slice z l.taken.length cz] 61 (0, 0)) := new1
  have F0 := (Far.refl lo hi w).below hb0
  have hL0 := hL.below hb0
  have hsz := hb0.size
  replace HB := btrans HB hb0
  go_enter Try.func50, Try.ntmps50
  go_wp2_with fail
  refine (CL _ (hP.below HB) hL0.read).mono ?_
  rintro e w1 ⟨rfl, hb⟩
  replace F0 := F0.below hb
  replace hL0 := hL0.below hb
  replace HB := btrans HB hb
  replace k0 := blk_keep hb k0
  have hsz1 := hb.size
  clear hb hb0
  obtain ⟨g0, g1, g2, g3, g4, g5⟩ := blk6 k0
  go_wp2_with fail
  clear g0 g1 g2 g3 g4 g5
  refine (CR _).mono ?_
  rintro e w2 ⟨rfl, hb⟩
  replace F0 := F0.below hb
  replace hL0 := hL0.below hb
  replace HB := btrans HB hb
  replace k0 := blk_keep hb k0
  have hsz2 := hb.size
  clear hb CL CR hm
  cases hv : isBlock p v
  · have hC := hide (show vacC p l v = 1 by simp [vacC, hv])
    have hQ := hide (show vacL p l v = l by unfold vacL; rw [hC.out]; rfl)
    go_wp2_with fail
    refine (cRefYes 1 _).mono ?_
    rintro e w3 ⟨rfl, hw⟩
    subst w3
    go_wp2
    rw [hC.out, hQ.out]
    exact ⟨rfl, (endOf_refu (by decide)).symm, F0, hL0⟩
  obtain ⟨q, rfl⟩ := Int.eq_ofNat_of_zero_le (inB_true hv).1
  have hq := (inB_true hv).2
  have hqr : q < l.taken.length := by have := hF.taken; omega
  have CM : ∀ w2, Below w0.heap.size w0 w2 → LockOwn w2 lo hi x cx y cy z cz l → hi ≤ w2.heap.size → Calls Try.prog 62 #[stVal a ca b cb p x cx y cy z cz l, .int .i64 (q : Int)] w2 fun e w' => e = endOf (vacC p l (q : Int)) ∧ Far lo hi w2 w' ∧ LockOwn w' lo hi x cx y cy z cz (vacL p l (q : Int)) := fun w2 HB2 hL2 _ => by
    have hC : vacC p l (q : Int) = (bif l.taken.getD q false then 0 else 6) := by simp [vacC, h, hv]
    have hQ : vacL p l (q : Int) = (bif l.taken.getD q false then ⟨l.pos, l.set, l.taken.set q false⟩ else l) := by
      unfold vacL; rw [hC]; cases l.taken.getD q false <;> rfl
    rw [hC, hQ]
    exact cLeave a b x y z ca cb cx cy cz lo hi p l q w2 hL2 hT hqr
  unfold stVal at CM
  obtain ⟨g0, g1, g2, g3, g4, g5⟩ := blk6 k0
  have as0 := as_vacate_request (q : Int)
  have as1 := as_vacate_occupy (q : Int)
  have as2 := as_vacate_vacate (q : Int)
  go_wp2_with fail
  refine (cRefNo 1 _).mono ?_
  rintro e w3 ⟨rfl, hw⟩
  subst w3
  go_wp2_with fail
  clear g0 g1 g2 g3 g4 g5
  refine (CM _ HB hL0 (by omega)).mono ?_
  rintro e w3 ⟨rfl, hf, hl⟩
  have F1 := F0.trans hf
  clear hf F0 hL0 k0
  by_cases hc0 : vacC p l (q : Int) = 0
  · have hE := hide (show endOf (vacC p l (q : Int)) = .returned (.tuple #[]) by rw [hc0]; rfl)
    replace hc0 := hide hc0
    rw [hE.out]
    go_wp2
    go_end0
    exact ⟨hE.out.symm, F1, hl⟩
  · have hE := hide (endOf_refu hc0)
    rw [hE.out]
    go_wp2
    exact ⟨rfl, hE.out.symm, F1, hl⟩
end Go.Proofs.Ytpgjllefhlanpaa
