/- The program's ops: vacate, withdraw, occupy. -/
import Derived.Test.YtpgjllefhlanpaaLM
namespace Go.Proofs.Ytpgjllefhlanpaa
open Go.RowKit
theorem endOf_refu {c : Int} (h : c ≠ 0) : endOf c = .panicked (refu c) := if_neg h
theorem Bools.bit {w : World} {a : Option Addr} {zs : List Bool} (h : Bools w a zs) {i : Nat} (hi : i < zs.length) : ∃ b off, a = some ⟨b, off, none⟩ ∧ w.cell? ⟨b, off + i, none⟩ = some (.bool (zs.getD i false)) := by
  rcases h with h | ⟨b, off, rfl, hc⟩
  · simp [h] at hi
  · exact ⟨b, off, rfl, hc i hi⟩

set_option maxRecDepth 20000 in
set_option maxHeartbeats 1600000 in
theorem cLeave (a b x y z : Option Addr) (ca cb cx cy cz lo hi : Nat) (p : PlantV) (l : LockV) (q : Nat) (w : World) (hL : LockOwn w lo hi x cx y cy z cz l) (hT : LSmall l) (hq : q < l.taken.length) :
    Calls Try.prog 62 #[stVal a ca b cb p x cx y cy z cz l, .int .i64 q] w fun e w' =>
      e = endOf (bif l.taken.getD q false then 0 else 6) ∧ Far lo hi w w' ∧ LockOwn w' lo hi x cx y cy z cz (bif l.taken.getD q false then ⟨l.pos, l.set, l.taken.set q false⟩ else l) := by
  have t3 := hT.taken
  have hb0 := balloc w (.cells #[.slice a p.under.length ca, .int .i64 p.blocks, .slice b p.routes.length cb, .slice x l.pos.length cx, .slice y l.set.length cy, .slice z l.taken.length cz] 61)
  have k0 : (w.alloc (.cells #[.slice a p.under.length ca, .int .i64 p.blocks, .slice b p.routes.length cb, .slice x l.pos.length cx, .slice y l.set.length cy, .slice z l.taken.length cz] 61)).heap[w.heap.size]? = some (.cells #[.slice a p.under.length ca, .int .i64 p.blocks, .slice b p.routes.length cb, .slice x l.pos.length cx, .slice y l.set.length cy, .slice z l.taken.length cz] 61 (0, 0)) := new1
  have hL0 := hL.below hb0
  obtain ⟨g, rfl, h1, h2, -, hf, hL1⟩ := hL0.putTaken hq false
  obtain ⟨g', off, he, hc⟩ := hL0.read.taken.bit hq
  simp only [Option.some.injEq, Addr.mk.injEq, and_true] at he
  obtain ⟨rfl, rfl⟩ := he
  rw [Nat.zero_add] at hc
  have F0 := (Far.refl lo hi w).below hb0
  have F1 := F0.set (o := q) (v := .bool false) h1 h2
  have hq' : (q : Int) < l.taken.length := by omega
  obtain ⟨g0, g1, g2, g3, g4, g5⟩ := blk6 k0
  generalize l.taken.getD q false = v at *
  unfold stVal
  cases v
  · clear hL1 F1
    go_enter Try.func62, Try.ntmps62
    go_wp2_with fail
    refine (cRefYes 6 _).mono ?_
    rintro e w1 ⟨rfl, hw⟩
    subst w1
    go_wp2
    exact ⟨rfl, (endOf_refu (by decide)).symm, F0, hL0⟩
  · go_enter Try.func62, Try.ntmps62
    go_wp2_with fail
    refine (cRefNo 6 _).mono ?_
    rintro e w1 ⟨rfl, hw⟩
    subst w1
    go_wp2
    go_end0
    exact ⟨endOf_zero.symm, F1, hL1⟩

set_option maxRecDepth 20000 in
set_option maxHeartbeats 1600000 in
theorem cUnset (a b x y z : Option Addr) (ca cb cx cy cz lo hi : Nat) (p : PlantV) (l : LockV) (r : Nat) (w : World) (hP : PlantIn w a b p) (hL : LockOwn w lo hi x cx y cy z cz l) (hS : Small p) (hT : LSmall l) (hF : Fits p l) (hr : r < p.routes.length) :
    Calls Try.prog 63 #[stVal a ca b cb p x cx y cy z cz l, .int .i64 r] w fun e w' =>
      e = endOf (bif l.set.getD r false then (bif held p l r then 4 else 0) else 6) ∧ Far lo hi w w' ∧ LockOwn w' lo hi x cx y cy z cz (bif l.set.getD r false && !held p l r then ⟨l.pos, l.set.set r false, l.taken⟩ else l) := by
  have t1 := hT.pos
  have t2 := hT.set
  have t3 := hT.taken
  have hb0 := balloc w (.cells #[.slice a p.under.length ca, .int .i64 p.blocks, .slice b p.routes.length cb, .slice x l.pos.length cx, .slice y l.set.length cy, .slice z l.taken.length cz] 61)
  have k0 : (w.alloc (.cells #[.slice a p.under.length ca, .int .i64 p.blocks, .slice b p.routes.length cb, .slice x l.pos.length cx, .slice y l.set.length cy, .slice z l.taken.length cz] 61)).heap[w.heap.size]? = some (.cells #[.slice a p.under.length ca, .int .i64 p.blocks, .slice b p.routes.length cb, .slice x l.pos.length cx, .slice y l.set.length cy, .slice z l.taken.length cz] 61 (0, 0)) := new1
  have hL0 := hL.below hb0
  have hrs : r < l.set.length := by rw [hF.set]; exact hr
  have CH := fun w1 hP hz => cHeldI a b x y z ca cb cx cy cz p l r w1 hP hz hS hF hr
  obtain ⟨g', off, rfl, hc⟩ := hL0.read.set.bit hrs
  have F0 := (Far.refl lo hi w).below hb0
  have hr' : (r : Int) < l.set.length := by omega
  obtain ⟨g0, g1, g2, g3, g4, g5⟩ := blk6 k0
  generalize l.set.getD r false = v at *
  generalize held p l r = hd at *
  unfold stVal at *
  cases v
  · clear CH
    go_enter Try.func63, Try.ntmps63
    go_wp2_with fail
    refine (cRefYes 6 _).mono ?_
    rintro e w1 ⟨rfl, hw⟩
    subst w1
    go_wp2
    exact ⟨rfl, (endOf_refu (by decide)).symm, F0, hL0⟩
  · go_enter Try.func63, Try.ntmps63
    go_wp2_with fail
    refine (cRefNo 6 _).mono ?_
    rintro e w1 ⟨rfl, hw⟩
    subst w1
    go_wp2_with fail
    refine (CH _ (hP.below hb0) (hL0.read.taken)).mono ?_
    rintro e w1 ⟨rfl, hb1⟩
    have hL1 := hL0.below hb1
    replace F0 := F0.below hb1
    replace k0 := blk_keep hb1 k0
    obtain ⟨gs, he, h1, h2, ⟨u, hu⟩, hf, hL2⟩ := hL1.putSet hrs false
    simp only [Option.some.injEq, Addr.mk.injEq, and_true] at he
    obtain ⟨rfl, rfl⟩ := he
    have F1 := F0.set (o := r) (v := .bool false) h1 h2
    clear g0 g1 g2 g3 g4 g5 hb1 hc
    cases hd
    · obtain ⟨g0, g1, g2, g3, g4, g5⟩ := blk6 k0
      go_wp2_with fail
      refine (cRefNo 4 _).mono ?_
      rintro e w2 ⟨rfl, hw⟩
      subst w2
      go_wp2
      go_end0
      exact ⟨endOf_zero.symm, F1, hL2⟩
    · go_wp2_with fail
      refine (cRefYes 4 _).mono ?_
      rintro e w2 ⟨rfl, hw⟩
      subst w2
      go_wp2
      exact ⟨rfl, (endOf_refu (by decide)).symm, F0, hL1⟩

set_option maxRecDepth 20000 in
set_option maxHeartbeats 1600000 in
theorem cEnter (a b x y z : Option Addr) (ca cb cx cy cz lo hi : Nat) (p : PlantV) (l : LockV) (q : Nat) (w : World) (hP : PlantIn w a b p) (hL : LockOwn w lo hi x cx y cy z cz l) (hS : Small p) (hT : LSmall l) (hF : Fits p l) (hq : q < l.taken.length) :
    Calls Try.prog 61 #[stVal a ca b cb p x cx y cy z cz l, .int .i64 q] w fun e w' =>
      e = endOf (bif l.taken.getD q false then 4 else bif reached p l (q : Int) then 0 else 6) ∧ Far lo hi w w' ∧ LockOwn w' lo hi x cx y cy z cz (bif !l.taken.getD q false && reached p l (q : Int) then ⟨l.pos, l.set, l.taken.set q true⟩ else l) := by
  have t1 := hT.pos
  have t2 := hT.set
  have t3 := hT.taken
  have hb0 := balloc w (.cells #[.slice a p.under.length ca, .int .i64 p.blocks, .slice b p.routes.length cb, .slice x l.pos.length cx, .slice y l.set.length cy, .slice z l.taken.length cz] 61)
  have k0 : (w.alloc (.cells #[.slice a p.under.length ca, .int .i64 p.blocks, .slice b p.routes.length cb, .slice x l.pos.length cx, .slice y l.set.length cy, .slice z l.taken.length cz] 61)).heap[w.heap.size]? = some (.cells #[.slice a p.under.length ca, .int .i64 p.blocks, .slice b p.routes.length cb, .slice x l.pos.length cx, .slice y l.set.length cy, .slice z l.taken.length cz] 61 (0, 0)) := new1
  have hL0 := hL.below hb0
  have CH := fun w1 hP hy => cReachedI a b x y z ca cb cx cy cz p l (q : Int) w1 hP hy hS hF
  obtain ⟨g', off, rfl, hc⟩ := hL0.read.taken.bit hq
  have F0 := (Far.refl lo hi w).below hb0
  have hq' : (q : Int) < l.taken.length := by omega
  obtain ⟨g0, g1, g2, g3, g4, g5⟩ := blk6 k0
  generalize l.taken.getD q false = v at *
  generalize reached p l (q : Int) = hd at *
  unfold stVal at *
  cases v
  rotate_left
  · clear CH
    go_enter Try.func61, Try.ntmps61
    go_wp2_with fail
    refine (cRefYes 4 _).mono ?_
    rintro e w1 ⟨rfl, hw⟩
    subst w1
    go_wp2
    exact ⟨rfl, (endOf_refu (by decide)).symm, F0, hL0⟩
  · go_enter Try.func61, Try.ntmps61
    go_wp2_with fail
    refine (cRefNo 4 _).mono ?_
    rintro e w1 ⟨rfl, hw⟩
    subst w1
    go_wp2_with fail
    refine (CH _ (hP.below hb0) (hL0.read.set)).mono ?_
    rintro e w1 ⟨rfl, hb1⟩
    have hL1 := hL0.below hb1
    replace F0 := F0.below hb1
    replace k0 := blk_keep hb1 k0
    obtain ⟨gs, he, h1, h2, ⟨u, hu⟩, hf, hL2⟩ := hL1.putTaken hq true
    simp only [Option.some.injEq, Addr.mk.injEq, and_true] at he
    obtain ⟨rfl, rfl⟩ := he
    have F1 := F0.set (o := q) (v := .bool true) h1 h2
    clear g0 g1 g2 g3 g4 g5 hb1 hc
    cases hd
    rotate_left
    · obtain ⟨g0, g1, g2, g3, g4, g5⟩ := blk6 k0
      go_wp2_with fail
      refine (cRefNo 6 _).mono ?_
      rintro e w2 ⟨rfl, hw⟩
      subst w2
      go_wp2
      go_end0
      exact ⟨endOf_zero.symm, F1, hL2⟩
    · go_wp2_with fail
      refine (cRefYes 6 _).mono ?_
      rintro e w2 ⟨rfl, hw⟩
      subst w2
      go_wp2
      exact ⟨rfl, (endOf_refu (by decide)).symm, F0, hL1⟩
end Go.Proofs.Ytpgjllefhlanpaa
