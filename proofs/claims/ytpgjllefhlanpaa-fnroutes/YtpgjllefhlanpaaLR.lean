/- The program's do, of every kind; copies; what is done when a refusal comes up. -/
import Derived.Test.YtpgjllefhlanpaaLQ
import Derived.Lib.SliceRun
import Derived.Recover
import Derived.Deep.RegionHeld3
namespace Go.Proofs.Ytpgjllefhlanpaa
open Go.RowKit

set_option maxRecDepth 20000 in
set_option maxHeartbeats 1600000 in
theorem cDoNone (v : Int) (a b x y z : Option Addr) (ca cb cx cy cz lo hi : Nat) (p : PlantV) (l : LockV) (w : World) (hP : PlantIn w a b p) (hL : LockOwn w lo hi x cx y cy z cz l) (hS : Small p) (hT : LSmall l) (h : lockOk p l = true) :
    Calls Try.prog 50 #[stVal a ca b cb p x cx y cy z cz l, stepVal .none v] w fun e w' => e = endOf 1 ∧ Far lo hi w w' ∧ LockOwn w' lo hi x cx y cy z cz l := by
  have hm : ∀ w, (method 240 87 (.agg #[]) "loop.example/g00075/impl.there").run Try.prog w = .ok (91, .agg #[]) w := fun _ => by kernel_rfl
  have CL := fun w hP hL => cLockOkI a b x y z ca cb cx cy cz p l w hP hL hS hT
  have CR := fun w => cThNone a b ca cb p w
  rw [h] at CL
  unfold stepVal
  unfold stVal plantVal lockVal at *
  have hb0 := balloc w (.cells #[.slice a p.under.length ca, .int .i64 p.blocks, .slice b p.routes.length cb, .slice x l.pos.length cx, .slice y l.set.length cy, .slice z l.taken.length cz] 61)
  have k0 : (w.alloc (.cells #[.slice a p.under.length ca, .int .i64 p.blocks, .slice b p.routes.length cb, .slice x l.pos.length cx, .slice y l.set.length cy, .slice z l.taken.length cz] 61)).heap[w.heap.size]? = some (.cells #[.slice a p.under.length ca, .int .i64 p.blocks, .slice b p.routes.length cb, .slice x l.pos.length cx, .slice y l.set.length cy, .slice z l.taken.length cz] 61 (0, 0)) := new1
  have F0 := (Far.refl lo hi w).below hb0
  have hL0 := hL.below hb0
  go_enter Try.func50, Try.ntmps50
  go_wp2_with fail
  refine (CL _ (hP.below hb0) hL0.read).mono ?_
  rintro e w1 ⟨rfl, hb⟩
  replace F0 := F0.below hb
  replace hL0 := hL0.below hb
  replace k0 := blk_keep hb k0
  clear hb hb0
  obtain ⟨g0, g1, g2, g3, g4, g5⟩ := blk6 k0
  go_wp2_with fail
  clear g0 g1 g2 g3 g4 g5
  refine (CR _).mono ?_
  rintro e w2 ⟨rfl, hb⟩
  replace F0 := F0.below hb
  replace hL0 := hL0.below hb
  clear hb CL CR hm k0
  go_wp2_with fail
  refine (cRefYes 1 _).mono ?_
  rintro e w3 ⟨rfl, hw⟩
  subst w3
  go_wp2
  exact ⟨rfl, (endOf_refu (by decide)).symm, F0, hL0⟩

theorem op_bad {k : OpK} {p : PlantV} {l : LockV} {v : Int} (h : lockOk p l = false) : opC k p l v = 1 ∧ opL k p l v = l := by
  cases k <;> simp [opC, opL, reqC, occC, vacC, wdC, reqL, occL, vacL, wdL, h]
theorem cDo (k : OpK) (v : Int) (a b x y z : Option Addr) (ca cb cx cy cz lo hi : Nat) (p : PlantV) (l : LockV) (w0 w : World) (hP : PlantIn w0 a b p) (HB : Below w0.heap.size w0 w) (hlo : w0.heap.size ≤ lo) (hhi : hi ≤ w.heap.size) (hL : LockOwn w lo hi x cx y cy z cz l) (hS : Small p) (hT : LSmall l) :
    Calls Try.prog 50 #[stVal a ca b cb p x cx y cy z cz l, stepVal k v] w fun e w' => e = endOf (opC k p l v) ∧ Far lo hi w w' ∧ LockOwn w' lo hi x cx y cy z cz (opL k p l v) := by
  cases h : lockOk p l
  · rw [(op_bad h).1, (op_bad h).2]
    exact cDoBad k v a b x y z ca cb cx cy cz lo hi p l w (hP.below HB) hL hS hT h
  · cases k with
    | req => exact cDoReq v a b x y z ca cb cx cy cz lo hi p l w0 w hP HB hlo hhi hL hS hT h
    | occ => exact cDoOcc v a b x y z ca cb cx cy cz lo hi p l w0 w hP HB hhi hL hS hT h
    | vac => exact cDoVac v a b x y z ca cb cx cy cz lo hi p l w0 w hP HB hhi hL hS hT h
    | wd => exact cDoWd v a b x y z ca cb cx cy cz lo hi p l w0 w hP HB hhi hL hS hT h
    | none => exact cDoNone v a b x y z ca cb cx cy cz lo hi p l w (hP.below HB) hL hS hT h

/-- An address that a slice may have: none with no room, or plain. -/
def Plain (a : Option Addr) (c : Nat) : Prop := (a = none → c = 0) ∧ ∀ x, a = some x → x.spot = none
theorem ints_cells {w : World} {b off : Nat} {zs : List Int} (h : Ints w (some ⟨b, off, none⟩) zs) : ∀ j u, (zs.map (Value.int .i64))[j]? = some u → w.cell? ((⟨b, off, none⟩ : Addr).add j) = some u := by
  intro j u hu
  rcases h with rfl | ⟨b', off', he, hc⟩
  · simp at hu
  · simp only [Option.some.injEq, Addr.mk.injEq, and_true] at he
    obtain ⟨rfl, rfl⟩ := he
    have hj : j < zs.length := by
      by_cases hj : j < zs.length
      · exact hj
      · rw [List.getElem?_eq_none (by simpa using hj)] at hu; cases hu
    rw [List.getElem?_eq_getElem (by simpa using hj), List.getElem_map] at hu
    have e0 : zs.getD j 0 = zs[j] := by simp [List.getD, hj]
    have := hc j hj
    rw [e0] at this
    cases hu
    by_cases h0 : j = 0
    · subst h0; simpa [Addr.add] using this
    · simpa [Addr.add, h0] using this
theorem bools_cells {w : World} {b off : Nat} {zs : List Bool} (h : Bools w (some ⟨b, off, none⟩) zs) : ∀ j u, (zs.map Value.bool)[j]? = some u → w.cell? ((⟨b, off, none⟩ : Addr).add j) = some u := by
  intro j u hu
  rcases h with rfl | ⟨b', off', he, hc⟩
  · simp at hu
  · simp only [Option.some.injEq, Addr.mk.injEq, and_true] at he
    obtain ⟨rfl, rfl⟩ := he
    have hj : j < zs.length := by
      by_cases hj : j < zs.length
      · exact hj
      · rw [List.getElem?_eq_none (by simpa using hj)] at hu; cases hu
    rw [List.getElem?_eq_getElem (by simpa using hj), List.getElem_map] at hu
    have e0 : zs.getD j false = zs[j] := by simp [List.getD, hj]
    have := hc j hj
    rw [e0] at this
    cases hu
    by_cases h0 : j = 0
    · subst h0; simpa [Addr.add] using this
    · simpa [Addr.add, h0] using this
theorem info_parts2 {t : TypeId} {z : Value} {n m : Nat} (h : (Try.prog.info? t).map (fun i => (i.zero, i.size, i.bytes)) = some (some z, n, m)) : ∃ i0, Try.prog.info? t = some i0 ∧ i0.zero = some z ∧ i0.size = n ∧ i0.bytes = m := by
  cases hi : Try.prog.info? t with
  | none => rw [hi] at h; cases h
  | some i0 => rw [hi] at h; simp at h; exact ⟨i0, rfl, h.1, h.2.1, h.2.2⟩
theorem own_plain {w : World} {base e sz n c : Nat} {a : Option Addr} {xs : List Value} (h : w.ownsRow base e sz (.slice a n c) n xs) : Plain a c := by
  rcases h.2 with ⟨he, _⟩ | ⟨g, cap', cur, he, _⟩
  · simp only [Value.slice.injEq] at he; obtain ⟨rfl, _, rfl⟩ := he; exact ⟨fun _ => rfl, (fun x h => by cases h)⟩
  · simp only [Value.slice.injEq] at he; obtain ⟨rfl, _, rfl⟩ := he; exact ⟨(fun h => by cases h), (fun x h => by cases h; rfl)⟩

set_option maxRecDepth 20000 in
set_option maxHeartbeats 800000 in
theorem cCloneInts (a : Option Addr) (cap : Nat) (zs : List Int) (w : World) (he : Ints w a zs) (hp : Plain a cap) (hl : zs.length ≤ 1048576) :
    Calls Try.prog 47 #[.slice a zs.length cap] w fun e w' => ∃ v, e = .returned v ∧
      w'.ownsRow w.heap.size 3 1 v zs.length (zs.map (Value.int .i64)) ∧ Below w.heap.size w w' := by
  obtain ⟨ha, hspot⟩ := hp
  cases a with
  | none =>
    have h0 : zs = [] := by
      rcases he with h | ⟨b, off, h, _⟩
      · exact h
      · cases h
    subst h0
    obtain rfl := ha rfl
    have hq : ∀ w, (binOp .eql 24 (.slice none 0 0) (.slice none 0 0)).run Try.prog w = .ok (.bool true) w := fun w => Go.Lib.run_eql_slice_nil w _ _ none 0 0 0 0 Try.underlying24
    go_enter Try.func47, Try.ntmps47
    go_wp2
    go_ret
    exact ⟨_, rfl, World.ownsRow_nil _ _ _ _, Below.refl _ _⟩
  | some x =>
    obtain ⟨b, off, spot⟩ := x
    obtain rfl : spot = none := hspot _ rfl
    obtain ⟨i0, hi, hz0, hz1, hz2⟩ := info_parts2 infoInts
    have hq : ∀ w, (binOp .eql 24 (.slice (some ⟨b, off, none⟩) zs.length cap) (.slice none 0 0)).run Try.prog w = .ok (.bool false) w := fun w => Go.Lib.run_eql_slice_nil w _ _ (some ⟨b, off, none⟩) zs.length cap 0 0 Try.underlying24
    have hc := ints_cells (he.below (balloc w (.cells #[] 3)))
    go_enter Try.func47, Try.ntmps47
    go_wp2_with (at_builtin; refine wpList_append_own _ rfl _ _ 24 rfl w.heap.size 3 i0 (.int .i64 0) 1 8 Try.underlying24 hi hz0 hz1 hz2 rfl (by decide) _ 0 [] rfl (World.ownsRow_made _ #[] 0 (Nat.le_refl _) (by omega) rfl) ⟨b, off, none⟩ zs.length cap (zs.map (Value.int .i64)) rfl (by simp) hc ?c2 ?c3 ?c4 ?c5 ?_)
    case c2 => intro u hu; obtain ⟨q, _, rfl⟩ := List.mem_map.1 hu; rfl
    case c3 => unfold maxLen; omega
    case c4 => omega
    case c5 => simp
    intro v' w5 hown' hgrow _
    have hbel : Below w.heap.size w w5 := (balloc w _).grown hgrow (by simp) (fun j e => by simp [Value.ownBlock] at e; omega)
    clear hgrow
    go_wp2
    go_ret
    exact ⟨_, rfl, hown', hbel⟩

set_option maxRecDepth 20000 in
set_option maxHeartbeats 800000 in
theorem cCloneBools (a : Option Addr) (cap : Nat) (zs : List Bool) (w : World) (he : Bools w a zs) (hp : Plain a cap) (hl : zs.length ≤ 1048576) :
    Calls Try.prog 48 #[.slice a zs.length cap] w fun e w' => ∃ v, e = .returned v ∧
      w'.ownsRow w.heap.size 4 1 v zs.length (zs.map (Value.bool)) ∧ Below w.heap.size w w' := by
  obtain ⟨ha, hspot⟩ := hp
  cases a with
  | none =>
    have h0 : zs = [] := by
      rcases he with h | ⟨b, off, h, _⟩
      · exact h
      · cases h
    subst h0
    obtain rfl := ha rfl
    have hq : ∀ w, (binOp .eql 31 (.slice none 0 0) (.slice none 0 0)).run Try.prog w = .ok (.bool true) w := fun w => Go.Lib.run_eql_slice_nil w _ _ none 0 0 0 0 Try.underlying31
    go_enter Try.func48, Try.ntmps48
    go_wp2
    go_ret
    exact ⟨_, rfl, World.ownsRow_nil _ _ _ _, Below.refl _ _⟩
  | some x =>
    obtain ⟨b, off, spot⟩ := x
    obtain rfl : spot = none := hspot _ rfl
    obtain ⟨i0, hi, hz0, hz1, hz2⟩ := info_parts2 infoBools
    have hq : ∀ w, (binOp .eql 31 (.slice (some ⟨b, off, none⟩) zs.length cap) (.slice none 0 0)).run Try.prog w = .ok (.bool false) w := fun w => Go.Lib.run_eql_slice_nil w _ _ (some ⟨b, off, none⟩) zs.length cap 0 0 Try.underlying31
    have hc := bools_cells (he.below (balloc w (.cells #[] 4)))
    go_enter Try.func48, Try.ntmps48
    go_wp2_with (at_builtin; refine wpList_append_own _ rfl _ _ 31 rfl w.heap.size 4 i0 (.bool false) 1 1 Try.underlying31 hi hz0 hz1 hz2 rfl (by decide) _ 0 [] rfl (World.ownsRow_made _ #[] 0 (Nat.le_refl _) (by omega) rfl) ⟨b, off, none⟩ zs.length cap (zs.map (Value.bool)) rfl (by simp) hc ?c2 ?c3 ?c4 ?c5 ?_)
    case c2 => intro u hu; obtain ⟨q, _, rfl⟩ := List.mem_map.1 hu; rfl
    case c3 => unfold maxLen; omega
    case c4 => omega
    case c5 => simp
    intro v' w5 hown' hgrow _
    have hbel : Below w.heap.size w w5 := (balloc w _).grown hgrow (by simp) (fun j e => by simp [Value.ownBlock] at e; omega)
    clear hgrow
    go_wp2
    go_ret
    exact ⟨_, rfl, hown', hbel⟩

/-- What is done when a refusal comes up: its code is laid. -/
theorem as_refusal (c : Int) (w : World) : (Instr.typeAssert (.iface 83 (.agg #[.int .i64 c])) 20 83 true).run Try.prog w = .ok (.tuple #[.agg #[.int .i64 c], .bool true]) w := by kernel_rfl
theorem as_nothing (w : World) : (Instr.typeAssert .nilIface 20 83 true).run Try.prog w = .ok (.tuple #[.agg #[.int .i64 0], .bool false]) w := by kernel_rfl

set_option maxHeartbeats 1600000 in
theorem cCatch (g : Nat) (u c : Int) (older : List PanicEntry) (w : World) (hc : w.cell? ⟨g, 0, none⟩ = some (.int .i64 u)) (hz : w.frozen? ⟨g, 0, none⟩ = false) :
    CallsD Try.prog 49 #[.pointer (some ⟨g, 0, none⟩)] (.panicking ({ v := .iface 83 (.agg #[.int .i64 c]), recovered := false } :: older)) w fun e u' w' =>
      e = .returned (.tuple #[]) ∧ u' = .panicking ({ v := .iface 83 (.agg #[.int .i64 c]), recovered := true } :: older) ∧ w' = (w.alloc (.cells #[.int .i64 c] 83)).setCell ⟨g, 0, none⟩ (.int .i64 c) := by
  have h1 := as_refusal c
  have hg := cell_lt hc
  have hc2 := ble (balloc w (.cells #[.int .i64 c] 83)) hc
  have hz2 : (w.alloc (.cells #[.int .i64 c] 83)).frozen? ⟨g, 0, none⟩ = false := ((bcell (balloc w (.cells #[.int .i64 c] 83))).2 g 0 hg).trans hz
  refine callsD_of_wpS Try.func49 rfl fun c₀ cs hu => ?_
  apply wpS_seq
  apply wpS_region
  simp [wpOpsS, go_sem, recoverD, hu, Try.ntmps49, Exit.thenS, h1]
  apply wpS_seq
  apply wpS_region
  simp [wpOpsS, go_sem, Exit.thenS]
  refine wpS_cond (t := true) (by simp [Act.eval]) ?_
  simp only [if_true]
  apply wpS_region
  simp [wpOpsS, go_sem, hc2, hz2, bodyPostS, results, Try.results49]

set_option maxHeartbeats 1600000 in
theorem cCalm (g : Nat) (w : World) :
    CallsD Try.prog 49 #[.pointer (some ⟨g, 0, none⟩)] .returning w fun e u' w' => e = .returned (.tuple #[]) ∧ u' = .returning ∧ w' = w.alloc (.cells #[.int .i64 0] 83) := by
  have h1 := as_nothing
  refine callsD_of_wpS Try.func49 rfl fun c₀ cs hu => ?_
  apply wpS_seq
  apply wpS_region
  simp [wpOpsS, go_sem, recoverD, hu, Try.ntmps49, Exit.thenS, h1]
  apply wpS_seq
  apply wpS_region
  simp [wpOpsS, go_sem, Exit.thenS]
  refine wpS_cond (t := false) (by simp [Act.eval]) ?_
  simp only [Bool.false_eq_true, if_false]
  refine wpS_of_wp (wp_skip ?_)
  cases c₀
  simp_all [bodyPostS, results, Try.results49]
end Go.Proofs.Ytpgjllefhlanpaa
