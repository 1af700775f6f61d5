/- The program's ops on any right locking. -/
import Derived.Test.YtpgjllefhlanpaaDQ
import Derived.Test.YtpgjllefhlanpaaSM
import Derived.Test.YtpgjllefhlanpaaLU
import Derived.Test.YtpgjllefhlanpaaIB
import Derived.Test.YtpgjllefhlanpaaMR
import Derived.Deep.CutBlock
namespace Go.Proofs.Ytpgjllefhlanpaa
open Go.RowKit
def lv (U R T : Nat) (x : Option Addr) (cx : Nat) (y : Option Addr) (cy : Nat) (z : Option Addr) (cz : Nat) : Value := .agg #[.slice x U cx, .slice y R cy, .slice z T cz]
/-- A locking's lists, to be read; plain. -/
structure Lz (w : World) (x : Option Addr) (cx : Nat) (y : Option Addr) (cy : Nat) (z : Option Addr) (cz : Nat) (l : LockV) : Prop where
  inn : LockIn w x y z l
  px : Plain x cx
  py : Plain y cy
  pz : Plain z cz
theorem Lz.below {w w' : World} {cx cy cz : Nat} {x y z : Option Addr} {l : LockV} (h : Lz w x cx y cy z cz l) (hb : Below w.heap.size w w') : Lz w' x cx y cy z cz l := ⟨h.inn.below hb, h.px, h.py, h.pz⟩
theorem Lk.val {p : PlantV} {l : LockV} (h : Lk p l) (x : Option Addr) (cx : Nat) (y : Option Addr) (cy : Nat) (z : Option Addr) (cz : Nat) : lockVal x cx y cy z cz l = lv p.under.length p.routes.length p.blocks.toNat x cx y cy z cz := by
  have hf := h.fit
  have e : l.taken.length = p.blocks.toNat := by have := hf.taken; omega
  unfold lockVal lv
  rw [hf.pos, hf.set, e]
theorem Lk.small {p : PlantV} {l : LockV} (h : Lk p l) : LSmall l := by
  have hf := h.fit
  have := hf.ok.u16
  have := hf.ok.r12
  have := hf.ok.b24
  have := hf.pos
  have := hf.set
  have := hf.taken
  exact ⟨by omega, by omega, by omega⟩
/-- What an op answers. -/
def GAns (k : OpK) (p : PlantV) (l : LockV) (v : Int) (w : World) (e : Ending) (w' : World) : Prop :=
  ∃ x cx y cy z cz, e = .returned (.tuple #[lv p.under.length p.routes.length p.blocks.toNat x cx y cy z cz, .int .i64 (opC k p l v)]) ∧ Lz w' x cx y cy z cz (opL k p l v) ∧ Below w.heap.size w w'
theorem GAns.of {p : PlantV} {l : LockV} {v : Int} {w w' : World} {e : Ending} {k : OpK} (hl : Lk p l)
    (h : ∃ x' cx' y' cy' z' cz', e = .returned (.tuple #[lockVal x' cx' y' cy' z' cz' (opL k p l v), .int .i64 (opC k p l v)]) ∧
      LockOwn w' w.heap.size w'.heap.size x' cx' y' cy' z' cz' (opL k p l v) ∧ Plain x' cx' ∧ Plain y' cy' ∧ Plain z' cz' ∧ Below w.heap.size w w') : GAns k p l v w e w' := by
  obtain ⟨x, cx, y, cy, z, cz, h1, h2, h3, h4, h5, h6⟩ := h
  rw [(hl.op k v).val] at h1
  exact ⟨x, cx, y, cy, z, cz, h1, ⟨h2.read, h3, h4, h5⟩, h6⟩
section
variable {p : PlantV} {l : LockV} (hok : plantOk p = true) (hl : Lk p l) (v : Int) {a b x y z : Option Addr} {ca cb cx cy cz : Nat} {w : World} (hP : PlantIn w a b p) (hL : Lz w x cx y cy z cz l)
include hok hl hP hL
theorem gReq : Calls Try.prog 10 #[plantVal a ca b cb p, lv p.under.length p.routes.length p.blocks.toNat x cx y cy z cz, .int .i64 v] w (GAns .req p l v w) := by
  rw [← hl.val]
  exact (cReqP v a b x y z ca cb cx cy cz p _ w hP hL.inn hL.px hL.py hL.pz (small_of hok) hl.small).mono fun e w' h => GAns.of hl h
theorem gOcc : Calls Try.prog 11 #[plantVal a ca b cb p, lv p.under.length p.routes.length p.blocks.toNat x cx y cy z cz, .int .i64 v] w (GAns .occ p l v w) := by
  rw [← hl.val]
  exact (cOccP v a b x y z ca cb cx cy cz p _ w hP hL.inn hL.px hL.py hL.pz (small_of hok) hl.small).mono fun e w' h => GAns.of hl h
theorem gVac : Calls Try.prog 12 #[plantVal a ca b cb p, lv p.under.length p.routes.length p.blocks.toNat x cx y cy z cz, .int .i64 v] w (GAns .vac p l v w) := by
  rw [← hl.val]
  exact (cVacP v a b x y z ca cb cx cy cz p _ w hP hL.inn hL.px hL.py hL.pz (small_of hok) hl.small).mono fun e w' h => GAns.of hl h
theorem gWd : Calls Try.prog 13 #[plantVal a ca b cb p, lv p.under.length p.routes.length p.blocks.toNat x cx y cy z cz, .int .i64 v] w (GAns .wd p l v w) := by
  rw [← hl.val]
  exact (cWdP v a b x y z ca cb cx cy cz p _ w hP hL.inn hL.px hL.py hL.pz (small_of hok) hl.small).mono fun e w' h => GAns.of hl h
end
theorem gSame {p : PlantV} {l : LockV} (hl : Lk p l) {x y z x' y' z' : Option Addr} {cx cy cz cx' cy' cz' : Nat} {w : World} (h1 : Lz w x cx y cy z cz l) (h2 : Lz w x' cx' y' cy' z' cz' l) :
    Calls Try.prog 14 #[lv p.under.length p.routes.length p.blocks.toNat x cx y cy z cz, lv p.under.length p.routes.length p.blocks.toNat x' cx' y' cy' z' cz'] w fun e w' => e = .returned (.bool true) ∧ Below w.heap.size w w' := by
  rw [← hl.val, ← hl.val]
  exact cSameL x y z x' y' z' cx cy cz cx' cy' cz' l w h1.inn h2.inn hl.small
theorem gBare {p : PlantV} (hok : plantOk p = true) {a b : Option Addr} {ca cb : Nat} {w : World} (hP : PlantIn w a b p) :
    Calls Try.prog 7 #[plantVal a ca b cb p] w fun e w' => ∃ x cx y cy z cz, e = .returned (lv p.under.length p.routes.length p.blocks.toNat x cx y cy z cz) ∧ Lz w' x cx y cy z cz (bareOf p) ∧ Below w.heap.size w w' := by
  have e : bareL p = bareOf p := by unfold bareL; rw [hok]; rfl
  refine (cBareI a b ca cb p w hP (small_of hok)).mono ?_
  rintro _ w' ⟨x, cx, y, cy, z, cz, h1, h2, h3, h4, h5, h6⟩
  rw [e] at h1 h2
  rw [(Lk.bare hok).val] at h1
  exact ⟨x, cx, y, cy, z, cz, h1, ⟨h2.read, h3, h4, h5⟩, h6⟩
end Go.Proofs.Ytpgjllefhlanpaa
