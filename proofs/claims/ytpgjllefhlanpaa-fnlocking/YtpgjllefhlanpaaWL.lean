/- The walk of FnLocking. -/
import Derived.Test.YtpgjllefhlanpaaDQ
import Derived.Test.YtpgjllefhlanpaaSM
import Derived.Test.YtpgjllefhlanpaaLU
import Derived.Test.YtpgjllefhlanpaaPC
import Derived.Deep.CutBlock
import Derived.Deep.DeepCutAuto
namespace Go.Proofs.Ytpgjllefhlanpaa
open Go.RowKit
/-- A locking's value by its lengths. -/
def lv (U R T : Nat) (x : Option Addr) (cx : Nat) (y : Option Addr) (cy : Nat) (z : Option Addr) (cz : Nat) : Value := .agg #[.slice x U cx, .slice y R cy, .slice z T cz]
/-- How the lists of a plant's lockings lie. -/
structure Lie (w : World) (bl : Nat) (x : Option Addr) (cx : Nat) (y : Option Addr) (cy : Nat) (z : Option Addr) (cz : Nat) (l : LockV) : Prop where
  own : ∃ lo hi, LockOwn w lo hi x cx y cy z cz l ∧ (bl < lo ∨ hi ≤ bl) ∧ hi ≤ w.heap.size
  px : Plain x cx
  py : Plain y cy
  pz : Plain z cz
theorem Lie.below {w w' : World} {bl cx cy cz : Nat} {x y z : Option Addr} {l : LockV} (h : Lie w bl x cx y cy z cz l) (hb : Below w.heap.size w w') : Lie w' bl x cx y cy z cz l := by
  obtain ⟨⟨lo, hi, h1, h2, h6⟩, h3, h4, h5⟩ := h
  exact ⟨⟨lo, hi, h1.below hb, h2, Nat.le_trans h6 hb.size⟩, h3, h4, h5⟩
theorem Lie.set {w : World} {bl i cx cy cz : Nat} {x y z : Option Addr} {l : LockV} {u : Value} (h : Lie w bl x cx y cy z cz l) : Lie (w.setCell ⟨bl, i, none⟩ u) bl x cx y cy z cz l := by
  obtain ⟨⟨lo, hi, h1, h2, h6⟩, h3, h4, h5⟩ := h
  exact ⟨⟨lo, hi, h1.setOut h2, h2, by simpa using h6⟩, h3, h4, h5⟩
/-- A block that came later is written into. -/
theorem Lie.new {w w2 : World} {bl cx cy cz : Nat} {x y z : Option Addr} {l : LockV} {u0 u1 u2 : Value} (h : Lie w bl x cx y cy z cz l) (hb : Below w.heap.size w w2) : Lie (((w2.setCell ⟨w.heap.size, 0, none⟩ u0).setCell ⟨w.heap.size, 1, none⟩ u1).setCell ⟨w.heap.size, 2, none⟩ u2) bl x cx y cy z cz l := by
  obtain ⟨⟨lo, hi, h1, h2, h6⟩, h3, h4, h5⟩ := h
  exact ⟨⟨lo, hi, (((h1.below hb).setOut (.inr h6)).setOut (.inr h6)).setOut (.inr h6), h2, by simpa using Nat.le_trans h6 hb.size⟩, h3, h4, h5⟩
theorem Lie.read {w : World} {bl cx cy cz : Nat} {x y z : Option Addr} {l : LockV} (h : Lie w bl x cx y cy z cz l) : LockIn w x y z l := by
  obtain ⟨⟨lo, hi, h1, h2⟩, h3, h4, h5⟩ := h
  exact h1.read
/-- Lists that a call has laid, in blocks from H on. -/
structure Got (w : World) (H : Nat) (x : Option Addr) (cx : Nat) (y : Option Addr) (cy : Nat) (z : Option Addr) (cz : Nat) (l : LockV) : Prop where
  own : ∃ lo hi, LockOwn w lo hi x cx y cy z cz l ∧ H ≤ lo ∧ hi ≤ w.heap.size
  px : Plain x cx
  py : Plain y cy
  pz : Plain z cz
theorem Got.set {w : World} {H g i cx cy cz : Nat} {x y z : Option Addr} {l : LockV} {u : Value} (h : Got w H x cx y cy z cz l) (hg : g < H) : Got (w.setCell ⟨g, i, none⟩ u) H x cx y cy z cz l := by
  obtain ⟨⟨lo, hi, h1, h2, h6⟩, h3, h4, h5⟩ := h
  exact ⟨⟨lo, hi, h1.setOut (.inl (by omega)), h2, by simpa using h6⟩, h3, h4, h5⟩
theorem Got.lie {w : World} {H bl cx cy cz : Nat} {x y z : Option Addr} {l : LockV} (h : Got w H x cx y cy z cz l) (hg : bl < H) : Lie w bl x cx y cy z cz l := by
  obtain ⟨⟨lo, hi, h1, h2, h6⟩, h3, h4, h5⟩ := h
  exact ⟨⟨lo, hi, h1, .inl (by omega), h6⟩, h3, h4, h5⟩
theorem lk_lk {p : PlantV} {os : List OpV} (h : plantOk p = true) (i : Nat) : Lk p (lk p os i) := Lk.run (Lk.bare h)
theorem lk_val {p : PlantV} {os : List OpV} (h : plantOk p = true) (i : Nat) (x : Option Addr) (cx : Nat) (y : Option Addr) (cy : Nat) (z : Option Addr) (cz : Nat) : lockVal x cx y cy z cz (lk p os i) = lv p.under.length p.routes.length p.blocks.toNat x cx y cy z cz := by
  have hf := (lk_lk (os := os) h i).fit
  have e : (lk p os i).taken.length = p.blocks.toNat := by have := hf.taken; omega
  unfold lockVal lv
  rw [hf.pos, hf.set, e]
/-- What an op answers. -/
def OpAns (p : PlantV) (os : List OpV) (i : Nat) (w : World) (e : Ending) (w' : World) : Prop :=
  ∃ x cx y cy z cz, e = .returned (.tuple #[lv p.under.length p.routes.length p.blocks.toNat x cx y cy z cz, .int .i64 (cd p os i)]) ∧ Got w' w.heap.size x cx y cy z cz (lk p os (i + 1)) ∧ Below w.heap.size w w'
theorem OpAns.of {p : PlantV} {os : List OpV} {i : Nat} {w w' : World} {e : Ending} {k : OpK} (hok : plantOk p = true) (hi : i < os.length) (hk : kindOf (os.getD i OpV.zero).kind = k)
    (h : ∃ x' cx' y' cy' z' cz', e = .returned (.tuple #[lockVal x' cx' y' cy' z' cz' (opL k p (lk p os i) (os.getD i OpV.zero).what), .int .i64 (opC k p (lk p os i) (os.getD i OpV.zero).what)]) ∧
      LockOwn w' w.heap.size w'.heap.size x' cx' y' cy' z' cz' (opL k p (lk p os i) (os.getD i OpV.zero).what) ∧ Plain x' cx' ∧ Plain y' cy' ∧ Plain z' cz' ∧ Below w.heap.size w w') : OpAns p os i w e w' := by
  subst hk
  rw [lk_step hi] at h
  obtain ⟨x, cx, y, cy, z, cz, h1, h2, h3, h4, h5, h6⟩ := h
  rw [lk_val hok] at h1
  exact ⟨x, cx, y, cy, z, cz, h1, ⟨⟨_, _, h2, Nat.le_refl _, Nat.le_refl _⟩, h3, h4, h5⟩, h6⟩
section
variable {p : PlantV} {os : List OpV} {i : Nat} (hok : plantOk p = true) (hi : i < os.length) {a b x y z : Option Addr} {ca cb cx cy cz bl : Nat} {w : World} (hP : PlantIn w a b p) (hL : Lie w bl x cx y cy z cz (lk p os i))
include hok hi hP hL
theorem opReq (hk : (os.getD i OpV.zero).kind = 0) : Calls Try.prog 10 #[plantVal a ca b cb p, lv p.under.length p.routes.length p.blocks.toNat x cx y cy z cz, .int .i64 (os.getD i OpV.zero).what] w (OpAns p os i w) := by
  rw [← lk_val (os := os) hok i]
  exact (cReqP _ a b x y z ca cb cx cy cz p _ w hP hL.read hL.px hL.py hL.pz (small_of hok) (lk_small hok (small_of hok) i)).mono fun e w' h => OpAns.of hok hi (by rw [hk]; rfl) h
theorem opOcc (hk : (os.getD i OpV.zero).kind = 1) : Calls Try.prog 11 #[plantVal a ca b cb p, lv p.under.length p.routes.length p.blocks.toNat x cx y cy z cz, .int .i64 (os.getD i OpV.zero).what] w (OpAns p os i w) := by
  rw [← lk_val (os := os) hok i]
  exact (cOccP _ a b x y z ca cb cx cy cz p _ w hP hL.read hL.px hL.py hL.pz (small_of hok) (lk_small hok (small_of hok) i)).mono fun e w' h => OpAns.of hok hi (by rw [hk]; rfl) h
theorem opVac (hk : (os.getD i OpV.zero).kind = 2) : Calls Try.prog 12 #[plantVal a ca b cb p, lv p.under.length p.routes.length p.blocks.toNat x cx y cy z cz, .int .i64 (os.getD i OpV.zero).what] w (OpAns p os i w) := by
  rw [← lk_val (os := os) hok i]
  exact (cVacP _ a b x y z ca cb cx cy cz p _ w hP hL.read hL.px hL.py hL.pz (small_of hok) (lk_small hok (small_of hok) i)).mono fun e w' h => OpAns.of hok hi (by rw [hk]; rfl) h
theorem opWd (hk : (os.getD i OpV.zero).kind = 3) : Calls Try.prog 13 #[plantVal a ca b cb p, lv p.under.length p.routes.length p.blocks.toNat x cx y cy z cz, .int .i64 (os.getD i OpV.zero).what] w (OpAns p os i w) := by
  rw [← lk_val (os := os) hok i]
  exact (cWdP _ a b x y z ca cb cx cy cz p _ w hP hL.read hL.px hL.py hL.pz (small_of hok) (lk_small hok (small_of hok) i)).mono fun e w' h => OpAns.of hok hi (by rw [hk]; rfl) h
end
/-- An op of no kind changes nothing, and its code is 1. -/
theorem no_kind {p : PlantV} {os : List OpV} {i : Nat} (hi : i < os.length) (h0 : (os.getD i OpV.zero).kind ≠ 0) (h1 : (os.getD i OpV.zero).kind ≠ 1) (h2 : (os.getD i OpV.zero).kind ≠ 2) (h3 : (os.getD i OpV.zero).kind ≠ 3) : lk p os (i + 1) = lk p os i ∧ cd p os i = 1 := by
  have e : kindOf (os.getD i OpV.zero).kind = .none := by unfold kindOf; rw [if_neg h0, if_neg h1, if_neg h2, if_neg h3]
  constructor
  · rw [← lk_step hi, e]; rfl
  · unfold cd; rw [e]; rfl
theorem lockOk_lk {p : PlantV} {os : List OpV} (h : plantOk p = true) (i : Nat) : lockOk p (lk p os i) = true := lk_iff.2 (lk_lk h i)
theorem cd_same {p : PlantV} {os : List OpV} {i : Nat} (hi : i < os.length) (h : cd p os i ≠ 0) : lk p os (i + 1) = lk p os i := by
  rw [← lk_step hi]; exact opL_same h
theorem cd_moves {p : PlantV} {os : List OpV} {i k : Nat} (h : plantOk p = true) (hi : i < os.length) (hm : (lk p os (i + 1)).pos.getD k 0 ≠ (lk p os i).pos.getD k 0) : (os.getD i OpV.zero).kind = 0 ∧ (lk p os i).taken.getD (p.under.getD k 0).toNat false = false := by
  rw [← lk_step hi] at hm
  obtain ⟨h1, h2⟩ := op_moves (lk_lk h i) hm
  refine ⟨?_, h2⟩
  unfold kindOf at h1
  by_cases e : (os.getD i OpV.zero).kind = 0
  · exact e
  · rw [if_neg e] at h1
    split at h1
    · cases h1
    · split at h1
      · cases h1
      · split at h1 <;> cases h1
theorem codes_get {p : PlantV} {os : List OpV} {i : Nat} (hi : i < os.length) : (cl p os os.length).getD i 0 = cd p os i := by
  unfold cl; rw [List.take_length, codes_at hi]; rfl
end Go.Proofs.Ytpgjllefhlanpaa
