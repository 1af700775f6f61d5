/- Complex numbers as pairs of floats: the operations of program and model, by what their floats stand for. -/
import Derived.Test.YtapnidhokpkmdaaA
import Derived.Test.YtapnidhokpkmdaaFX
import Derived.Deep.RegionHeld3
namespace Go.Proofs.Ytapnidhokpkmdaa
open Go.RowKit Fl

theorem run_store_float (P : Program) (w : World) (a : Addr) (m : Mode) (k : FloatKind) (n : Nat) : (store a (.float k n) m).run P w = stored P w a (.float k n) m := run_store P w a _ m rfl
theorem ret_fl {a b : Nat} (h : a = b) : Ending.returned (.float .f64 a) = .returned (.float .f64 b) := by rw [h]
attribute [local go_sem] run_store_float

theorem keepB {w w' : World} {b : Nat} {o : Obj} (hb : Below w.heap.size w w') (h : w.heap[b]? = some o) : w'.heap[b]? = some o := (hb.block b (lt_of_block h)).trans h
theorem one_block (w : World) (o : Obj) : (w.alloc o).heap[w.heap.size]? = some o := by
  show (w.heap.push o)[w.heap.size]? = _
  rw [Array.getElem?_push, if_pos rfl]
theorem twoB (w : World) (o1 o2 : Obj) : ((w.alloc o1).alloc o2).heap[w.heap.size]? = some o1 ∧ ((w.alloc o1).alloc o2).heap[w.heap.size + 1]? = some o2 := by
  refine ⟨?_, ?_⟩
  · show ((w.heap.push o1).push o2)[w.heap.size]? = _
    rw [Array.getElem?_push, if_neg (by simp), Array.getElem?_push, if_pos rfl]
  · show ((w.heap.push o1).push o2)[w.heap.size + 1]? = _
    rw [Array.getElem?_push, if_pos (by simp)]
theorem threeB (w : World) (o1 o2 o3 : Obj) : (((w.alloc o1).alloc o2).alloc o3).heap[w.heap.size]? = some o1 ∧ (((w.alloc o1).alloc o2).alloc o3).heap[w.heap.size + 1]? = some o2 ∧ (((w.alloc o1).alloc o2).alloc o3).heap[w.heap.size + 1 + 1]? = some o3 := by
  obtain ⟨h1, h2⟩ := twoB w o1 o2
  refine ⟨keepB (balloc _ _) h1, keepB (balloc _ _) h2, ?_⟩
  have := one_block ((w.alloc o1).alloc o2) o3
  rwa [sz1, sz1] at this
theorem twoC {w : World} {b : Nat} {c0 c1 : Value} {t : TypeId} (h : w.heap[b]? = some (.cells #[c0, c1] t (0, 0))) :
    (w.cell? ⟨b, 0, none⟩ = some c0 ∧ w.cell? ⟨b, 1, none⟩ = some c1) ∧ w.frozen? ⟨b, 0, none⟩ = false ∧ w.frozen? ⟨b, 1, none⟩ = false :=
  ⟨⟨Go.Joins.cell_of_block h 0, Go.Joins.cell_of_block h 1⟩, Go.Joins.unfrozen_of_block h 0, Go.Joins.unfrozen_of_block h 1⟩
structure ZV where
  re : Nat
  im : Nat
  deriving DecidableEq
def ZV.zero : ZV := ⟨0, 0⟩
def ZV.val (z : ZV) : Value := .agg #[.float .f64 z.re, .float .f64 z.im]
def ZV.cx (z : ZV) : Value := .complex .f64 z.re z.im
/-- What a number stands for, part by part. -/
abbrev C2 := Option Nat × Option Nat
def ZV.c (z : ZV) : C2 := (cl z.re, cl z.im)
def zadd (a b : C2) : C2 := (zo .add a.1 b.1, zo .add a.2 b.2)
def zsub (a b : C2) : C2 := (zo .sub a.1 b.1, zo .sub a.2 b.2)
def zmul (a b : C2) : C2 := (zo .sub (zo .mul a.1 b.1) (zo .mul a.2 b.2), zo .add (zo .mul a.1 b.2) (zo .mul a.2 b.1))
def zsize (a : C2) : Option Nat := zo .add (zo .mul a.1 a.1) (zo .mul a.2 a.2)
def zdiv (a b : C2) : C2 := (zo .quo (zo .add (zo .mul a.1 b.1) (zo .mul a.2 b.2)) (zsize b), zo .quo (zo .sub (zo .mul a.2 b.1) (zo .mul a.1 b.2)) (zsize b))

theorem fadd_run (x y : Nat) (t : TypeId) (w : World) : (binOp .add t (.float .f64 x) (.float .f64 y)).run Try.prog w = .ok (.float .f64 (fr .add x y w)) (w.drewN (nd .add x y)) := run_fop .add (.inl rfl) x y t w
theorem fsub_run (x y : Nat) (t : TypeId) (w : World) : (binOp .sub t (.float .f64 x) (.float .f64 y)).run Try.prog w = .ok (.float .f64 (fr .sub x y w)) (w.drewN (nd .sub x y)) := run_fop .sub (.inr (.inl rfl)) x y t w
theorem fmul_run (x y : Nat) (t : TypeId) (w : World) : (binOp .mul t (.float .f64 x) (.float .f64 y)).run Try.prog w = .ok (.float .f64 (fr .mul x y w)) (w.drewN (nd .mul x y)) := run_fop .mul (.inr (.inr (.inl rfl))) x y t w
theorem fquo_run (x y : Nat) (t : TypeId) (w : World) : (binOp .quo t (.float .f64 x) (.float .f64 y)).run Try.prog w = .ok (.float .f64 (fr .quo x y w)) (w.drewN (nd .quo x y)) := run_fop .quo (.inr (.inr (.inr rfl))) x y t w
theorem cadd_run (a b c d : Nat) (t : TypeId) (w : World) : (binOp .add t (.complex .f64 a b) (.complex .f64 c d)).run Try.prog w = .ok (.complex .f64 (fr .add a c w) (fr .add b d (w.drewN (nd .add a c)))) (w.drewN (nd .add a c + nd .add b d)) := run_csum .add (.inl rfl) a b c d t w
theorem csub_run (a b c d : Nat) (t : TypeId) (w : World) : (binOp .sub t (.complex .f64 a b) (.complex .f64 c d)).run Try.prog w = .ok (.complex .f64 (fr .sub a c w) (fr .sub b d (w.drewN (nd .sub a c)))) (w.drewN (nd .sub a c + nd .sub b d)) := run_csum .sub (.inr rfl) a b c d t w

set_option maxHeartbeats 400000 in
theorem cTimes (x y : Nat) (w : World) : Calls Try.prog 65 #[.float .f64 x, .float .f64 y] w fun e w' => ∃ r m, e = .returned (.float .f64 r) ∧ cl r = zo .mul (cl x) (cl y) ∧ w' = w.drewN m := by
  have M := fmul_run x y
  go_enter Try.func65, Try.ntmps65
  go_wp2
  go_ret
  exact ⟨_, _, rfl, cl_fr .mul x y w, rfl⟩

set_option maxHeartbeats 400000 in
theorem cNumber (z : ZV) (w : World) : Calls Try.prog 61 #[z.val] w fun e w' => e = .returned z.cx ∧ Below w.heap.size w w' := by
  obtain ⟨a, b⟩ := z
  unfold ZV.val ZV.cx
  have hW := balloc w (.cells #[.float .f64 a, .float .f64 b] 26)
  go_enter Try.func61, Try.ntmps61
  go_wp2
  go_ret
  exact ⟨rfl, hW⟩

set_option maxHeartbeats 400000 in
theorem cZOf (z : ZV) (w : World) : Calls Try.prog 59 #[z.cx] w fun e w' => e = .returned z.val ∧ Below w.heap.size w w' := by
  obtain ⟨a, b⟩ := z
  unfold ZV.val ZV.cx
  have hW := balloc w (.cells #[.float .f64 a, .float .f64 b] 26)
  go_enter Try.func59, Try.ntmps59
  go_wp2
  refine bodyPost_ret (v := .agg #[.float .f64 a, .float .f64 b]) (by simp [results, Try.results59, go_sem]) rfl ⟨rfl, ?_⟩
  exact hW
end Go.Proofs.Ytapnidhokpkmdaa
