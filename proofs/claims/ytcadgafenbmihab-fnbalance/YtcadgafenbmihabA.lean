/- Floats in a range. -/
import Derived.Test.YtcadgafenbmihabProg
import Derived.WalkKit
import Derived.WalkLawsBesides
import Derived.Deep.QuietTactic
import Derived.BigQuiet
import Derived.Lib.SmallJoins
import Derived.Test.YtcadgafenbmihabPL
namespace Go.Proofs.Ytcadgafenbmihab
open Go.RowKit Fl

theorem ret_int {k : IntKind} {a b : Int} (h : a = b) : Ending.returned (.int k a) = .returned (.int k b) := by rw [h]
theorem ret_bool {a b : Bool} (h : a = b) : Ending.returned (.bool a) = .returned (.bool b) := by rw [h]
theorem ret_fl {a b : Nat} (h : a = b) : Ending.returned (.float .f64 a) = .returned (.float .f64 b) := by rw [h]
theorem hide {p : Prop} (h : p) : Hid p := h
theorem wrap_in (n : Int) (h0 : -9223372036854775808 ≤ n) (h1 : n ≤ 9223372036854775807) : IntKind.i64.wrap n = n := by
  simp [IntKind.wrap, IntKind.bits, IntKind.signed]; omega
theorem balloc (w : World) (o : Obj) : Below w.heap.size w (w.alloc o) := (Below.refl _ _).alloc (Nat.le_refl _) _
theorem btrans {a b c : World} (h : Below a.heap.size a b) (g : Below b.heap.size b c) : Below a.heap.size a c := h.trans (g.mono h.size)
theorem cell_lt {w : World} {b o : Nat} {v : Value} (h : w.cell? ⟨b, o, none⟩ = some v) : b < w.heap.size := by
  by_cases hb : b < w.heap.size
  · exact hb
  · simp [World.cell?, Array.getElem?_eq_none (Nat.le_of_not_lt hb)] at h
theorem ble {w w1 : World} (h : Below w.heap.size w w1) {b o : Nat} {v : Value} (hc : w.cell? ⟨b, o, none⟩ = some v) : w1.cell? ⟨b, o, none⟩ = some v := (h.cell (cell_lt hc)).trans hc
theorem run_store_float (P : Program) (w : World) (a : Addr) (m : Mode) (k : FloatKind) (n : Nat) : (store a (.float k n) m).run P w = stored P w a (.float k n) m := run_store P w a _ m rfl
theorem bdraw {B : Nat} {a w : World} (h : Below B a w) (n : Nat) : Below B a (w.drewN n) := h.trans (Go.Joins.below_draws B w n)
theorem undrew {w w1 : World} (h : Below w.drew.heap.size w.drew w1) : Below w.heap.size w w1 := ⟨h.os, h.tape, h.output, h.size, h.block⟩
theorem sz1 (w : World) (o : Obj) : (w.alloc o).heap.size = w.heap.size + 1 := by simp

set_option maxHeartbeats 800000 in
theorem c15 (x lo hi : Nat) (w : World) : Calls Try.prog 22 #[.float .f64 x, .float .f64 lo, .float .f64 hi] w fun e w' => e = .returned (.bool (inR x lo hi)) ∧ w' = w := by
  have E : Hid (inR x lo hi = (fle lo x && fle x hi)) := rfl
  have E1 : Hid (fle lo x = (FloatKind.f64.format.order lo x == some .lt || FloatKind.f64.format.order lo x == some .eq)) := rfl
  have E2 : Hid (fle x hi = (FloatKind.f64.format.order x hi == some .lt || FloatKind.f64.format.order x hi == some .eq)) := rfl
  generalize inR x lo hi = r at *
  generalize fle lo x = p at *
  generalize fle x hi = q at *
  cases h1 : FloatKind.f64.format.order lo x with
  | none =>
    go_enter Try.func22, Try.ntmps22
    go_wp2
    go_ret
    exact ⟨ret_bool (by rw [E.out, E1.out, h1]; rfl), rfl⟩
  | some o1 =>
    cases o1 <;> cases h2 : FloatKind.f64.format.order x hi with
    | none =>
      go_enter Try.func22, Try.ntmps22
      go_wp2
      go_ret
      exact ⟨ret_bool (by rw [E.out, E1.out, E2.out, h1, h2]; rfl), rfl⟩
    | some o2 =>
      cases o2 <;>
      · go_enter Try.func22, Try.ntmps22
        go_wp2
        go_ret
        exact ⟨ret_bool (by rw [E.out, E1.out, E2.out, h1, h2]; rfl), rfl⟩

set_option maxHeartbeats 800000 in
theorem c16 (x lo hi : Nat) (w : World) : Calls Try.prog 26 #[.float .f64 x, .float .f64 lo, .float .f64 hi] w fun e w' => e = .returned (.bool (inR x lo hi)) ∧ w' = w := by
  have E : Hid (inR x lo hi = (fle lo x && fle x hi)) := rfl
  have E1 : Hid (fle lo x = (FloatKind.f64.format.order lo x == some .lt || FloatKind.f64.format.order lo x == some .eq)) := rfl
  have E2 : Hid (fle x hi = (FloatKind.f64.format.order x hi == some .lt || FloatKind.f64.format.order x hi == some .eq)) := rfl
  generalize inR x lo hi = r at *
  generalize fle lo x = p at *
  generalize fle x hi = q at *
  cases h1 : FloatKind.f64.format.order lo x with
  | none =>
    go_enter Try.func26, Try.ntmps26
    go_wp2
    go_ret
    exact ⟨ret_bool (by rw [E.out, E1.out, h1]; rfl), rfl⟩
  | some o1 =>
    cases o1 <;> cases h2 : FloatKind.f64.format.order x hi with
    | none =>
      go_enter Try.func26, Try.ntmps26
      go_wp2
      go_ret
      exact ⟨ret_bool (by rw [E.out, E1.out, E2.out, h1, h2]; rfl), rfl⟩
    | some o2 =>
      cases o2 <;>
      · go_enter Try.func26, Try.ntmps26
        go_wp2
        go_ret
        exact ⟨ret_bool (by rw [E.out, E1.out, E2.out, h1, h2]; rfl), rfl⟩

end Go.Proofs.Ytcadgafenbmihab
