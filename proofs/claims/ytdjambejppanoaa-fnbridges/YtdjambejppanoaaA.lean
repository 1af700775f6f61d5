/- What every text of this place leans on: worlds that only grow, rows that a call owns. -/
import Derived.Test.YtdjambejppanoaaProg
import Derived.WalkKit
import Derived.WalkLawsBesides
import Derived.Deep.QuietTactic
import Derived.BigQuiet
import Derived.Lib.SmallJoins
import Derived.Laws.Cover2
namespace Go.Proofs.Ytdjambejppanoaa
open Go.RowKit

theorem ret_int {k : IntKind} {a b : Int} (h : a = b) : Ending.returned (.int k a) = .returned (.int k b) := by rw [h]
theorem ret_bool {a b : Bool} (h : a = b) : Ending.returned (.bool a) = .returned (.bool b) := by rw [h]
theorem hide {p : Prop} (h : p) : Hid p := h
theorem wrap_in (n : Int) (h0 : -9223372036854775808 ≤ n) (h1 : n ≤ 9223372036854775807) : IntKind.i64.wrap n = n := by
  simp [IntKind.wrap, IntKind.bits, IntKind.signed]; omega
theorem balloc (w : World) (o : Obj) : Below w.heap.size w (w.alloc o) := (Below.refl _ _).alloc (Nat.le_refl _) _
theorem btrans {a b c : World} (h : Below a.heap.size a b) (g : Below b.heap.size b c) : Below a.heap.size a c := h.trans (g.mono h.size)
theorem cell_lt {w : World} {b o : Nat} {v : Value} (h : w.cell? ⟨b, o, none⟩ = some v) : b < w.heap.size := by
  by_cases hb : b < w.heap.size
  · exact hb
  · simp [World.cell?, Array.getElem?_eq_none (Nat.le_of_not_lt hb)] at h
theorem ble {w w1 : World} (h : Below w.heap.size w w1) {b o : Nat} {v : Value} (hc : w.cell? ⟨b, o, none⟩ = some v) : w1.cell? ⟨b, o, none⟩ = some v := (h.cell (cell_lt hc)).trans hc
theorem bdraw {B : Nat} {a w : World} (h : Below B a w) (n : Nat) : Below B a (w.drewN n) := h.trans (Go.Joins.below_draws B w n)
theorem undrew {w w1 : World} (h : Below w.drew.heap.size w.drew w1) : Below w.heap.size w w1 := ⟨h.os, h.tape, h.output, h.size, h.block⟩
theorem undrewN {w w1 : World} {n : Nat} (h : Below (w.drewN n).heap.size (w.drewN n) w1) : Below w.heap.size w w1 := btrans (Go.Joins.below_draws _ w n) h
theorem sz1 (w : World) (o : Obj) : (w.alloc o).heap.size = w.heap.size + 1 := by simp
theorem bcell {W w1 : World} (hb : Below W.heap.size W w1) : (∀ b o, b < W.heap.size → w1.cell? ⟨b, o, none⟩ = W.cell? ⟨b, o, none⟩) ∧ (∀ b o, b < W.heap.size → w1.frozen? ⟨b, o, none⟩ = W.frozen? ⟨b, o, none⟩) :=
  ⟨fun b o h => hb.cell (p := ⟨b, o, none⟩) h, fun b o h => hb.frozen (p := ⟨b, o, none⟩) h⟩
theorem lt_of_block {w : World} {b : Nat} {o : Obj} (h : w.heap[b]? = some o) : b < w.heap.size := by
  by_cases hx : b < w.heap.size
  · exact hx
  · rw [Array.getElem?_eq_none (Nat.le_of_not_lt hx)] at h; cases h
theorem all_bad {α : Type} {P : α → Bool} {zs : List α} {k : Nat} (hk : k < zs.length) (h : P zs[k] = false) : zs.all P = false := by
  cases hq : zs.all P
  · rfl
  · rw [List.all_eq_true] at hq
    rw [hq _ (List.getElem_mem hk)] at h; cases h
theorem all_step {α : Type} {P : α → Bool} {zs : List α} {k : Nat} (hk : k < zs.length) (h : (zs.take k).all P = true) (g : P zs[k] = true) : (zs.take (k + 1)).all P = true := by
  rw [List.take_succ_eq_append_getElem hk, List.all_append, h]
  simp [g]
/-- Nothing turns but what lies in one block. -/
theorem gset {w w' : World} {b : Nat} (h : w.grownBy w' (some b)) (o : Nat) (v : Value) : w.grownBy (w'.setCell ⟨b, o, none⟩ v) (some b) :=
  ⟨h.os, h.tape, h.output, by simpa using h.size, fun k hk hne => (Below.heap_setCell _ _ _ _ (by rintro rfl; exact hne rfl)).trans (h.block k hk hne)⟩
theorem gbelow {w w' w2 : World} {b : Nat} (h : w.grownBy w' (some b)) (hb : Below w'.heap.size w' w2) : w.grownBy w2 (some b) :=
  ⟨hb.os.trans h.os, hb.tape.trans h.tape, hb.output.trans h.output, Nat.le_trans h.size hb.size, fun k hk hne => (hb.block k (Nat.lt_of_lt_of_le hk h.size)).trans (h.block k hk hne)⟩
theorem gtrans {w w' w2 : World} {r : Option Nat} (h : w.grownBy w' r) (g : w'.grownBy w2 r) : w.grownBy w2 r :=
  ⟨g.os.trans h.os, g.tape.trans h.tape, g.output.trans h.output, Nat.le_trans h.size g.size, fun k hk hne => (g.block k (Nat.lt_of_lt_of_le hk h.size) hne).trans (h.block k hk hne)⟩
theorem gof {w w' : World} {b : Nat} (hb : Below w.heap.size w w') : w.grownBy w' (some b) := gbelow (World.grownBy.refl _ _) hb
theorem own_keep {w w' : World} {base e sz n : Nat} {v : Value} {xs : List Value} (h : w.ownsRow base e sz v n xs) (hb : Below w.heap.size w w') : w'.ownsRow base e sz v n xs := by
  obtain ⟨h1, h2⟩ := h
  refine ⟨h1, ?_⟩
  rcases h2 with h2 | ⟨g, cap, cur, hv, hg, hh, r⟩
  · exact .inl h2
  · exact .inr ⟨g, cap, cur, hv, hg, (hb.block g (lt_of_block hh)).trans hh, r⟩
theorem own_far {w w' : World} {base e sz n : Nat} {v : Value} {vs : List Value} {r : Option Nat} (h : w.ownsRow base e sz v n vs) (hg : w.grownBy w' r) (hne : ∀ k, v.ownBlock = some k → some k ≠ r) : w'.ownsRow base e sz v n vs := by
  refine h.kept hg ?_
  cases hv : v.ownBlock with
  | none => exact .inl rfl
  | some k => exact .inr (hne k hv)
theorem own_from {w : World} {base e sz n B : Nat} {v : Value} {xs : List Value} (h : w.ownsRow base e sz v n xs) (hB : B ≤ base) : ∀ j, v.ownBlock = some j → B ≤ j := by
  intro j hj
  rcases h.2 with ⟨rfl, _⟩ | ⟨g, cap', cur, rfl, hg, _⟩
  · simp [Value.ownBlock] at hj
  · simp [Value.ownBlock] at hj; omega
theorem own_form {w : World} {base e sz n : Nat} {v : Value} {xs : List Value} (h : w.ownsRow base e sz v n xs) : ∃ a c, v = .slice a n c := by
  rcases h.2 with ⟨rfl, h0⟩ | ⟨g, cap', cur, rfl, _⟩
  · exact ⟨none, 0, by rw [h0]⟩
  · exact ⟨_, _, rfl⟩
theorem own_blk_lt {w : World} {base e sz n : Nat} {v : Value} {xs : List Value} (h : w.ownsRow base e sz v n xs) : ∀ k, v.ownBlock = some k → k < w.heap.size := by
  intro k hk
  rcases h.2 with ⟨rfl, _⟩ | ⟨g, cap', cur, rfl, _, hg, _⟩
  · simp [Value.ownBlock] at hk
  · simp [Value.ownBlock] at hk; subst hk; exact lt_of_block hg
theorem owns_lt {w : World} {base e sz g n cap : Nat} {xs : List Value} (h : w.ownsRow base e sz (.slice (some ⟨g, 0, none⟩) n cap) n xs) : g < w.heap.size := own_blk_lt h g rfl
theorem own_set {w : World} {base e sz n b i : Nat} {v : Value} {xs : List Value} {u : Value} (h : w.ownsRow base e sz v n xs) (hne : ∀ k, v.ownBlock = some k → k ≠ b) : (w.setCell ⟨b, i, none⟩ u).ownsRow base e sz v n xs :=
  own_far h (gset (World.grownBy.refl _ _) _ _) (fun k hk e => hne k hk (by simpa using e))
theorem below_set {B b o : Nat} {w w1 : World} {v : Value} (h : B ≤ b) (g : Below B w w1) : Below B w (w1.setCell ⟨b, o, none⟩ v) := g.setCell h _
theorem set_step {val : Value} (X : List Value) (n k : Nat) (y : Value) (hX : X.length = k) (hk : k < n) :
    (X ++ List.replicate (n - k) val).set k y = (X ++ [y]) ++ List.replicate (n - (k + 1)) val := by
  have e1 : n - k = (n - (k + 1)) + 1 := by omega
  rw [List.set_append_right _ _ (by omega), e1, List.replicate_succ, hX, Nat.sub_self, List.set_cons_zero]
  simp
/-- A row that a call owns, or a slice of nothing that has no room. -/
def Rw (w : World) (B e sz : Nat) (v : Value) (n : Nat) (xs : List Value) : Prop := w.ownsRow B e sz v n xs ∨ (n = 0 ∧ xs = [] ∧ ∃ a, v = .slice a 0 0)
theorem Rw.keep {w w' : World} {B e sz n : Nat} {v : Value} {xs : List Value} (h : Rw w B e sz v n xs) (hb : Below w.heap.size w w') : Rw w' B e sz v n xs := by
  rcases h with h | h
  · exact .inl (own_keep h hb)
  · exact .inr h
theorem Rw.far {w w' : World} {B e sz n : Nat} {v : Value} {xs : List Value} {r : Option Nat} (h : Rw w B e sz v n xs) (hg : w.grownBy w' r) (hne : ∀ k, r = some k → k < B) : Rw w' B e sz v n xs := by
  rcases h with h | h
  · exact .inl (own_far h hg (fun k hk e => by have := own_from h (Nat.le_refl _) k hk; have := hne k e.symm; omega))
  · exact .inr h
theorem Rw.form {w : World} {B e sz n : Nat} {v : Value} {xs : List Value} (h : Rw w B e sz v n xs) : ∃ a c, v = .slice a n c := by
  rcases h with h | ⟨rfl, _, a, rfl⟩
  · exact own_form h
  · exact ⟨_, _, rfl⟩
theorem Rw.len {w : World} {B e sz n : Nat} {v : Value} {xs : List Value} (h : Rw w B e sz v n xs) : xs.length = n * sz := by
  rcases h with h | ⟨rfl, rfl, _⟩
  · exact h.1
  · simp

def inB (x lo hi : Int) : Bool := decide (lo ≤ x ∧ x ≤ hi)
theorem inB_true {x lo hi : Int} (h : inB x lo hi = true) : lo ≤ x ∧ x ≤ hi := by simpa [inB] using h
theorem inB_false {x lo hi : Int} (h : inB x lo hi = false) : x < lo ∨ (lo ≤ x ∧ hi < x) := by
  simp [inB] at h; by_cases h1 : lo ≤ x
  · exact .inr ⟨h1, h h1⟩
  · exact .inl (by omega)
theorem inB_ff {x lo hi : Int} (h : inB x lo hi = false) : x < lo ∨ hi < x := by
  rcases inB_false h with h | h
  · exact .inl h
  · exact .inr h.2
theorem inB_yes {x lo hi : Int} (h1 : lo ≤ x) (h2 : x ≤ hi) : inB x lo hi = true := by simp [inB, h1, h2]

set_option maxHeartbeats 400000 in
theorem cIn (x lo hi : Int) (w : World) : Calls Try.prog 41 #[.int .i64 x, .int .i64 lo, .int .i64 hi] w fun e w' => e = .returned (.bool (inB x lo hi)) ∧ w' = w := by
  have E : Hid (inB x lo hi = decide (lo ≤ x ∧ x ≤ hi)) := rfl
  by_cases h1 : lo ≤ x
  · by_cases h2 : x ≤ hi
    · go_enter Try.func41, Try.ntmps41
      go_wp2
      go_ret
      exact ⟨ret_bool (by rw [E.out]; symm; simp; omega), rfl⟩
    · go_enter Try.func41, Try.ntmps41
      go_wp2
      go_ret
      exact ⟨ret_bool (by rw [E.out]; symm; simp; omega), rfl⟩
  · go_enter Try.func41, Try.ntmps41
    go_wp2
    go_ret
    exact ⟨ret_bool (by rw [E.out]; symm; simp; omega), rfl⟩

end Go.Proofs.Ytdjambejppanoaa
