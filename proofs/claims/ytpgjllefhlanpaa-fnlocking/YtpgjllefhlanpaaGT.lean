/- Where a statement has laid a locking and a number. -/
import Derived.Test.YtpgjllefhlanpaaLS
namespace Go.Proofs.Ytpgjllefhlanpaa
open Go.RowKit

theorem szd (v : World) : v.drew.heap.size = v.heap.size := rfl
/-- What lies where a statement has laid a locking and a number. -/
structure GotL (W : World) (L : LockV) (C : Int) (sv cv : Value) (wc : World) : Prop where
  ex : ∃ bw x8 cx8 y8 cy8 z8 cz8 lo hi, sv = .pointer (some ⟨bw, 0, none⟩) ∧ cv = .int .i64 C ∧ wc.heap[bw]? = some (.cells #[.slice x8 L.pos.length cx8, .slice y8 L.set.length cy8, .slice z8 L.taken.length cz8] 33 (0, 0)) ∧
    LockOwn wc lo hi x8 cx8 y8 cy8 z8 cz8 L ∧ W.heap.size ≤ bw ∧ W.heap.size ≤ lo ∧ hi ≤ wc.heap.size ∧ (bw < lo ∨ hi ≤ bw)
  bel : Below W.heap.size W wc
theorem stB {W w1 : World} {b : Nat} {x y z : Value} (h : Below W.heap.size W w1) (hb : W.heap.size ≤ b) : Below W.heap.size W (((w1.setCell ⟨b, 0, none⟩ x).setCell ⟨b, 1, none⟩ y).setCell ⟨b, 2, none⟩ z) :=
  below_set hb (below_set hb (below_set hb h))
theorem RowZ.setOut {w : World} {lo hi T g i : Nat} {v u : Value} {xs : List Value} (h : RowZ w lo hi T v xs) (hg : g < lo ∨ hi ≤ g) : RowZ (w.setCell ⟨g, i, none⟩ u) lo hi T v xs := by
  rcases h with h | ⟨h1, h2, h3⟩
  · exact .inl h
  · exact .inr ⟨h1, own_set h2 (fun k hk => by have := own_from h2 (Nat.le_refl _) k hk; have := h3 k hk; omega), h3⟩
theorem LockOwn.setOut {w : World} {lo hi ca cb cc g i : Nat} {a b c : Option Addr} {l : LockV} {u : Value} (h : LockOwn w lo hi a ca b cb c cc l) (hg : g < lo ∨ hi ≤ g) : LockOwn (w.setCell ⟨g, i, none⟩ u) lo hi a ca b cb c cc l :=
  ⟨h.pos.setOut hg, h.set.setOut hg, h.taken.setOut hg, h.ps, h.pt, h.st⟩
theorem gotL {W w1 : World} {L : LockV} {C : Int} {b lo hi cx cy cz : Nat} {x y z : Option Addr} (h : Below W.heap.size W w1) (hz : w1.heap[b]? = some (.cells #[.slice none 0 0, .slice none 0 0, .slice none 0 0] 33 (0, 0))) (hb : W.heap.size ≤ b)
    (hO : LockOwn w1 lo hi x cx y cy z cz L) (hd : (b < lo ∨ hi ≤ b) ∧ W.heap.size ≤ lo ∧ hi ≤ w1.heap.size) :
    GotL W L C (.pointer (some ⟨b, 0, none⟩)) (.int .i64 C) (((w1.setCell ⟨b, 0, none⟩ (.slice x L.pos.length cx)).setCell ⟨b, 1, none⟩ (.slice y L.set.length cy)).setCell ⟨b, 2, none⟩ (.slice z L.taken.length cz)) := by
  have e2 := blk_set (i := 2) (v := .slice z L.taken.length cz) (blk_set (i := 1) (v := .slice y L.set.length cy) (blk_set (i := 0) (v := .slice x L.pos.length cx) hz))
  simp only [List.setIfInBounds_toArray, List.set_cons_zero, List.set_cons_succ] at e2
  exact ⟨⟨b, x, cx, y, cy, z, cz, lo, hi, rfl, rfl, e2, ((hO.setOut hd.1).setOut hd.1).setOut hd.1, hb, hd.2.1, by simpa using hd.2.2, hd.1⟩, stB h hb⟩
theorem gotN {W w1 : World} {L : LockV} {C : Int} {lo hi cx cy cz : Nat} {x y z : Option Addr} (h : Below W.heap.size W w1) (hO : LockOwn w1 lo hi x cx y cy z cz L) (hd : W.heap.size ≤ lo ∧ hi ≤ w1.heap.size) :
    GotL W L C (.pointer (some ⟨w1.heap.size, 0, none⟩)) (.int .i64 C) (w1.alloc (.cells #[.slice x L.pos.length cx, .slice y L.set.length cy, .slice z L.taken.length cz] 33)) :=
  ⟨⟨_, x, cx, y, cy, z, cz, lo, hi, rfl, rfl, new1, hO.below (balloc _ _), h.size, hd.1, by rw [sz1]; omega, .inr hd.2⟩, btrans h (balloc _ _)⟩
end Go.Proofs.Ytpgjllefhlanpaa
