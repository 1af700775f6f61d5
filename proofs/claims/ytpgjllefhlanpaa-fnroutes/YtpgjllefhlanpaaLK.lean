/- Lockings of their own memory: copied, marked, held. -/
import Derived.Test.YtpgjllefhlanpaaEQ
namespace Go.Proofs.Ytpgjllefhlanpaa
open Go.RowKit
/-- Nothing turns but blocks from lo on and below hi. -/
structure Far (lo hi : Nat) (w w' : World) : Prop where
  os : w'.os = w.os
  tape : w'.tape = w.tape
  output : w'.output = w.output
  size : w.heap.size ≤ w'.heap.size
  block : ∀ k, k < w.heap.size → (k < lo ∨ hi ≤ k) → w'.heap[k]? = w.heap[k]?
theorem Zone.far {lo hi : Nat} {w w' : World} (h : Zone lo hi w w') : Far lo hi w w' := ⟨h.os, h.tape, h.output, h.size, h.block⟩
theorem Far.refl (lo hi : Nat) (w : World) : Far lo hi w w := ⟨rfl, rfl, rfl, Nat.le_refl _, fun _ _ _ => rfl⟩
theorem Far.trans {lo hi : Nat} {w w1 w2 : World} (h : Far lo hi w w1) (g : Far lo hi w1 w2) : Far lo hi w w2 :=
  ⟨g.os.trans h.os, g.tape.trans h.tape, g.output.trans h.output, Nat.le_trans h.size g.size, fun k hk hn => (g.block k (Nat.lt_of_lt_of_le hk h.size) hn).trans (h.block k hk hn)⟩
theorem Far.wider {lo hi lo' hi' : Nat} {w w1 : World} (h : Far lo hi w w1) (h1 : lo' ≤ lo) (h2 : hi ≤ hi') : Far lo' hi' w w1 :=
  ⟨h.os, h.tape, h.output, h.size, fun k hk hn => h.block k hk (by omega)⟩
theorem Far.below {lo hi : Nat} {w w1 w2 : World} (h : Far lo hi w w1) (g : Below w1.heap.size w1 w2) : Far lo hi w w2 :=
  ⟨g.os.trans h.os, g.tape.trans h.tape, g.output.trans h.output, Nat.le_trans h.size g.size, fun k hk hn => (g.block k (Nat.lt_of_lt_of_le hk h.size)).trans (h.block k hk hn)⟩
theorem Far.grown {lo hi : Nat} {w w1 w2 : World} {r : Option Nat} (h : Far lo hi w w1) (g : w1.grownBy w2 r) (hr : ∀ k, r = some k → lo ≤ k ∧ k < hi) : Far lo hi w w2 :=
  ⟨g.os.trans h.os, g.tape.trans h.tape, g.output.trans h.output, Nat.le_trans h.size g.size, fun k hk hn => (g.block k (Nat.lt_of_lt_of_le hk h.size) (fun e => by have := hr k e.symm; omega)).trans (h.block k hk hn)⟩
theorem Far.set {lo hi b o : Nat} {w w1 : World} {v : Value} (h : Far lo hi w w1) (h1 : lo ≤ b) (h2 : b < hi) : Far lo hi w (w1.setCell ⟨b, o, none⟩ v) :=
  ⟨h.os, h.tape, h.output, by simpa using h.size, fun k hk hn => (Below.heap_setCell _ _ _ _ (by rintro rfl; omega)).trans (h.block k hk hn)⟩
/-- What is far from all that lies below is below. -/
theorem Far.under {lo hi : Nat} {w0 w w' : World} (h : Far lo hi w w') (g : Below w0.heap.size w0 w) (hB : w0.heap.size ≤ lo) : Below w0.heap.size w0 w' :=
  ⟨h.os.trans g.os, h.tape.trans g.tape, h.output.trans g.output, Nat.le_trans g.size h.size, fun k hk => (h.block k (Nat.lt_of_lt_of_le hk g.size) (.inl (by omega))).trans (g.block k hk)⟩
theorem own_faz {lo hi : Nat} {w w' : World} {base e sz n : Nat} {v : Value} {xs : List Value} (h : w.ownsRow base e sz v n xs) (hz : Far lo hi w w') (hn : ∀ k, v.ownBlock = some k → k < lo ∨ hi ≤ k) : w'.ownsRow base e sz v n xs := by
  obtain ⟨h1, h2⟩ := h
  refine ⟨h1, ?_⟩
  rcases h2 with h2 | ⟨g, cap, cur, hv, hg, hh, r⟩
  · exact .inl h2
  · exact .inr ⟨g, cap, cur, hv, hg, (hz.block g (lt_of_block hh) (hn g (by rw [hv]; rfl))).trans hh, r⟩
/-- A row of one-cell values in a block of its own, from lo on and below hi; or nothing. -/
def RowZ (w : World) (lo hi T : Nat) (v : Value) (xs : List Value) : Prop :=
  (xs = [] ∧ ∃ a c, v = .slice a 0 c) ∨ (xs ≠ [] ∧ w.ownsRow lo T 1 v xs.length xs ∧ ∀ k, v.ownBlock = some k → k < hi)
theorem RowZ.below {w w' : World} {lo hi T : Nat} {v : Value} {xs : List Value} (h : RowZ w lo hi T v xs) (hb : Below w.heap.size w w') : RowZ w' lo hi T v xs := by
  rcases h with h | ⟨h1, h2, h3⟩
  · exact .inl h
  · exact .inr ⟨h1, own_keep h2 hb, h3⟩
theorem RowZ.wider {w : World} {lo hi lo' hi' T : Nat} {v : Value} {xs : List Value} (h : RowZ w lo hi T v xs) (h1 : lo' ≤ lo) (h2 : hi ≤ hi') : RowZ w lo' hi' T v xs := by
  rcases h with h | ⟨q1, q2, q3⟩
  · exact .inl h
  · exact .inr ⟨q1, Go.Joins.ownsRow_le q2 h1, fun k hk => by have := q3 k hk; omega⟩
theorem RowZ.far {w w' : World} {lo hi lo' hi' T : Nat} {v : Value} {xs : List Value} (h : RowZ w lo hi T v xs) (hf : Far lo' hi' w w') (hd : hi ≤ lo' ∨ hi' ≤ lo) : RowZ w' lo hi T v xs := by
  rcases h with h | ⟨h1, h2, h3⟩
  · exact .inl h
  · exact .inr ⟨h1, own_faz h2 hf (fun k hk => by have := h3 k hk; have := own_from h2 (Nat.le_refl _) k hk; omega), h3⟩
theorem RowZ.form {w : World} {lo hi T : Nat} {v : Value} {xs : List Value} (h : RowZ w lo hi T v xs) : ∃ a c, v = .slice a xs.length c := by
  rcases h with ⟨rfl, h⟩ | ⟨h1, h2, h3⟩
  · exact h
  · exact own_form h2
theorem RowZ.of {w : World} {lo hi T n : Nat} {v : Value} {xs : List Value} (h : w.ownsRow lo T 1 v n xs) (hh : ∀ k, v.ownBlock = some k → k < hi) : RowZ w lo hi T v xs := by
  have hl := h.1
  obtain ⟨a, c, rfl⟩ := own_form h
  by_cases h0 : xs = []
  · left; refine ⟨h0, a, c, ?_⟩
    rw [h0] at hl; simp at hl; rw [← hl]
  · obtain rfl : n = xs.length := by omega
    exact .inr ⟨h0, h, hh⟩
theorem RowZ.ints {w : World} {lo hi n c : Nat} {a : Option Addr} {zs : List Int} (h : RowZ w lo hi 3 (.slice a n c) (zs.map (.int .i64))) : Ints w a zs := by
  rcases h with ⟨h, _⟩ | ⟨h1, h2, h3⟩
  · left; simpa using h
  · simp only [List.length_map] at h2
    obtain ⟨a', c', e⟩ := own_form h2
    simp only [Value.slice.injEq] at e
    obtain ⟨rfl, rfl, rfl⟩ := e
    exact Ints.own h2 rfl
theorem RowZ.bools {w : World} {lo hi n c : Nat} {a : Option Addr} {zs : List Bool} (h : RowZ w lo hi 4 (.slice a n c) (zs.map .bool)) : Bools w a zs := by
  rcases h with ⟨h, _⟩ | ⟨h1, h2, h3⟩
  · left; simpa using h
  · simp only [List.length_map] at h2
    obtain ⟨a', c', e⟩ := own_form h2
    simp only [Value.slice.injEq] at e
    obtain ⟨rfl, rfl, rfl⟩ := e
    exact Bools.own h2 rfl
/-- Two rows lie in two blocks. -/
def Off (u v : Value) (m n : Nat) : Prop := m ≠ 0 → n ≠ 0 → ∀ k, u.ownBlock = some k → v.ownBlock ≠ some k
theorem RowZ.other {w w' : World} {lo hi T : Nat} {u v : Value} {m : Nat} {xs : List Value} (h : RowZ w lo hi T v xs) (hg : w.grownBy w' (if m = 0 then none else u.ownBlock)) (ho : Off u v m xs.length) : RowZ w' lo hi T v xs := by
  rcases h with h | ⟨h1, h2, h3⟩
  · exact .inl h
  · refine .inr ⟨h1, own_far h2 hg (fun k hk e => ?_), h3⟩
    by_cases hm : m = 0
    · rw [if_pos hm] at e; cases e
    · rw [if_neg hm] at e
      exact ho hm (by simpa using h1) k e.symm hk

/-- A locking of its own memory. -/
structure LockOwn (w : World) (lo hi : Nat) (a : Option Addr) (ca : Nat) (b : Option Addr) (cb : Nat) (c : Option Addr) (cc : Nat) (l : LockV) : Prop where
  pos : RowZ w lo hi 3 (.slice a l.pos.length ca) (l.pos.map (.int .i64))
  set : RowZ w lo hi 4 (.slice b l.set.length cb) (l.set.map .bool)
  taken : RowZ w lo hi 4 (.slice c l.taken.length cc) (l.taken.map .bool)
  ps : Off (.slice a l.pos.length ca) (.slice b l.set.length cb) l.pos.length l.set.length
  pt : Off (.slice a l.pos.length ca) (.slice c l.taken.length cc) l.pos.length l.taken.length
  st : Off (.slice b l.set.length cb) (.slice c l.taken.length cc) l.set.length l.taken.length
theorem LockOwn.read {w : World} {lo hi ca cb cc : Nat} {a b c : Option Addr} {l : LockV} (h : LockOwn w lo hi a ca b cb c cc l) : LockIn w a b c l := ⟨h.pos.ints, h.set.bools, h.taken.bools⟩
theorem LockOwn.below {w w' : World} {lo hi ca cb cc : Nat} {a b c : Option Addr} {l : LockV} (h : LockOwn w lo hi a ca b cb c cc l) (hb : Below w.heap.size w w') : LockOwn w' lo hi a ca b cb c cc l :=
  ⟨h.pos.below hb, h.set.below hb, h.taken.below hb, h.ps, h.pt, h.st⟩
theorem LockOwn.far {w w' : World} {lo hi lo' hi' ca cb cc : Nat} {a b c : Option Addr} {l : LockV} (h : LockOwn w lo hi a ca b cb c cc l) (hf : Far lo' hi' w w') (hd : hi ≤ lo' ∨ hi' ≤ lo) : LockOwn w' lo hi a ca b cb c cc l :=
  ⟨h.pos.far hf hd, h.set.far hf hd, h.taken.far hf hd, h.ps, h.pt, h.st⟩
theorem LockOwn.wider {w : World} {lo hi lo' hi' ca cb cc : Nat} {a b c : Option Addr} {l : LockV} (h : LockOwn w lo hi a ca b cb c cc l) (h1 : lo' ≤ lo) (h2 : hi ≤ hi') : LockOwn w lo' hi' a ca b cb c cc l :=
  ⟨h.pos.wider h1 h2, h.set.wider h1 h2, h.taken.wider h1 h2, h.ps, h.pt, h.st⟩
theorem Off.symm {u v : Value} {m n : Nat} (h : Off u v m n) : Off v u n m := fun hm hn k hk e => h hn hm k e hk
theorem row_blk {w : World} {lo hi T n c : Nat} {a : Option Addr} {xs : List Value} (h : RowZ w lo hi T (.slice a n c) xs) (hn : xs.length = n) : ∀ k, (if n = 0 then none else (Value.slice a n c).ownBlock) = some k → lo ≤ k ∧ k < hi := by
  intro k hk
  rcases h with ⟨h, _⟩ | ⟨h1, h2, h3⟩
  · rw [h] at hn; simp at hn; rw [if_pos hn.symm] at hk; cases hk
  · have hp : n ≠ 0 := by rw [← hn]; intro h; exact h1 (by simpa using h)
    rw [if_neg hp] at hk
    exact ⟨own_from h2 (Nat.le_refl _) k hk, h3 k hk⟩
/-- A locking as marks lay it, from k on. -/
def marked (k : Int) (l : LockV) : LockV := ⟨marksInts k l.pos.length, marksBools (k + l.pos.length) l.set.length, marksBools (k + l.pos.length + l.set.length) l.taken.length⟩

theorem row_lt {w : World} {lo hi T n c : Nat} {a : Option Addr} {xs : List Value} (h : RowZ w lo hi T (.slice a n c) xs) (hn : xs.length = n) : ∀ k, (if n = 0 then none else (Value.slice a n c).ownBlock) = some k → k < w.heap.size := by
  intro k hk
  rcases h with ⟨h, _⟩ | ⟨h1, h2, h3⟩
  · rw [h] at hn; simp at hn; rw [if_pos hn.symm] at hk; cases hk
  · have hp : n ≠ 0 := by rw [← hn]; intro h; exact h1 (by simpa using h)
    rw [if_neg hp] at hk
    exact own_blk_lt h2 k hk
theorem grown_cell {w w' : World} {r : Option Nat} (hg : w.grownBy w' r) {b o : Nat} {v : Value} (hc : w.cell? ⟨b, o, none⟩ = some v) (hne : ∀ k, r = some k → k < b) : w'.cell? ⟨b, o, none⟩ = some v :=
  (cell_of_heap (hg.block b (cell_lt hc) (fun e => by have := hne b e.symm; omega))).trans hc

end Go.Proofs.Ytpgjllefhlanpaa
