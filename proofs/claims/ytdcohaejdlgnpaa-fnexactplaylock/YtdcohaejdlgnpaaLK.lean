/- Lockings of their own memory: copied, marked, held. -/
import Derived.Test.YtdcohaejdlgnpaaEQ
namespace Go.Proofs.Ytdcohaejdlgnpaa
open Go.RowKit
/-- Nothing turns but blocks from lo on and below hi. -/
structure Far (lo hi : Nat) (w w' : World) : Prop where
  os : w'.os = w.os
  tape : w'.tape = w.tape
  output : w'.output = w.output
  size : w.heap.size ≤ w'.heap.size
  block : ∀ k, k < w.heap.size → (k < lo ∨ hi ≤ k) → w'.heap[k]? = w.heap[k]?
theorem Zone.far {lo hi : Nat} {w w' : World} (h : Zone lo hi w w') : Far lo hi w w' := ⟨h.os, h.tape, h.output, h.size, h.block⟩
theorem Far.refl (lo hi : Nat) (w : World) : Far lo hi w w := ⟨rfl, rfl, rfl, Nat.le_refl _, fun _ _ _ => rfl⟩
theorem Far.trans {lo hi : Nat} {w w1 w2 : World} (h : Far lo hi w w1) (g : Far lo hi w1 w2) : Far lo hi w w2 :=
  ⟨g.os.trans h.os, g.tape.trans h.tape, g.output.trans h.output, Nat.le_trans h.size g.size, fun k hk hn => (g.block k (Nat.lt_of_lt_of_le hk h.size) hn).trans (h.block k hk hn)⟩
theorem Far.wider {lo hi lo' hi' : Nat} {w w1 : World} (h : Far lo hi w w1) (h1 : lo' ≤ lo) (h2 : hi ≤ hi') : Far lo' hi' w w1 :=
  ⟨h.os, h.tape, h.output, h.size, fun k hk hn => h.block k hk (by omega)⟩
theorem Far.below {lo hi : Nat} {w w1 w2 : World} (h : Far lo hi w w1) (g : Below w1.heap.size w1 w2) : Far lo hi w w2 :=
  ⟨g.os.trans h.os, g.tape.trans h.tape, g.output.trans h.output, Nat.le_trans h.size g.size, fun k hk hn => (g.block k (Nat.lt_of_lt_of_le hk h.size)).trans (h.block k hk hn)⟩
theorem Far.grown {lo hi : Nat} {w w1 w2 : World} {r : Option Nat} (h : Far lo hi w w1) (g : w1.grownBy w2 r) (hr : ∀ k, r = some k → lo ≤ k ∧ k < hi) : Far lo hi w w2 :=
  ⟨g.os.trans h.os, g.tape.trans h.tape, g.output.trans h.output, Nat.le_trans h.size g.size, fun k hk hn => (g.block k (Nat.lt_of_lt_of_le hk h.size) (fun e => by have := hr k e.symm; omega)).trans (h.block k hk hn)⟩
theorem Far.set {lo hi b o : Nat} {w w1 : World} {v : Value} (h : Far lo hi w w1) (h1 : lo ≤ b) (h2 : b < hi) : Far lo hi w (w1.setCell ⟨b, o, none⟩ v) :=
  ⟨h.os, h.tape, h.output, by simpa using h.size, fun k hk hn => (Below.heap_setCell _ _ _ _ (by rintro rfl; omega)).trans (h.block k hk hn)⟩
/-- What is far from all that lies below is below. -/
theorem Far.under {lo hi : Nat} {w0 w w' : World} (h : Far lo hi w w') (g : Below w0.heap.size w0 w) (hB : w0.heap.size ≤ lo) : Below w0.heap.size w0 w' :=
  ⟨h.os.trans g.os, h.tape.trans g.tape, h.output.trans g.output, Nat.le_trans g.size h.size, fun k hk => (h.block k (Nat.lt_of_lt_of_le hk g.size) (.inl (by omega))).trans (g.block k hk)⟩
theorem own_faz {lo hi : Nat} {w w' : World} {base e sz n : Nat} {v : Value} {xs : List Value} (h : w.ownsRow base e sz v n xs) (hz : Far lo hi w w') (hn : ∀ k, v.ownBlock = some k → k < lo ∨ hi ≤ k) : w'.ownsRow base e sz v n xs := by
  obtain ⟨h1, h2⟩ := h
  refine ⟨h1, ?_⟩
  rcases h2 with h2 | ⟨g, cap, cur, hv, hg, hh, r⟩
  · exact .inl h2
  · exact .inr ⟨g, cap, cur, hv, hg, (hz.block g (lt_of_block hh) (hn g (by rw [hv]; rfl))).trans hh, r⟩
/-- A row of one-cell values in a block of its own, from lo on and below hi; or nothing. -/
def RowZ (w : World) (lo hi T : Nat) (v : Value) (xs : List Value) : Prop :=
  (xs = [] ∧ ∃ a c, v = .slice a 0 c) ∨ (xs ≠ [] ∧ w.ownsRow lo T 1 v xs.length xs ∧ ∀ k, v.ownBlock = some k → k < hi)
theorem RowZ.below {w w' : World} {lo hi T : Nat} {v : Value} {xs : List Value} (h : RowZ w lo hi T v xs) (hb : Below w.heap.size w w') : RowZ w' lo hi T v xs := by
  rcases h with h | ⟨h1, h2, h3⟩
  · exact .inl h
  · exact .inr ⟨h1, own_keep h2 hb, h3⟩
theorem RowZ.wider {w : World} {lo hi lo' hi' T : Nat} {v : Value} {xs : List Value} (h : RowZ w lo hi T v xs) (h1 : lo' ≤ lo) (h2 : hi ≤ hi') : RowZ w lo' hi' T v xs := by
  rcases h with h | ⟨q1, q2, q3⟩
  · exact .inl h
  · exact .inr ⟨q1, Go.Joins.ownsRow_le q2 h1, fun k hk => by have := q3 k hk; omega⟩
theorem RowZ.far {w w' : World} {lo hi lo' hi' T : Nat} {v : Value} {xs : List Value} (h : RowZ w lo hi T v xs) (hf : Far lo' hi' w w') (hd : hi ≤ lo' ∨ hi' ≤ lo) : RowZ w' lo hi T v xs := by
  rcases h with h | ⟨h1, h2, h3⟩
  · exact .inl h
  · exact .inr ⟨h1, own_faz h2 hf (fun k hk => by have := h3 k hk; have := own_from h2 (Nat.le_refl _) k hk; omega), h3⟩
theorem RowZ.form {w : World} {lo hi T : Nat} {v : Value} {xs : List Value} (h : RowZ w lo hi T v xs) : ∃ a c, v = .slice a xs.length c := by
  rcases h with ⟨rfl, h⟩ | ⟨h1, h2, h3⟩
  · exact h
  · exact own_form h2
theorem RowZ.of {w : World} {lo hi T n : Nat} {v : Value} {xs : List Value} (h : w.ownsRow lo T 1 v n xs) (hh : ∀ k, v.ownBlock = some k → k < hi) : RowZ w lo hi T v xs := by
  have hl := h.1
  obtain ⟨a, c, rfl⟩ := own_form h
  by_cases h0 : xs = []
  · left; refine ⟨h0, a, c, ?_⟩
    rw [h0] at hl; simp at hl; rw [← hl]
  · obtain rfl : n = xs.length := by omega
    exact .inr ⟨h0, h, hh⟩
theorem RowZ.ints {w : World} {lo hi n c : Nat} {a : Option Addr} {zs : List Int} (h : RowZ w lo hi 3 (.slice a n c) (zs.map (.int .i64))) : Ints w a zs := by
  rcases h with ⟨h, _⟩ | ⟨h1, h2, h3⟩
  · left; simpa using h
  · simp only [List.length_map] at h2
    obtain ⟨a', c', e⟩ := own_form h2
    simp only [Value.slice.injEq] at e
    obtain ⟨rfl, rfl, rfl⟩ := e
    exact Ints.own h2 rfl
theorem RowZ.bools {w : World} {lo hi n c : Nat} {a : Option Addr} {zs : List Bool} (h : RowZ w lo hi 4 (.slice a n c) (zs.map .bool)) : Bools w a zs := by
  rcases h with ⟨h, _⟩ | ⟨h1, h2, h3⟩
  · left; simpa using h
  · simp only [List.length_map] at h2
    obtain ⟨a', c', e⟩ := own_form h2
    simp only [Value.slice.injEq] at e
    obtain ⟨rfl, rfl, rfl⟩ := e
    exact Bools.own h2 rfl
/-- Two rows lie in two blocks. -/
def Off (u v : Value) (m n : Nat) : Prop := m ≠ 0 → n ≠ 0 → ∀ k, u.ownBlock = some k → v.ownBlock ≠ some k
theorem RowZ.other {w w' : World} {lo hi T : Nat} {u v : Value} {m : Nat} {xs : List Value} (h : RowZ w lo hi T v xs) (hg : w.grownBy w' (if m = 0 then none else u.ownBlock)) (ho : Off u v m xs.length) : RowZ w' lo hi T v xs := by
  rcases h with h | ⟨h1, h2, h3⟩
  · exact .inl h
  · refine .inr ⟨h1, own_far h2 hg (fun k hk e => ?_), h3⟩
    by_cases hm : m = 0
    · rw [if_pos hm] at e; cases e
    · rw [if_neg hm] at e
      exact ho hm (by simpa using h1) k e.symm hk

set_option maxHeartbeats 800000 in
theorem zMarkInts (lo hi n c : Nat) (a : Option Addr) (zs : List Int) (k : Int) (w : World) (hn : zs.length = n) (h : RowZ w lo hi 3 (.slice a n c) (zs.map (.int .i64))) (hl : n ≤ 1048576) (hk0 : 0 ≤ k) (hk1 : k ≤ 10000000) :
    Calls Try.prog 44 #[.slice a n c, .int .i64 k] w fun e w' => e = .returned (.int .i64 (k + n)) ∧ RowZ w' lo hi 3 (.slice a n c) ((marksInts k n).map (.int .i64)) ∧ w.grownBy w' (if n = 0 then none else (Value.slice a n c).ownBlock) := by
  rcases h with ⟨h, _⟩ | ⟨h1, h2, h3⟩
  · have hz : zs = [] := by simpa using h
    subst hz
    subst hn
    dsimp only [List.length_nil]
    go_enter Try.func44, Try.ntmps44
    go_wp2
    go_loop [1, 5] (fun kk i => i = .int .i64 0 ∧ kk = .int .i64 k) (fun _ _ => 0)
    case atStart => exact ⟨rfl, rfl⟩
    case round =>
      obtain ⟨rfl, rfl⟩ := hrel
      go_wp2
      go_ret
      exact ⟨by simp, .inl ⟨by simp [marksInts], _, _, rfl⟩, World.grownBy.refl _ _⟩
  · have hp : n ≠ 0 := by rw [← hn]; intro h; exact h1 (by simpa using h)
    simp only [List.length_map, hn] at h2
    refine (cMarkInts lo n _ zs k w hn h2 hl hk0 hk1).mono ?_
    rintro e w' ⟨rfl, q1, q2⟩
    exact ⟨rfl, RowZ.of q1 h3, by rw [if_neg hp]; exact q2⟩
set_option maxHeartbeats 800000 in
theorem zMarkBools (lo hi n c : Nat) (a : Option Addr) (zs : List Bool) (k : Int) (w : World) (hn : zs.length = n) (h : RowZ w lo hi 4 (.slice a n c) (zs.map .bool)) (hl : n ≤ 1048576) (hk0 : 0 ≤ k) (hk1 : k ≤ 10000000) :
    Calls Try.prog 62 #[.slice a n c, .int .i64 k] w fun e w' => e = .returned (.int .i64 (k + n)) ∧ RowZ w' lo hi 4 (.slice a n c) ((marksBools k n).map .bool) ∧ w.grownBy w' (if n = 0 then none else (Value.slice a n c).ownBlock) := by
  rcases h with ⟨h, _⟩ | ⟨h1, h2, h3⟩
  · have hz : zs = [] := by simpa using h
    subst hz
    subst hn
    dsimp only [List.length_nil]
    go_enter Try.func62, Try.ntmps62
    go_wp2
    go_loop [1, 5] (fun kk i => i = .int .i64 0 ∧ kk = .int .i64 k) (fun _ _ => 0)
    case atStart => exact ⟨rfl, rfl⟩
    case round =>
      obtain ⟨rfl, rfl⟩ := hrel
      go_wp2
      go_ret
      exact ⟨by simp, .inl ⟨by simp [marksBools], _, _, rfl⟩, World.grownBy.refl _ _⟩
  · have hp : n ≠ 0 := by rw [← hn]; intro h; exact h1 (by simpa using h)
    simp only [List.length_map, hn] at h2
    refine (cMarkBools lo n _ zs k w hn h2 hl hk0 hk1).mono ?_
    rintro e w' ⟨rfl, q1, q2⟩
    exact ⟨rfl, RowZ.of q1 h3, by rw [if_neg hp]; exact q2⟩

/-- A locking of its own memory. -/
structure LockOwn (w : World) (lo hi : Nat) (a : Option Addr) (ca : Nat) (b : Option Addr) (cb : Nat) (c : Option Addr) (cc : Nat) (l : LockV) : Prop where
  pos : RowZ w lo hi 3 (.slice a l.pos.length ca) (l.pos.map (.int .i64))
  set : RowZ w lo hi 4 (.slice b l.set.length cb) (l.set.map .bool)
  taken : RowZ w lo hi 4 (.slice c l.taken.length cc) (l.taken.map .bool)
  ps : Off (.slice a l.pos.length ca) (.slice b l.set.length cb) l.pos.length l.set.length
  pt : Off (.slice a l.pos.length ca) (.slice c l.taken.length cc) l.pos.length l.taken.length
  st : Off (.slice b l.set.length cb) (.slice c l.taken.length cc) l.set.length l.taken.length
theorem LockOwn.read {w : World} {lo hi ca cb cc : Nat} {a b c : Option Addr} {l : LockV} (h : LockOwn w lo hi a ca b cb c cc l) : LockIn w a b c l := ⟨h.pos.ints, h.set.bools, h.taken.bools⟩
theorem LockOwn.below {w w' : World} {lo hi ca cb cc : Nat} {a b c : Option Addr} {l : LockV} (h : LockOwn w lo hi a ca b cb c cc l) (hb : Below w.heap.size w w') : LockOwn w' lo hi a ca b cb c cc l :=
  ⟨h.pos.below hb, h.set.below hb, h.taken.below hb, h.ps, h.pt, h.st⟩
theorem LockOwn.far {w w' : World} {lo hi lo' hi' ca cb cc : Nat} {a b c : Option Addr} {l : LockV} (h : LockOwn w lo hi a ca b cb c cc l) (hf : Far lo' hi' w w') (hd : hi ≤ lo' ∨ hi' ≤ lo) : LockOwn w' lo hi a ca b cb c cc l :=
  ⟨h.pos.far hf hd, h.set.far hf hd, h.taken.far hf hd, h.ps, h.pt, h.st⟩
theorem LockOwn.wider {w : World} {lo hi lo' hi' ca cb cc : Nat} {a b c : Option Addr} {l : LockV} (h : LockOwn w lo hi a ca b cb c cc l) (h1 : lo' ≤ lo) (h2 : hi ≤ hi') : LockOwn w lo' hi' a ca b cb c cc l :=
  ⟨h.pos.wider h1 h2, h.set.wider h1 h2, h.taken.wider h1 h2, h.ps, h.pt, h.st⟩
theorem Off.symm {u v : Value} {m n : Nat} (h : Off u v m n) : Off v u n m := fun hm hn k hk e => h hn hm k e hk
theorem row_blk {w : World} {lo hi T n c : Nat} {a : Option Addr} {xs : List Value} (h : RowZ w lo hi T (.slice a n c) xs) (hn : xs.length = n) : ∀ k, (if n = 0 then none else (Value.slice a n c).ownBlock) = some k → lo ≤ k ∧ k < hi := by
  intro k hk
  rcases h with ⟨h, _⟩ | ⟨h1, h2, h3⟩
  · rw [h] at hn; simp at hn; rw [if_pos hn.symm] at hk; cases hk
  · have hp : n ≠ 0 := by rw [← hn]; intro h; exact h1 (by simpa using h)
    rw [if_neg hp] at hk
    exact ⟨own_from h2 (Nat.le_refl _) k hk, h3 k hk⟩
/-- A locking as marks lay it, from k on. -/
def marked (k : Int) (l : LockV) : LockV := ⟨marksInts k l.pos.length, marksBools (k + l.pos.length) l.set.length, marksBools (k + l.pos.length + l.set.length) l.taken.length⟩

theorem row_lt {w : World} {lo hi T n c : Nat} {a : Option Addr} {xs : List Value} (h : RowZ w lo hi T (.slice a n c) xs) (hn : xs.length = n) : ∀ k, (if n = 0 then none else (Value.slice a n c).ownBlock) = some k → k < w.heap.size := by
  intro k hk
  rcases h with ⟨h, _⟩ | ⟨h1, h2, h3⟩
  · rw [h] at hn; simp at hn; rw [if_pos hn.symm] at hk; cases hk
  · have hp : n ≠ 0 := by rw [← hn]; intro h; exact h1 (by simpa using h)
    rw [if_neg hp] at hk
    exact own_blk_lt h2 k hk
theorem grown_cell {w w' : World} {r : Option Nat} (hg : w.grownBy w' r) {b o : Nat} {v : Value} (hc : w.cell? ⟨b, o, none⟩ = some v) (hne : ∀ k, r = some k → k < b) : w'.cell? ⟨b, o, none⟩ = some v :=
  (cell_of_heap (hg.block b (cell_lt hc) (fun e => by have := hne b e.symm; omega))).trans hc

set_option maxHeartbeats 3200000 in
theorem cMarkLock (lo hi ca cb cc : Nat) (a b c : Option Addr) (l : LockV) (k : Int) (w : World) (h : LockOwn w lo hi a ca b cb c cc l) (hS : LSmall l) (hk0 : 0 ≤ k) (hk1 : k ≤ 5000000) :
    Calls Try.prog 23 #[lockVal a ca b cb c cc l, .int .i64 k] w fun e w' => e = .returned (.int .i64 (k + l.pos.length + l.set.length + l.taken.length)) ∧ LockOwn w' lo hi a ca b cb c cc (marked k l) ∧ Far lo hi w w' := by
  obtain ⟨U, S, T⟩ := l
  obtain ⟨r1, r2, r3, o1, o2, o3⟩ := h
  obtain ⟨s1, s2, s3⟩ := hS
  unfold lockVal marked
  dsimp only at *
  have hb := balloc w (.cells #[.slice a U.length ca, .slice b S.length cb, .slice c T.length cc] 38)
  have g1 : (w.alloc (.cells #[.slice a U.length ca, .slice b S.length cb, .slice c T.length cc] 38)).cell? ⟨w.heap.size, 1, none⟩ = some (.slice b S.length cb) := by simp [go_sem]
  have g2 : (w.alloc (.cells #[.slice a U.length ca, .slice b S.length cb, .slice c T.length cc] 38)).cell? ⟨w.heap.size, 2, none⟩ = some (.slice c T.length cc) := by simp [go_sem]
  have l1 := row_lt r1 (by simp)
  have l2 := row_lt r2 (by simp)
  have F := (Far.refl lo hi w).below hb
  replace r1 := r1.below hb
  replace r2 := r2.below hb
  replace r3 := r3.below hb
  have b1 := row_blk r1 (by simp)
  have b2 := row_blk r2 (by simp)
  have b3 := row_blk r3 (by simp)
  go_enter Try.func23, Try.ntmps23
  go_wp2_with fail
  refine (zMarkInts lo hi _ ca a U k _ rfl r1 s1 hk0 (by omega)).mono ?_
  rintro e w1 ⟨rfl, m1, hg⟩
  replace g1 := grown_cell hg g1 l1
  replace g2 := grown_cell hg g2 l1
  replace r2 := r2.other hg (by simpa using o1)
  replace r3 := r3.other hg (by simpa using o2)
  replace F := F.grown hg b1
  clear hg r1 hb
  go_wp2_with fail
  refine (zMarkBools lo hi _ cb b S (k + U.length) _ rfl r2 s2 (by omega) (by omega)).mono ?_
  rintro e w2 ⟨rfl, m2, hg⟩
  replace g2 := grown_cell hg g2 l2
  replace m1 := m1.other hg (by simpa [marksInts_len] using o1.symm)
  replace r3 := r3.other hg (by simpa using o3)
  replace F := F.grown hg b2
  clear hg r2 g1
  go_wp2_with fail
  refine (zMarkBools lo hi _ cc c T (k + U.length + S.length) _ rfl r3 s3 (by omega) (by omega)).mono ?_
  rintro e w3 ⟨rfl, m3, hg⟩
  replace m1 := m1.other hg (by simpa [marksInts_len] using o2.symm)
  replace m2 := m2.other hg (by simpa [marksBools_len] using o3.symm)
  replace F := F.grown hg b3
  clear hg r3 g2
  go_wp2
  go_ret
  refine ⟨rfl, ⟨?_, ?_, ?_, ?_, ?_, ?_⟩, F⟩
  · simpa [marksInts_len] using m1
  · simpa [marksBools_len] using m2
  · simpa [marksBools_len] using m3
  · simpa [marksInts_len, marksBools_len] using o1
  · simpa [marksInts_len, marksBools_len] using o2
  · simpa [marksInts_len, marksBools_len] using o3

set_option maxHeartbeats 1600000 in
theorem cHeldLock (ca cb cc : Nat) (a b c : Option Addr) (l : LockV) (k : Int) (w : World) (h : LockIn w a b c (marked k l)) (hS : LSmall l) (hk0 : 0 ≤ k) (hk1 : k ≤ 5000000) :
    Calls Try.prog 24 #[lockVal a ca b cb c cc l, .int .i64 k] w fun e w' => e = .returned (.int .i64 (k + l.pos.length + l.set.length + l.taken.length)) ∧ Below w.heap.size w w' := by
  obtain ⟨U, S, T⟩ := l
  obtain ⟨r1, r2, r3⟩ := h
  obtain ⟨s1, s2, s3⟩ := hS
  unfold lockVal
  unfold marked at r1 r2 r3
  dsimp only at *
  have hb := balloc w (.cells #[.slice a U.length ca, .slice b S.length cb, .slice c T.length cc] 38)
  have n1 : ¬ (k + (U.length : Int) < 0) := by omega
  have n2 : ¬ (k + (U.length : Int) + (S.length : Int) < 0) := by omega
  have n3 : ¬ (k + (U.length : Int) + (S.length : Int) + (T.length : Int) < 0) := by omega
  replace r1 := r1.below hb
  replace r2 := r2.below hb
  replace r3 := r3.below hb
  go_enter Try.func24, Try.ntmps24
  go_wp2_with fail
  refine (cHeldIntsa a ca U.length k _ r1 s1 hk0 (by omega)).mono ?_
  rintro e w1 ⟨rfl, hw⟩
  subst w1
  go_wp2_with fail
  refine (cHeldBoolsa b cb S.length (k + U.length) _ r2 s2 (by omega) (by omega)).mono ?_
  rintro e w1 ⟨rfl, hw⟩
  subst w1
  go_wp2_with fail
  refine (cHeldBoolsa c cc T.length (k + U.length + S.length) _ r3 s3 (by omega) (by omega)).mono ?_
  rintro e w1 ⟨rfl, hw⟩
  subst w1
  go_wp2
  go_ret
  exact ⟨rfl, hb⟩
end Go.Proofs.Ytdcohaejdlgnpaa
