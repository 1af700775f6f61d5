/- Marking a pattern of the call's own, and finding the marks there again. -/
import Derived.Test.YtmchdclieejohaaR
namespace Go.Proofs.Ytmchdclieejohaa
open Go.RowKit

set_option maxHeartbeats 400000 in
theorem c52nil (k : Int) (w : World) : Calls Try.prog 52 #[.slice none 0 0, .int .i64 k] w fun e w' => e = .returned (.int .i64 k) ∧ w' = w := by
  go_enter Try.func52, Try.ntmps52
  go_wp2
  refine wp_loop_rounds 1 ?_
  rw [rounds_succ]
  go_wp2
  go_ret
  exact ⟨rfl, rfl⟩

theorem c52v (B cap : Nat) (ao : Option Addr) (xs : List Int) (k : Int) (w : World) (ho : w.ownsRow B 3 1 (.slice ao xs.length cap) xs.length (xs.map (Value.int .i64))) (hl : xs.length ≤ 1048576) (hk0 : 0 ≤ k) (hk1 : k ≤ 10000000) :
    Calls Try.prog 52 #[.slice ao xs.length cap, .int .i64 k] w fun e w' => e = .returned (.int .i64 (k + xs.length)) ∧
      w'.ownsRow B 3 1 (.slice ao xs.length cap) xs.length ((marks k xs.length).map (Value.int .i64)) ∧ w.grownBy w' (Value.slice ao xs.length cap).ownBlock := by
  rcases ho.2 with ⟨e, h0⟩ | ⟨g, cap', cur, e, _⟩
  · simp only [Value.slice.injEq] at e
    obtain ⟨rfl, _, rfl⟩ := e
    have hx : xs = [] := by cases xs <;> simp_all
    subst hx
    refine (c52nil k w).mono ?_
    rintro e w' ⟨rfl, rfl⟩
    exact ⟨by simp, ho, World.grownBy.refl _ _⟩
  · simp only [Value.slice.injEq] at e
    obtain ⟨rfl, _, rfl⟩ := e
    exact c52 B g cap xs k w ho hl hk0 hk1

theorem own_hi {w : World} {base n : Nat} {v : Value} {vs : List Value} (h : w.ownsRow base 3 1 v n vs) : ∀ k, v.ownBlock = some k → k < w.heap.size := by
  intro k e
  rcases h.2 with ⟨rfl, _⟩ | ⟨g, cap, cur, rfl, _, hh, _⟩
  · simp [Value.ownBlock] at e
  · simp [Value.ownBlock] at e; have := lt_of_block hh; omega

/-- What a marking of blocks from lo up to hi leaves: all below lo, and all from hi on, is as it was. -/
structure Marked (lo hi : Nat) (w w' : World) : Prop where
  low : Below lo w w'
  high : ∀ b, hi ≤ b → b < w.heap.size → w'.heap[b]? = w.heap[b]?

theorem Marked.of_grown {lo hi : Nat} {w w' : World} {v : Value} (hg : w.grownBy w' v.ownBlock) (hlo : ∀ k, v.ownBlock = some k → lo ≤ k) (hhi : ∀ k, v.ownBlock = some k → k < hi) (hs : lo ≤ w.heap.size) : Marked lo hi w w' :=
  ⟨(Below.refl _ _).grown hg hs hlo, fun b hb hlt => hg.block b hlt (fun e => by have := hhi b e.symm; omega)⟩
theorem Marked.trans {lo hi : Nat} {w w1 w2 : World} (h1 : Marked lo hi w w1) (h2 : Marked lo hi w1 w2) : Marked lo hi w w2 :=
  ⟨h1.low.trans h2.low, fun b hb hlt => (h2.high b hb (Nat.lt_of_lt_of_le hlt h1.low.size)).trans (h1.high b hb hlt)⟩
theorem Marked.of_below {lo hi : Nat} {w w1 : World} (h : Below w.heap.size w w1) (hl : lo ≤ w.heap.size) : Marked lo hi w w1 := ⟨h.mono hl, fun b _ hlt => h.block b hlt⟩
theorem Marked.own {lo hi base n : Nat} {w w' : World} {v : Value} {vs : List Value} (h : Marked lo hi w w') (hb : hi ≤ base) (ho : w.ownsRow base 3 1 v n vs) : w'.ownsRow base 3 1 v n vs := by
  obtain ⟨h1, h2⟩ := ho
  refine ⟨h1, ?_⟩
  rcases h2 with h2 | ⟨g, cap, cur, hv, hg, hh, r⟩
  · exact .inl h2
  · exact .inr ⟨g, cap, cur, hv, hg, (h.high g (by omega) (lt_of_block hh)).trans hh, r⟩
theorem Marked.box {lo hi b : Nat} {w w' : World} {c0 c1 c2 c3 c4 : Value} (h : Marked lo hi w w') (hb : hi ≤ b) (hx : Bx w b c0 c1 c2 c3 c4) : Bx w' b c0 c1 c2 c3 c4 := by
  have hlt := cell_lt hx.1
  have hk : ∀ j, w'.cell? ⟨b, j, none⟩ = w.cell? ⟨b, j, none⟩ := fun j => World.cell?_of_block (w := w) (h.high b hb hlt)
  exact ⟨(hk 0).trans hx.1, (hk 1).trans hx.2.1, (hk 2).trans hx.2.2.1, (hk 3).trans hx.2.2.2.1, (hk 4).trans hx.2.2.2.2⟩

set_option maxHeartbeats 1600000 in
theorem c30 (lo hi : Nat) (ao1 ao2 : Option Addr) (cp1 cp2 : Nat) (xs ys : List Int) (u0 u1 u2 : Value) (k : Int) (w : World)
    (o1 : w.ownsRow lo 3 1 (.slice ao1 xs.length cp1) xs.length (xs.map (Value.int .i64))) (o2 : w.ownsRow lo 3 1 (.slice ao2 ys.length cp2) ys.length (ys.map (Value.int .i64)))
    (hap : (Value.slice ao1 xs.length cp1).ownBlock = none ∨ (Value.slice ao1 xs.length cp1).ownBlock ≠ (Value.slice ao2 ys.length cp2).ownBlock)
    (h1 : ∀ g, (Value.slice ao1 xs.length cp1).ownBlock = some g → g < hi) (h2 : ∀ g, (Value.slice ao2 ys.length cp2).ownBlock = some g → g < hi) (hhi : hi ≤ w.heap.size) (hlo : lo ≤ hi)
    (hl1 : xs.length ≤ 1048576) (hl2 : ys.length ≤ 1048576) (hk0 : 0 ≤ k) (hk1 : k ≤ 1000) :
    Calls Try.prog 30 #[.agg #[u0, u1, u2, .slice ao1 xs.length cp1, .slice ao2 ys.length cp2], .int .i64 k] w fun e w' => e = .returned (.int .i64 (k + xs.length + ys.length)) ∧
      w'.ownsRow lo 3 1 (.slice ao1 xs.length cp1) xs.length ((marks k xs.length).map (Value.int .i64)) ∧ w'.ownsRow lo 3 1 (.slice ao2 ys.length cp2) ys.length ((marks (k + xs.length) ys.length).map (Value.int .i64)) ∧ Marked lo hi w w' := by
  go_enter Try.func30, Try.ntmps30
  go_wp2_with fail
  refine (c52v lo cp1 ao1 xs k _ (o1.alloc _) hl1 hk0 (by omega)).mono ?_
  rintro e w1 ⟨rfl, m1, hg1⟩
  have M0 : Marked lo hi w (w.alloc (.cells #[u0, u1, u2, .slice ao1 xs.length cp1, .slice ao2 ys.length cp2] 26)) := Marked.of_below (balloc _ _) (by omega)
  have M1 := Marked.of_grown hg1 (own_ge o1) h1 (by simp; omega)
  have X1 : Bx w1 w.heap.size u0 u1 u2 (.slice ao1 xs.length cp1) (.slice ao2 ys.length cp2) := M1.box hhi ⟨by simp, by simp, by simp, by simp, by simp⟩
  have o2' := grown_own hg1 (o2.alloc _) (by rcases hap with h | h; exact .inl h; exact .inr (.inr h))
  obtain ⟨b0, b1, b2, b3, b4⟩ := id X1
  clear hg1 X1
  go_wp2_with fail
  refine (c52v lo cp2 ao2 ys _ _ o2' hl2 (by omega) (by omega)).mono ?_
  rintro e w2 ⟨rfl, m2, hg2⟩
  have M2 := Marked.of_grown hg2 (own_ge o2) h2 (by have := M1.low.size; simp at this; omega)
  have m1' := grown_own hg2 m1 (by rcases hap with h | h; exact .inr (.inl h); exact .inr (.inr (fun e => h e.symm)))
  go_wp2
  go_ret
  exact ⟨rfl, m1', m2, (M0.trans M1).trans M2⟩

set_option maxHeartbeats 1600000 in
theorem c31 (ao1 ao2 : Option Addr) (n1 n2 cp1 cp2 : Nat) (u0 u1 u2 : Value) (k : Int) (w : World) (h1 : Ints w ao1 (marks k n1)) (h2 : Ints w ao2 (marks (k + n1) n2)) (hl1 : n1 ≤ 1048576) (hl2 : n2 ≤ 1048576) (hk0 : 0 ≤ k) (hk1 : k ≤ 1000) :
    Calls Try.prog 31 #[.agg #[u0, u1, u2, .slice ao1 n1 cp1, .slice ao2 n2 cp2], .int .i64 k] w fun e w' => e = .returned (.int .i64 (k + n1 + n2)) ∧ Below w.heap.size w w' := by
  go_enter Try.func31, Try.ntmps31
  go_wp2_with fail
  refine (c53 ao1 cp1 n1 k _ (h1.below (balloc _ _)) hl1 hk0 (by omega)).mono ?_
  rintro e w1 ⟨rfl, hw⟩
  obtain rfl := hw.symm
  go_wp2_with fail
  refine (c53 ao2 cp2 n2 _ _ (h2.below (balloc _ _)) hl2 (by omega) (by omega)).mono ?_
  rintro e w1 ⟨rfl, hw⟩
  obtain rfl := hw.symm
  go_wp2
  go_ret
  exact ⟨rfl, balloc _ _⟩
end Go.Proofs.Ytmchdclieejohaa
