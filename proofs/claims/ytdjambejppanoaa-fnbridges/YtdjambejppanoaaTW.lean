/- What other stages' texts lean on, gathered. -/
import Derived.Test.YtdjambejppanoaaBK
import Derived.Lib.SmallJoins
namespace Go.Proofs.Ytdjambejppanoaa
open Go.RowKit
/-- Two rows of numbers in blocks of their own. -/
structure Two (B : Nat) (w : World) (u v : Value) (C K : List Int) : Prop where
  c : w.ownsRow B 3 1 u C.length (C.map (.int .i64))
  k : w.ownsRow B 3 1 v K.length (K.map (.int .i64))
  ne : ∀ x, u.ownBlock = some x → v.ownBlock ≠ some x
theorem Two.below {B : Nat} {w w1 : World} {u v : Value} {C K : List Int} (h : Two B w u v C K) (hb : Below w.heap.size w w1) : Two B w1 u v C K := ⟨own_keep h.c hb, own_keep h.k hb, h.ne⟩
theorem Two.form {B : Nat} {w : World} {u v : Value} {C K : List Int} (h : Two B w u v C K) (hc : 0 < C.length) (hk : 0 < K.length) : ∃ g1 c1 g2 c2, u = .slice (some ⟨g1, 0, none⟩) C.length c1 ∧ v = .slice (some ⟨g2, 0, none⟩) K.length c2 ∧ g1 ≠ g2 := by
  rcases h.c.2 with ⟨_, h0⟩ | ⟨g1, c1, _, rfl, _⟩
  · omega
  rcases h.k.2 with ⟨_, h0⟩ | ⟨g2, c2, _, rfl, _⟩
  · omega
  exact ⟨g1, c1, g2, c2, rfl, rfl, fun e => h.ne g1 rfl (by rw [e]; rfl)⟩
theorem int_at {w : World} {B g n c : Nat} {C : List Int} (O : w.ownsRow B 3 1 (.slice (some ⟨g, 0, none⟩) n c) n (C.map (.int .i64))) {i : Nat} (hi : i < C.length) : w.cell? ⟨g, i, none⟩ = some (.int .i64 (C.getD i 0)) ∧ w.frozen? ⟨g, i, none⟩ = false := by
  refine ⟨?_, O.frozenAt _⟩
  have hl := O.1
  simp at hl
  rw [O.cellAt i (by omega)]
  simp [List.getD, hi]
theorem int_set {w : World} {B g n c : Nat} {C : List Int} (O : w.ownsRow B 3 1 (.slice (some ⟨g, 0, none⟩) n c) n (C.map (.int .i64))) (i : Nat) (x : Int) : (w.setCell ⟨g, i, none⟩ (.int .i64 x)).ownsRow B 3 1 (.slice (some ⟨g, 0, none⟩) n c) n ((C.set i x).map (.int .i64)) := by
  have := (O.stored i (.int .i64 x)).1
  rwa [List.map_set]
theorem Two.setC {B g1 g2 n1 n2 c1 c2 : Nat} {w : World} {C K : List Int} (h : Two B w (.slice (some ⟨g1, 0, none⟩) n1 c1) (.slice (some ⟨g2, 0, none⟩) n2 c2) C K) (e1 : n1 = C.length) (i : Nat) (x : Int) : Two B (w.setCell ⟨g1, i, none⟩ (.int .i64 x)) (.slice (some ⟨g1, 0, none⟩) n1 c1) (.slice (some ⟨g2, 0, none⟩) n2 c2) (C.set i x) K := by
  subst e1
  refine ⟨?_, own_set h.k (fun k hk e => h.ne g1 rfl (by rw [hk, e])), h.ne⟩
  have := int_set h.c i x
  rw [List.length_set]
  exact this
theorem Two.setK {B g1 g2 n1 n2 c1 c2 : Nat} {w : World} {C K : List Int} (h : Two B w (.slice (some ⟨g1, 0, none⟩) n1 c1) (.slice (some ⟨g2, 0, none⟩) n2 c2) C K) (e1 : n2 = K.length) (i : Nat) (x : Int) : Two B (w.setCell ⟨g2, i, none⟩ (.int .i64 x)) (.slice (some ⟨g1, 0, none⟩) n1 c1) (.slice (some ⟨g2, 0, none⟩) n2 c2) C (K.set i x) := by
  subst e1
  refine ⟨own_set h.c (fun k hk e => h.ne k hk (by rw [e]; rfl)), ?_, h.ne⟩
  have := int_set h.k i x
  rw [List.length_set]
  exact this
theorem Two.pushC {B : Nat} {w w8 : World} {o : Obj} {u v u8 : Value} {C K : List Int} {x : Int} (h : Two B w u v C K) (hown : w8.ownsRow B 3 1 u8 (C.length + 1) (C.map (.int .i64) ++ [.int .i64 x])) (hg : (w.alloc o).grownBy w8 u.ownBlock) (hloc : u8.ownBlock = u.ownBlock ∨ u8.ownBlock = some (w.alloc o).heap.size) : Two B w8 u8 v (C ++ [x]) K := by
  refine ⟨by rw [List.map_append, List.length_append]; exact hown, own_far (own_keep h.k (balloc _ _)) hg (fun k hk e => h.ne k e.symm hk), ?_⟩
  intro y hy hv
  rcases hloc with e | e
  · exact h.ne y (by rw [← e]; exact hy) hv
  · have := own_blk_lt h.k y hv
    rw [e] at hy
    simp at hy
    omega
theorem Two.pushK {B : Nat} {w w8 : World} {o : Obj} {u v v8 : Value} {C K : List Int} {x : Int} (h : Two B w u v C K) (hown : w8.ownsRow B 3 1 v8 (K.length + 1) (K.map (.int .i64) ++ [.int .i64 x])) (hg : (w.alloc o).grownBy w8 v.ownBlock) (hloc : v8.ownBlock = v.ownBlock ∨ v8.ownBlock = some (w.alloc o).heap.size) : Two B w8 u v8 C (K ++ [x]) := by
  refine ⟨own_far (own_keep h.c (balloc _ _)) hg (fun k hk e => h.ne k hk e.symm), by rw [List.map_append, List.length_append]; exact hown, ?_⟩
  intro y hy hv
  rcases hloc with e | e
  · exact h.ne y hy (by rw [← e]; exact hv)
  · have := own_blk_lt h.c y hy
    rw [e] at hv
    simp at hv
    omega
def gI (C : List Int) (j : Nat) : Int := C.getD j 0
theorem gI_ne {C : List Int} {i j : Nat} {x : Int} (h : i ≠ j) : gI (C.set i x) j = gI C j := by simp [gI, List.getD, h]
theorem gI_eq {C : List Int} {i : Nat} {x : Int} (h : i < C.length) : gI (C.set i x) i = x := by simp [gI, List.getD, h]
/-- The two tables in memory. -/
structure Tw (B n : Nat) (w : World) (g1 c1 g2 c2 : Nat) (C K : List Int) : Prop where
  c : w.ownsRow B 3 1 (.slice (some ⟨g1, 0, none⟩) n c1) n (C.map (.int .i64))
  k : w.ownsRow B 3 1 (.slice (some ⟨g2, 0, none⟩) n c2) n (K.map (.int .i64))
  cl : C.length = n
  kl : K.length = n
  ne : g1 ≠ g2
theorem Tw.below {B n g1 c1 g2 c2 : Nat} {w w1 : World} {C K : List Int} (h : Tw B n w g1 c1 g2 c2 C K) (hb : Below w.heap.size w w1) : Tw B n w1 g1 c1 g2 c2 C K := ⟨own_keep h.c hb, own_keep h.k hb, h.cl, h.kl, h.ne⟩
theorem Tw.far {B n g1 c1 g2 c2 : Nat} {w w1 : World} {C K : List Int} {r : Option Nat} (h : Tw B n w g1 c1 g2 c2 C K) (hg : w.grownBy w1 r) (h1 : some g1 ≠ r) (h2 : some g2 ≠ r) : Tw B n w1 g1 c1 g2 c2 C K :=
  ⟨own_far h.c hg (fun k hk => by simp [Value.ownBlock] at hk; subst hk; exact h1), own_far h.k hg (fun k hk => by simp [Value.ownBlock] at hk; subst hk; exact h2), h.cl, h.kl, h.ne⟩
theorem Two.tw {B n : Nat} {w : World} {u v : Value} {C K : List Int} (h : Two B w u v C K) (hc : C.length = n) (hk : K.length = n) (hn : 0 < n) : ∃ g1 c1 g2 c2, u = .slice (some ⟨g1, 0, none⟩) n c1 ∧ v = .slice (some ⟨g2, 0, none⟩) n c2 ∧ Tw B n w g1 c1 g2 c2 C K := by
  obtain ⟨g1, c1, g2, c2, rfl, rfl, hne⟩ := h.form (by omega) (by omega)
  have h1 := h.c
  have h2 := h.k
  rw [hc] at h1
  rw [hk] at h2
  exact ⟨g1, c1, g2, c2, by rw [hc], by rw [hk], h1, h2, hc, hk, hne⟩
theorem Tw.atC {B n g1 c1 g2 c2 : Nat} {w : World} {C K : List Int} (h : Tw B n w g1 c1 g2 c2 C K) {i : Nat} (hi : i < n) : w.cell? ⟨g1, i, none⟩ = some (.int .i64 (gI C i)) ∧ w.frozen? ⟨g1, i, none⟩ = false := int_at h.c (by rw [h.cl]; exact hi)
theorem Tw.atK {B n g1 c1 g2 c2 : Nat} {w : World} {C K : List Int} (h : Tw B n w g1 c1 g2 c2 C K) {i : Nat} (hi : i < n) : w.cell? ⟨g2, i, none⟩ = some (.int .i64 (gI K i)) ∧ w.frozen? ⟨g2, i, none⟩ = false := int_at h.k (by rw [h.kl]; exact hi)
theorem Tw.setC {B n g1 c1 g2 c2 : Nat} {w : World} {C K : List Int} (h : Tw B n w g1 c1 g2 c2 C K) (i : Nat) (x : Int) : Tw B n (w.setCell ⟨g1, i, none⟩ (.int .i64 x)) g1 c1 g2 c2 (C.set i x) K :=
  ⟨int_set h.c i x, own_set h.k (fun k hk e => h.ne (by simp [Value.ownBlock] at hk; rw [hk, e])), by simp [h.cl], h.kl, h.ne⟩
theorem Tw.setK {B n g1 c1 g2 c2 : Nat} {w : World} {C K : List Int} (h : Tw B n w g1 c1 g2 c2 C K) (i : Nat) (x : Int) : Tw B n (w.setCell ⟨g2, i, none⟩ (.int .i64 x)) g1 c1 g2 c2 C (K.set i x) :=
  ⟨own_set h.c (fun k hk e => h.ne (by simp [Value.ownBlock] at hk; rw [hk, e])), int_set h.k i x, h.cl, by simp [h.kl], h.ne⟩
end Go.Proofs.Ytdjambejppanoaa
