/- Lists of rows, each in a block of its own. -/
import Derived.Test.YtjbecnflpfjicaaGreats18RI
import Derived.Test.YtjbecnflpfjicaaGreats18M
namespace Go.Proofs.YtjbecnflpfjicaaGreat.s18
open Go.RowKit
structure TabR (e B : Nat) (w : World) (v : Value) (vs : List Value) (xss : List (List Int)) : Prop where
  own : w.ownsRow B e 1 v xss.length vs
  each : ∀ j, (hj : j < vs.length) → RowI w B vs[j] (rwA xss j)
  pair : ∀ i j, (hi : i < vs.length) → (hj : j < vs.length) → i ≠ j → ∀ k, vs[i].ownBlock = some k → vs[j].ownBlock ≠ some k
theorem TabR.len {e B : Nat} {w : World} {v : Value} {vs : List Value} {xss : List (List Int)} (h : TabR e B w v vs xss) : vs.length = xss.length := by
  have := h.own.1; omega
theorem own_type {w : World} {B e n : Nat} {v : Value} {xs : List Value} (h : w.ownsRow B e 1 v n xs) : ∀ k, v.ownBlock = some k → B ≤ k ∧ k < w.heap.size ∧ ∃ cur, w.heap[k]? = some (.cells cur e (0, 0)) := by
  intro k hk
  rcases h.2 with ⟨rfl, _⟩ | ⟨g, cap', cur, rfl, hg, hh, _⟩
  · simp [Value.ownBlock] at hk
  · simp [Value.ownBlock] at hk; subst hk; exact ⟨hg, lt_of_block hh, cur, hh⟩
theorem row_apart {e B B' n : Nat} {w : World} {v u : Value} {vs : List Value} {xs : List Int} (h : w.ownsRow B e 1 v n vs) (g : RowI w B' u xs) (he : e ≠ 3) : ∀ k, u.ownBlock = some k → v.ownBlock ≠ some k := by
  intro k hk e1
  obtain ⟨-, -, c1, h1⟩ := g.blk k hk
  obtain ⟨-, -, c2, h2⟩ := own_type h k e1
  rw [h1] at h2
  simp only [Option.some.injEq, Obj.cells.injEq] at h2
  exact he h2.2.1.symm
theorem TabR.apart {e B : Nat} {w : World} {v : Value} {vs : List Value} {xss : List (List Int)} (h : TabR e B w v vs xss) (he : e ≠ 3) : ∀ j, (hj : j < vs.length) → ∀ k, vs[j].ownBlock = some k → v.ownBlock ≠ some k :=
  fun j hj => row_apart h.own (h.each j hj) he
theorem TabR.below {e B : Nat} {w w' : World} {v : Value} {vs : List Value} {xss : List (List Int)} (h : TabR e B w v vs xss) (hb : Below w.heap.size w w') : TabR e B w' v vs xss :=
  ⟨own_keep h.own hb, fun j hj => (h.each j hj).below hb, h.pair⟩
theorem TabR.base {e B B' : Nat} {w : World} {v : Value} {vs : List Value} {xss : List (List Int)} (h : TabR e B w v vs xss) (hB : B' ≤ B) : TabR e B' w v vs xss :=
  ⟨RowI.own_below h.own hB, fun j hj => (h.each j hj).base hB, h.pair⟩
theorem TabR.nil (e B : Nat) (w : World) : TabR e B w (.slice none 0 0) [] [] := ⟨World.ownsRow_nil _ _ _ _, fun j hj => by simp at hj, fun i j hi => by simp at hi⟩
theorem TabR.cell {e B g c n : Nat} {w : World} {vs : List Value} {xss : List (List Int)} (h : TabR e B w (.slice (some ⟨g, 0, none⟩) n c) vs xss) {j : Nat} (hj : j < vs.length) : w.cell? ⟨g, j, none⟩ = some vs[j] := by
  have hl := h.len
  have h1 := h.own
  have hn : n = xss.length := by
    rcases h1.2 with ⟨e1, _⟩ | ⟨g', c', cur, e1, _⟩
    · cases e1
    · simp only [Value.slice.injEq] at e1; exact e1.2.1
  subst hn
  have := h1.cellAt j (by omega)
  rw [this]; simp [hj]
theorem heap_setCell {w : World} {g o k : Nat} {u : Value} (h : k ≠ g) : (w.setCell ⟨g, o, none⟩ u).heap[k]? = w.heap[k]? := Below.heap_setCell _ _ _ _ (by intro e; exact h (by simpa using e))
/-- Another row in one place. -/
theorem TabR.put {e B g c n : Nat} {w w2 : World} {vs : List Value} {xss : List (List Int)} (h : TabR e B w (.slice (some ⟨g, 0, none⟩) n c) vs xss) (he : e ≠ 3) {j : Nat} (hj : j < vs.length) {v2 : Value} {ys : List Int}
    (hg : w.grownBy w2 vs[j].ownBlock) (hr : RowI w2 B v2 ys) (hw : v2.ownBlock = vs[j].ownBlock ∨ ∀ k, v2.ownBlock = some k → w.heap.size ≤ k) :
    TabR e B (w2.setCell ⟨g, j, none⟩ v2) (.slice (some ⟨g, 0, none⟩) n c) (vs.set j v2) (setR xss j ys) := by
  have hl := h.len
  have hap := h.apart he
  have hO2 : w2.ownsRow B e 1 (.slice (some ⟨g, 0, none⟩) n c) xss.length vs := own_far h.own hg (fun k hk e1 => hap j hj k e1.symm hk)
  have hn : n = xss.length := by
    rcases hO2.2 with ⟨e1, _⟩ | ⟨g', c', cur, e1, _⟩
    · cases e1
    · simp only [Value.slice.injEq] at e1; exact e1.2.1
  subst hn
  obtain ⟨hown2, -⟩ := hO2.stored j v2
  have hgB : ∀ (u : Value) (zs : List Int), RowI w2 B u zs → ∀ k, u.ownBlock = some k → k ≠ g := by
    intro u zs hu k hk e1
    subst e1
    exact row_apart hO2 hu he k hk rfl
  have key : ∀ i, (hi : i < vs.length) → i ≠ j → RowI w2 B vs[i] (rwA xss i) := fun i hi hne => (h.each i hi).far hg (fun k hk e1 => h.pair i j hi hj hne k hk e1)
  refine ⟨by rw [setR_len]; exact hown2, fun i hi => ?_, fun i i' hi hi' hne k hk => ?_⟩
  · rw [List.length_set] at hi
    rw [rwA_set (by omega)]
    by_cases e1 : i = j
    · subst e1
      rw [if_pos rfl, List.getElem_set_self]
      exact hr.same (fun k hk => heap_setCell (hgB _ _ hr k hk))
    · rw [if_neg e1, List.getElem_set_ne (fun e => e1 e.symm)]
      exact (key i hi e1).same (fun k hk => heap_setCell (hgB _ _ (key i hi e1) k hk))
  · have hi0 : i < vs.length := by simpa using hi
    have hi1 : i' < vs.length := by simpa using hi'
    by_cases e1 : i = j
    · subst e1
      rw [List.getElem_set_self] at hk
      rw [List.getElem_set_ne (fun e => hne e)]
      rcases hw with hw | hw
      · exact h.pair i i' hi0 hi1 hne k (hw ▸ hk)
      · intro e2; have := (h.each i' hi1).blk k e2; have := hw k hk; omega
    · rw [List.getElem_set_ne (fun e => e1 e.symm)] at hk
      by_cases e2 : i' = j
      · subst e2
        rw [List.getElem_set_self]
        rcases hw with hw | hw
        · rw [hw]; exact h.pair i i' hi0 hi1 hne k hk
        · intro e3; have := (h.each i hi0).blk k hk; have := hw k e3; omega
      · rw [List.getElem_set_ne (fun e => e2 e.symm)]
        exact h.pair i i' hi0 hi1 hne k hk
/-- Nothing ahead of the rows has turned. -/
theorem below_put {B g j : Nat} {w0 w w2 : World} {v2 : Value} {r : Option Nat} (hb : Below B w0 w) (hB : B ≤ w.heap.size) (hg : w.grownBy w2 r) (hr : ∀ k, r = some k → B ≤ k) (hgB : B ≤ g) : Below B w0 (w2.setCell ⟨g, j, none⟩ v2) :=
  below_set hgB (hb.grown hg hB hr)
theorem pair_push {vs : List Value} {u : Value} (h : ∀ i j, (hi : i < vs.length) → (hj : j < vs.length) → i ≠ j → ∀ k, vs[i].ownBlock = some k → vs[j].ownBlock ≠ some k) (hp : ∀ j, (hj : j < vs.length) → ∀ k, vs[j].ownBlock = some k → u.ownBlock ≠ some k) :
    ∀ i j, (hi : i < (vs ++ [u]).length) → (hj : j < (vs ++ [u]).length) → i ≠ j → ∀ k, (vs ++ [u])[i].ownBlock = some k → (vs ++ [u])[j].ownBlock ≠ some k := by
  intro i j hi hj hne k hk hk2
  have key : ∀ j, (hj : j < vs.length) → (vs ++ [u])[j]'(by simp; omega) = vs[j] := fun j hj => List.getElem_append_left hj
  have keyE : ∀ j (hj : j < (vs ++ [u]).length), ¬ j < vs.length → (vs ++ [u])[j] = u := by
    intro j hj h1
    obtain rfl : j = vs.length := by simp at hj; omega
    simp
  by_cases h1 : i < vs.length <;> by_cases h2 : j < vs.length
  · rw [key i h1] at hk; rw [key j h2] at hk2; exact h i j h1 h2 hne k hk hk2
  · rw [key i h1] at hk; rw [keyE j hj h2] at hk2; exact hp i h1 k hk hk2
  · rw [keyE i hi h1] at hk; rw [key j h2] at hk2; exact hp j h2 k hk2 hk
  · simp at hi hj; omega
theorem rwA_app {xss : List (List Int)} {ys : List Int} {i : Nat} (h : i < xss.length) : rwA (xss ++ [ys]) i = rwA xss i := by simp [rwA, List.getD, List.getElem?_append_left h]
theorem rwA_end {xss : List (List Int)} {ys : List Int} : rwA (xss ++ [ys]) xss.length = ys := by simp [rwA, List.getD]
/-- One row more. -/
theorem TabR.push {e B : Nat} {w w2 : World} {v v2 u : Value} {vs : List Value} {xss : List (List Int)} {ys : List Int} (h : TabR e B w v vs xss) (he : e ≠ 3)
    (hown : w2.ownsRow B e 1 v2 (xss.length + 1) (vs ++ [u])) (hgrow : w.grownBy w2 v.ownBlock) (hT : RowI w B u ys) (hpr : ∀ j, (hj : j < vs.length) → ∀ k, vs[j].ownBlock = some k → u.ownBlock ≠ some k) :
    TabR e B w2 v2 (vs ++ [u]) (xss ++ [ys]) := by
  have hl := h.len
  have key : ∀ j, (hj : j < vs.length) → (vs ++ [u])[j]'(by simp; omega) = vs[j] := fun j hj => List.getElem_append_left hj
  have keyE : (vs ++ [u])[vs.length]'(by simp) = u := by simp
  refine ⟨by simpa using hown, fun j hj => ?_, pair_push h.pair hpr⟩
  by_cases hjl : j < vs.length
  · rw [key j hjl, rwA_app (by omega)]
    exact (h.each j hjl).far hgrow (fun k hk => h.apart he j hjl k hk)
  · obtain rfl : j = vs.length := by simp at hj; omega
    rw [keyE, hl, rwA_end]
    exact hT.far hgrow (fun k hk => row_apart h.own hT he k hk)
end Go.Proofs.YtjbecnflpfjicaaGreat.s18
