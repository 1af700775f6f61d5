/- A pattern in a box whose lists are younger than a mark. -/
import Derived.Test.YtmchdclieejohaaLI
namespace Go.Proofs.Ytmchdclieejohaa
open Go.RowKit

theorem Ints.off {w w' : World} {b : Option Addr} {xs : List Int} {cb : Nat} (h : Ints w b xs) (hg : w.grownBy w' (some cb)) (hbc : ∀ x, b = some x → x.block ≠ cb) : Ints w' b xs := by
  rcases h with h | ⟨b', off, rfl, hc⟩
  · exact .inl h
  · refine .inr ⟨b', off, rfl, fun i hi => ?_⟩
    exact (hg.cell_far _ (cell_lt (hc i hi)) (fun e => hbc _ rfl (by simpa using e))).trans (hc i hi)

set_option maxHeartbeats 800000 in
theorem cPick (cb cap : Nat) (a : Option Addr) (zs : List Int) (b : Option Addr) (cp : Nat) (xs : List Int) (w : World) (hc : Cur w cb a cap zs) (hl : zs.length ≤ 1048576) (hx : Ints w b xs) (hbc : ∀ x, b = some x → x.block ≠ cb) (h1 : 1 ≤ xs.length) (h2 : xs.length ≤ 1000) :
    Calls Try.prog 56 #[.pointer (some ⟨cb, 0, none⟩), .slice b xs.length cp] w fun e w' => ∃ r, e = .returned (.int .i64 r) ∧ r ∈ xs ∧ Cur w' cb a cap zs ∧ w.grownBy w' (some cb) := by
  go_enter Try.func56, Try.ntmps56
  go_wp2_with fail
  refine (cbelow cb cap a zs xs.length _ hc hl (by omega) (by omega)).mono ?_
  rintro e w1 ⟨y, rfl, y0, y1, C1, G1⟩
  have hx1 := hx.off G1 hbc
  rcases hx1 with h | ⟨nb, off, rfl, hcl⟩
  · simp [h] at h1
  have hy : y.toNat < xs.length := by omega
  have q := hcl y.toNat hy
  have hmem : xs.getD y.toNat 0 ∈ xs := by simp [List.getD, hy]
  generalize xs.getD y.toNat 0 = r at *
  clear hcl hc hx
  go_wp2
  go_ret
  exact ⟨r, rfl, hmem, C1, G1⟩

structure OD (n1 n0 : Nat) (wr : World) (wk f t : Int) (ao1 : Option Addr) (cp1 : Nat) (xs : List Int) (ao2 : Option Addr) (cp2 : Nat) (ys : List Int) : Prop where
  ge : n1 ≤ n0
  out : wr.heap[n0]? = some (.cells #[.int .i64 wk, .int .i64 f, .int .i64 t, .slice ao1 xs.length cp1, .slice ao2 ys.length cp2] 26 (0, 0))
  own1 : wr.ownsRow n1 3 1 (.slice ao1 xs.length cp1) xs.length (xs.map (Value.int .i64))
  own2 : wr.ownsRow n1 3 1 (.slice ao2 ys.length cp2) ys.length (ys.map (Value.int .i64))
  far1 : ∀ k, (Value.slice ao1 xs.length cp1).ownBlock = some k → k ≠ n0
  far2 : ∀ k, (Value.slice ao2 ys.length cp2).ownBlock = some k → k ≠ n0
  apart : (Value.slice ao1 xs.length cp1).ownBlock = none ∨ (Value.slice ao2 ys.length cp2).ownBlock = none ∨ (Value.slice ao1 xs.length cp1).ownBlock ≠ (Value.slice ao2 ys.length cp2).ownBlock
section
variable {n1 n0 : Nat} {wr : World} {wk f t : Int} {ao1 ao2 : Option Addr} {cp1 cp2 : Nat} {xs ys : List Int}
theorem OD.lt (h : OD n1 n0 wr wk f t ao1 cp1 xs ao2 cp2 ys) : n0 < wr.heap.size := lt_of_block h.out
theorem OD.new {w1 : World} (hn : n1 ≤ w1.heap.size) (I1 : w1.ownsRow n1 3 1 (.slice ao1 xs.length cp1) xs.length (xs.map (Value.int .i64))) (I2 : w1.ownsRow n1 3 1 (.slice ao2 ys.length cp2) ys.length (ys.map (Value.int .i64)))
    (ha : (Value.slice ao1 xs.length cp1).ownBlock = none ∨ (Value.slice ao2 ys.length cp2).ownBlock = none ∨ (Value.slice ao1 xs.length cp1).ownBlock ≠ (Value.slice ao2 ys.length cp2).ownBlock) :
    OD n1 w1.heap.size (w1.alloc (.cells #[.int .i64 wk, .int .i64 f, .int .i64 t, .slice ao1 xs.length cp1, .slice ao2 ys.length cp2] 26)) wk f t ao1 cp1 xs ao2 cp2 ys :=
  ⟨hn, new5 _ _ _ rfl, I1.alloc _, I2.alloc _, fun k hk => by have := own_blk_lt I1 k hk; omega, fun k hk => by have := own_blk_lt I2 k hk; omega, ha⟩
theorem OD.far (h : OD n1 n0 wr wk f t ao1 cp1 xs ao2 cp2 ys) {w2 : World} {cb : Nat} (hg : wr.grownBy w2 (some cb)) (hc : cb < n1) : OD n1 n0 w2 wk f t ao1 cp1 xs ao2 cp2 ys :=
  ⟨h.ge, (hg.block n0 h.lt (by have := h.ge; simp; omega)).trans h.out, own_far h.own1 hg (fun k hk e => by have := own_from h.own1 (Nat.le_refl _) k hk; cases e; omega), own_far h.own2 hg (fun k hk e => by have := own_from h.own2 (Nat.le_refl _) k hk; cases e; omega), h.far1, h.far2, h.apart⟩
theorem OD.alloc (h : OD n1 n0 wr wk f t ao1 cp1 xs ao2 cp2 ys) (o : Obj) : OD n1 n0 (wr.alloc o) wk f t ao1 cp1 xs ao2 cp2 ys :=
  ⟨h.ge, old5 o h.out, h.own1.alloc o, h.own2.alloc o, h.far1, h.far2, h.apart⟩
theorem OD.own_set (h : OD n1 n0 wr wk f t ao1 cp1 xs ao2 cp2 ys) (i : Nat) (u : Value) :
    (wr.setCell ⟨n0, i, none⟩ u).ownsRow n1 3 1 (.slice ao1 xs.length cp1) xs.length (xs.map (Value.int .i64)) ∧ (wr.setCell ⟨n0, i, none⟩ u).ownsRow n1 3 1 (.slice ao2 ys.length cp2) ys.length (ys.map (Value.int .i64)) :=
  ⟨own_far h.own1 (grown_set wr n0 i u) (fun k hk e => h.far1 k hk (by simpa using e)), own_far h.own2 (grown_set wr n0 i u) (fun k hk e => h.far2 k hk (by simpa using e))⟩
theorem OD.set0 (h : OD n1 n0 wr wk f t ao1 cp1 xs ao2 cp2 ys) (r : Int) : OD n1 n0 (wr.setCell ⟨n0, 0, none⟩ (.int .i64 r)) r f t ao1 cp1 xs ao2 cp2 ys :=
  ⟨h.ge, by have := Go.Joins.block_setCell (i := 0) h.out (.int .i64 r); simpa using this, (h.own_set 0 _).1, (h.own_set 0 _).2, h.far1, h.far2, h.apart⟩
theorem OD.set1 (h : OD n1 n0 wr wk f t ao1 cp1 xs ao2 cp2 ys) (r : Int) : OD n1 n0 (wr.setCell ⟨n0, 1, none⟩ (.int .i64 r)) wk r t ao1 cp1 xs ao2 cp2 ys :=
  ⟨h.ge, by have := Go.Joins.block_setCell (i := 1) h.out (.int .i64 r); simpa using this, (h.own_set 1 _).1, (h.own_set 1 _).2, h.far1, h.far2, h.apart⟩
theorem OD.set2 (h : OD n1 n0 wr wk f t ao1 cp1 xs ao2 cp2 ys) (r : Int) : OD n1 n0 (wr.setCell ⟨n0, 2, none⟩ (.int .i64 r)) wk f r ao1 cp1 xs ao2 cp2 ys :=
  ⟨h.ge, by have := Go.Joins.block_setCell (i := 2) h.out (.int .i64 r); simpa using this, (h.own_set 2 _).1, (h.own_set 2 _).2, h.far1, h.far2, h.apart⟩
theorem OD.setB (h : OD n1 n0 wr wk f t ao1 cp1 xs ao2 cp2 ys) (i : Nat) (u : Value) : Below n1 wr (wr.setCell ⟨n0, i, none⟩ u) := bset (Below.refl _ _) h.ge
theorem OD.mid1 (h : OD n1 n0 wr wk f t ao1 cp1 xs ao2 cp2 ys) {o : Obj} {w2 : World} (hgrow : (wr.alloc o).grownBy w2 (Value.slice ao1 xs.length cp1).ownBlock) : w2.heap[n0]? = wr.heap[n0]? :=
  (hgrow.block _ (by have := h.lt; simp; omega) (fun e => h.far1 _ e.symm rfl)).trans (Below.heap_alloc wr o _ (by have := h.lt; omega))
theorem OD.mid2 (h : OD n1 n0 wr wk f t ao1 cp1 xs ao2 cp2 ys) {o : Obj} {w2 : World} (hgrow : (wr.alloc o).grownBy w2 (Value.slice ao2 ys.length cp2).ownBlock) : w2.heap[n0]? = wr.heap[n0]? :=
  (hgrow.block _ (by have := h.lt; simp; omega) (fun e => h.far2 _ e.symm rfl)).trans (Below.heap_alloc wr o _ (by have := h.lt; omega))
theorem frame_push {w2 : World} {o : Obj} {r : Option Nat} (hn : n1 ≤ wr.heap.size) (hgrow : (wr.alloc o).grownBy w2 r) (hr : ∀ k, r = some k → n1 ≤ k) : Below n1 wr w2 :=
  ((Below.refl n1 wr).alloc hn o).grown hgrow (by simp; omega) (fun k e => hr k e)
theorem OD.push1 (h : OD n1 n0 wr wk f t ao1 cp1 xs ao2 cp2 ys) {o : Obj} {g cap : Nat} {w2 : World} {x : Int}
    (hown : w2.ownsRow n1 3 1 (.slice (some ⟨g, 0, none⟩) (xs.length + 1) cap) (xs.length + 1) (xs.map (Value.int .i64) ++ [.int .i64 x])) (hgrow : (wr.alloc o).grownBy w2 (Value.slice ao1 xs.length cp1).ownBlock) (hat : (Value.slice ao1 xs.length cp1).ownBlock = some g ∨ g = wr.heap.size + 1) :
    OD n1 n0 (w2.setCell ⟨n0, 3, none⟩ (.slice (some ⟨g, 0, none⟩) (xs.length + 1) cap)) wk f t (some ⟨g, 0, none⟩) cap (xs ++ [x]) ao2 cp2 ys ∧ Below n1 wr (w2.setCell ⟨n0, 3, none⟩ (.slice (some ⟨g, 0, none⟩) (xs.length + 1) cap)) := by
  have hlt := h.lt
  have hge := h.ge
  have hg0 : g ≠ n0 := hat.elim (fun e => h.far1 g e) (fun e => by omega)
  have hlen : (xs ++ [x]).length = xs.length + 1 := by simp
  have hF := frame_push (n1 := n1) (by omega) hgrow (own_from h.own1 (Nat.le_refl _))
  refine ⟨⟨h.ge, ?_, ?_, ?_, ?_, h.far2, ?_⟩, bset hF h.ge⟩
  · have := Go.Joins.block_setCell (i := 3) ((h.mid1 hgrow).trans h.out) (.slice (some ⟨g, 0, none⟩) (xs.length + 1) cap)
    rw [hlen]; simpa using this
  · rw [hlen, List.map_append]; exact own_far hown (grown_set w2 n0 3 _) (fun k hk e => by simp [Value.ownBlock] at hk e; omega)
  · exact own_far (grown_own hgrow (h.own2.alloc o) h.apart) (grown_set w2 n0 3 _) (fun k hk e => h.far2 k hk (by simpa using e))
  · intro k hk; simp [Value.ownBlock] at hk; omega
  · rcases hat with hat | rfl
    · rcases h.apart with ha | ha | ha
      · rw [ha] at hat; cases hat
      · exact .inr (.inl ha)
      · right; right; rw [hat] at ha; exact ha
    · right
      rcases h.own2.2 with ⟨e, _⟩ | ⟨g', cap', cur', e, _, hh, _⟩
      · left; rw [e]; rfl
      · right; rw [e]; have := lt_of_block hh; simp [Value.ownBlock]; omega
theorem OD.push2 (h : OD n1 n0 wr wk f t ao1 cp1 xs ao2 cp2 ys) {o : Obj} {g cap : Nat} {w2 : World} {x : Int}
    (hown : w2.ownsRow n1 3 1 (.slice (some ⟨g, 0, none⟩) (ys.length + 1) cap) (ys.length + 1) (ys.map (Value.int .i64) ++ [.int .i64 x])) (hgrow : (wr.alloc o).grownBy w2 (Value.slice ao2 ys.length cp2).ownBlock) (hat : (Value.slice ao2 ys.length cp2).ownBlock = some g ∨ g = wr.heap.size + 1) :
    OD n1 n0 (w2.setCell ⟨n0, 4, none⟩ (.slice (some ⟨g, 0, none⟩) (ys.length + 1) cap)) wk f t ao1 cp1 xs (some ⟨g, 0, none⟩) cap (ys ++ [x]) ∧ Below n1 wr (w2.setCell ⟨n0, 4, none⟩ (.slice (some ⟨g, 0, none⟩) (ys.length + 1) cap)) := by
  have hlt := h.lt
  have hge := h.ge
  have hg0 : g ≠ n0 := hat.elim (fun e => h.far2 g e) (fun e => by omega)
  have hlen : (ys ++ [x]).length = ys.length + 1 := by simp
  have hF := frame_push (n1 := n1) (by omega) hgrow (own_from h.own2 (Nat.le_refl _))
  have ha' : (Value.slice ao2 ys.length cp2).ownBlock = none ∨ (Value.slice ao1 xs.length cp1).ownBlock = none ∨ (Value.slice ao2 ys.length cp2).ownBlock ≠ (Value.slice ao1 xs.length cp1).ownBlock :=
    h.apart.elim (fun e => .inr (.inl e)) (fun e => e.elim .inl (fun e => .inr (.inr e.symm)))
  refine ⟨⟨h.ge, ?_, ?_, ?_, h.far1, ?_, ?_⟩, bset hF h.ge⟩
  · have := Go.Joins.block_setCell (i := 4) ((h.mid2 hgrow).trans h.out) (.slice (some ⟨g, 0, none⟩) (ys.length + 1) cap)
    rw [hlen]; simpa using this
  · exact own_far (grown_own hgrow (h.own1.alloc o) ha') (grown_set w2 n0 4 _) (fun k hk e => h.far1 k hk (by simpa using e))
  · rw [hlen, List.map_append]; exact own_far hown (grown_set w2 n0 4 _) (fun k hk e => by simp [Value.ownBlock] at hk e; omega)
  · intro k hk; simp [Value.ownBlock] at hk; omega
  · rcases hat with hat | rfl
    · rcases h.apart with ha | ha | ha
      · exact .inl ha
      · rw [ha] at hat; cases hat
      · right; right; rw [hat] at ha; exact ha
    · rcases h.own1.2 with ⟨e, _⟩ | ⟨g', cap', cur', e, _, hh, _⟩
      · left; rw [e]; rfl
      · right; right; rw [e]; have := lt_of_block hh; simp [Value.ownBlock]; omega
theorem OD.reset (h : OD n1 n0 wr wk f t ao1 cp1 xs ao2 cp2 ys) (W F T : Int) :
    OD n1 n0 (((((wr.setCell ⟨n0, 0, none⟩ (.int .i64 W)).setCell ⟨n0, 1, none⟩ (.int .i64 F)).setCell ⟨n0, 2, none⟩ (.int .i64 T)).setCell ⟨n0, 3, none⟩ (.slice none 0 0)).setCell ⟨n0, 4, none⟩ (.slice none 0 0)) W F T none 0 [] none 0 [] := by
  refine ⟨h.ge, ?_, World.ownsRow_nil _ _ _ _, World.ownsRow_nil _ _ _ _, (fun k hk => by cases hk), (fun k hk => by cases hk), .inl rfl⟩
  have e0 := Go.Joins.block_setCell (i := 0) h.out (.int .i64 W)
  have e1 := Go.Joins.block_setCell (i := 1) e0 (.int .i64 F)
  have e2 := Go.Joins.block_setCell (i := 2) e1 (.int .i64 T)
  have e3 := Go.Joins.block_setCell (i := 3) e2 (.slice none 0 0)
  have e4 := Go.Joins.block_setCell (i := 4) e3 (.slice none 0 0)
  simpa using e4
end
end Go.Proofs.Ytmchdclieejohaa
