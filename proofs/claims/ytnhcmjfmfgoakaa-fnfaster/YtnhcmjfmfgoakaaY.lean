/- Draws: a motor, a course. -/
import Derived.Test.YtnhcmjfmfgoakaaX
namespace Go.Proofs.Ytnhcmjfmfgoakaa
open Go.RowKit

/-- The blocks that a cursor lives on. -/
def OnCur (cb : Nat) (a : Option Addr) (zs : List Int) (k : Nat) : Prop := k = cb ∨ (zs ≠ [] ∧ ∃ off, a = some ⟨k, off, none⟩)
theorem Cur.lt {w : World} {cb cap : Nat} {a : Option Addr} {zs : List Int} (h : Cur w cb a cap zs) {k : Nat} (hk : OnCur cb a zs k) : k < w.heap.size := by
  rcases hk with rfl | ⟨hne, off, rfl⟩
  · obtain ⟨i, h, _, _, hc⟩ := h.cell
    exact lt_of_block hc
  · rcases h.bytes with hz | ⟨b', off', ha, hc⟩
    · exact absurd hz hne
    · simp only [Option.some.injEq, Addr.mk.injEq] at ha
      have := cell_lt (hc 0 (by cases zs <;> simp_all)).1
      omega
theorem Cur.keep {w w' : World} {cb cap : Nat} {a : Option Addr} {zs : List Int} (h : Cur w cb a cap zs) (hk : ∀ k, OnCur cb a zs k → w'.heap[k]? = w.heap[k]?) : Cur w' cb a cap zs := by
  obtain ⟨⟨i, hh, i0, i1, hc⟩, hy, hf⟩ := h
  refine ⟨⟨i, hh, i0, i1, (hk cb (.inl rfl)).trans hc⟩, ?_, hf⟩
  rcases hy with hy | ⟨b, off, ha, hcy⟩
  · exact .inl hy
  · refine .inr ⟨b, off, ha, fun i hi => ⟨?_, (hcy i hi).2⟩⟩
    have hne : zs ≠ [] := by intro e; simp [e] at hi
    exact (World.cell?_of_block (w := w) (hk b (.inr ⟨hne, off, ha⟩))).trans (hcy i hi).1
theorem Cur.under {w w' : World} {cb cap B : Nat} {a : Option Addr} {zs : List Int} (h : Cur w cb a cap zs) (hB : ∀ k, OnCur cb a zs k → k < B) (hb : Below B w w') : Cur w' cb a cap zs :=
  h.keep fun k hk => hb.block k (hB k hk)
theorem Cur.grow {w w' : World} {cb cap B : Nat} {a : Option Addr} {zs : List Int} {r : Option Nat} (h : Cur w cb a cap zs) (hB : ∀ k, OnCur cb a zs k → k < B) (hg : w.grownBy w' r) (hr : ∀ k, r = some k → B ≤ k) : Cur w' cb a cap zs :=
  h.keep fun k hk => hg.block k (h.lt hk) (fun e => by have := hr k e.symm; have := hB k hk; omega)
theorem grown_far {a b c : World} {r r' : Option Nat} (h : a.grownBy b r) (g : b.grownBy c r') (hr : ∀ k, r' = some k → a.heap.size ≤ k) : a.grownBy c r :=
  ⟨g.os.trans h.os, g.tape.trans h.tape, g.output.trans h.output, Nat.le_trans h.size g.size, fun k hk hne => (g.block k (Nat.lt_of_lt_of_le hk h.size) (fun e => by have := hr k e.symm; omega)).trans (h.block k hk hne)⟩
theorem grown_alloc (w : World) (o : Obj) (r : Option Nat) : w.grownBy (w.alloc o) r := World.grownBy_alloc w o r

theorem bset {B b i : Nat} {a w : World} {u : Value} (h : Below B a w) (hb : B ≤ b) : Below B a (w.setCell ⟨b, i, none⟩ u) := h.setCell (p := ⟨b, i, none⟩) hb u

/-- A motor that may be drawn. -/
def Drawn (m : MotorV) : Prop := 1 ≤ m.u ∧ m.u ≤ 60 ∧ 1 ≤ m.d ∧ m.d ≤ 120 ∧ 2 ≤ m.t ∧ m.t ≤ 51

set_option maxHeartbeats 1600000 in
theorem c41 (cb cap : Nat) (a : Option Addr) (zs : List Int) (w : World) (hc : Cur w cb a cap zs) (hl : zs.length ≤ 1048576) :
    Calls Try.prog 41 #[.pointer (some ⟨cb, 0, none⟩)] w fun e w' => ∃ m : MotorV, e = .returned m.val ∧ Drawn m ∧ Cur w' cb a cap zs ∧ w.grownBy w' (some cb) := by
  have hB := fun k (hk : OnCur cb a zs k) => hc.lt hk
  have C0 := hc.below (balloc w (.cells #[.int .i64 0, .int .i64 0, .int .i64 0] 25))
  have G0 := grown_alloc w (.cells #[.int .i64 0, .int .i64 0, .int .i64 0] 25) (some cb)
  have K0 : (w.alloc (.cells #[.int .i64 0, .int .i64 0, .int .i64 0] 25)).heap[w.heap.size]? = some (.cells #[.int .i64 0, .int .i64 0, .int .i64 0] 25 (0, 0)) := heap_alloc_new w _
  have hcb := hB cb (.inl rfl)
  go_enter Try.func41, Try.ntmps41
  go_wp2_with fail
  refine (c55 cb cap a zs 60 _ C0 hl (by omega) (by omega)).mono ?_
  rintro e w1 ⟨u, rfl, u0, u1, C1, G1⟩
  have K1 := (G1.block w.heap.size (by simp) (by simp; omega)).trans K0
  go_wp2_with fail
  refine (c55 cb cap a zs 120 _ C1 hl (by omega) (by omega)).mono ?_
  rintro e w2 ⟨d, rfl, d0, d1, C2, G2⟩
  have K2 := (G2.block w.heap.size (by have := G1.size; simp at this; omega) (by simp; omega)).trans K1
  go_wp2_with fail
  refine (c55 cb cap a zs 50 _ C2 hl (by omega) (by omega)).mono ?_
  rintro e w3 ⟨t, rfl, t0, t1, C3, G3⟩
  have K3 := (G3.block w.heap.size (by have := G1.size; have := G2.size; simp at *; omega) (by simp; omega)).trans K2
  have G := grown_trans (grown_trans (grown_trans G0 G1) G2) G3
  clear C0 C1 C2 G0 G1 G2 G3 K0 K1 K2
  have k0 : w3.cell? ⟨w.heap.size, 0, none⟩ = some (.int .i64 0) := Go.Joins.cell_of_block K3 0
  have k1 : w3.cell? ⟨w.heap.size, 1, none⟩ = some (.int .i64 0) := Go.Joins.cell_of_block K3 1
  have k2 : w3.cell? ⟨w.heap.size, 2, none⟩ = some (.int .i64 0) := Go.Joins.cell_of_block K3 2
  have f0 := Go.Joins.unfrozen_of_block K3 0
  have f1 := Go.Joins.unfrozen_of_block K3 1
  have f2 := Go.Joins.unfrozen_of_block K3 2
  go_wp2_with fail
  have L1 := Go.Joins.block_setCell (i := 0) K3 (.int .i64 (1 + u))
  have L2 := Go.Joins.block_setCell (i := 1) L1 (.int .i64 (1 + d))
  have L3 := Go.Joins.block_setCell (i := 2) L2 (.int .i64 (2 + t))
  simp only [List.setIfInBounds_toArray, List.set_cons_succ, List.set_cons_zero] at L3
  have bl : Below w.heap.size w3 (((w3.setCell ⟨w.heap.size, 0, none⟩ (.int .i64 (1 + u))).setCell ⟨w.heap.size, 1, none⟩ (.int .i64 (1 + d))).setCell ⟨w.heap.size, 2, none⟩ (.int .i64 (2 + t))) :=
    bset (bset (bset (Below.refl _ w3) (Nat.le_refl _)) (Nat.le_refl _)) (Nat.le_refl _)
  have CF := C3.under hB bl
  have GF : w.grownBy (((w3.setCell ⟨w.heap.size, 0, none⟩ (.int .i64 (1 + u))).setCell ⟨w.heap.size, 1, none⟩ (.int .i64 (1 + d))).setCell ⟨w.heap.size, 2, none⟩ (.int .i64 (2 + t))) (some cb) :=
    grown_far (grown_far (grown_far G (grown_set _ _ _ _) (fun k e => by simp at e; omega)) (grown_set _ _ _ _) (fun k e => by simp at e; omega)) (grown_set _ _ _ _) (fun k e => by simp at e; omega)
  have b0 := Go.Joins.cell_of_block L3 0
  have b1 := Go.Joins.cell_of_block L3 1
  have b2 := Go.Joins.cell_of_block L3 2
  refine bodyPost_ret (v := .agg #[.int .i64 (1 + u), .int .i64 (1 + d), .int .i64 (2 + t)]) (by simp [results, Try.results41, go_sem, b0, b1, b2]) rfl ⟨⟨1 + u, 1 + d, 2 + t⟩, rfl, ?_, CF, GF⟩
  show 1 ≤ 1 + u ∧ 1 + u ≤ 60 ∧ 1 ≤ 1 + d ∧ 1 + d ≤ 120 ∧ 2 ≤ 2 + t ∧ 2 + t ≤ 51
  omega

end Go.Proofs.Ytnhcmjfmfgoakaa
