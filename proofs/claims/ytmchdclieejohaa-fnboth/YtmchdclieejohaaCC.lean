/- NextRun: the program's text, which ranges over a function. -/
import Derived.RangeFuncNested
import Derived.RangeFuncBound
import Derived.RangeFuncCalls
import Derived.RangeFuncLeaves
import Derived.Shelf.Abstract
import Derived.Shelf.RegionOpen
import Derived.WalkKit
import Derived.OwnWalkIn
import Derived.TacticsInMore
import Derived.LoopNIn
import Derived.LoopIn
import Derived.Test.YtmchdclieejohaaCB
namespace Go.Proofs.Ytmchdclieejohaa
open Go.RowKit Go.Shelf
attribute [local go_sem] Oper.semAt_some

/-- The first of the days that is not ahead of d; -1 where there is none. -/
def nextOf (xs : List Int) (d : Int) : Int := (xs.find? (fun x => decide (d ≤ x))).getD (-1)
theorem next_none {xs : List Int} {d : Int} (h : ∀ y ∈ xs, y < d) : nextOf xs d = -1 := by
  have : xs.find? (fun x => decide (d ≤ x)) = none := by rw [List.find?_eq_none]; intro y hy; have := h y hy; simp; omega
  simp [nextOf, this]
theorem next_some {xs pre : List Int} {d x : Int} (h : pre ++ [x] <+: xs) (hp : ∀ y ∈ pre, y < d) (hx : d ≤ x) : nextOf xs d = x := by
  obtain ⟨rest, rfl⟩ := h
  have h0 : pre.find? (fun x => decide (d ≤ x)) = none := by rw [List.find?_eq_none]; intro y hy; have := hp y hy; simp; omega
  simp [nextOf, List.find?_append, h0, hx]

set_option maxRecDepth 100000 in
set_option maxHeartbeats 4000000 in
theorem c23 (a1 a2 : Option Addr) (p1 p2 : Nat) (zs es : List Int) (W F T d : Int) (w : World) (hz : Ints w a1 zs) (he : Ints w a2 es) (hl1 : zs.length ≤ 1048576) (hl2 : es.length ≤ 1048576) :
    Calls Try.prog 23 #[.agg #[.int .i64 W, .int .i64 F, .int .i64 T, .slice a1 zs.length p1, .slice a2 es.length p2], .int .i64 d] w fun e W' => e = .returned (.int .i64 (nextOf (runList W F T zs es) d)) ∧ Below w.heap.size w W' := by
  refine (callsIn_wide (n := 4)).1 ?_
  refine callsIn_of_wp_marks Try.func23 rfl trivial ?_ rfl
  simp only [Try.ntmps23, List.size_toArray, List.length_cons, List.length_nil, Nat.reduceAdd, Nat.reduceSub, Array.replicate_succ, Array.replicate_zero, List.push_toArray, List.append_toArray, List.nil_append, List.cons_append]
  gi_wp2_with (refine ⟨trivial, ?_⟩; gi_at_call 41; refine (c41 _ a1 a2 p1 p2 zs es W F T _).mono ?_; rintro e w' ⟨rfl, rfl⟩)
  obtain ⟨k1, k2, k3⟩ := three_blocks w (.cells #[.int .i64 W, .int .i64 F, .int .i64 T, .slice a1 zs.length p1, .slice a2 es.length p2] 26) (.cells #[.int .i64 d] 3) (.cells #[.int .i64 0] 3)
  have sz3 := size3 w (.cells #[.int .i64 W, .int .i64 F, .int .i64 T, .slice a1 zs.length p1, .slice a2 es.length p2] 26) (.cells #[.int .i64 d] 3) (.cells #[.int .i64 0] 3)
  have HB3 : Below w.heap.size w (((w.alloc (.cells #[.int .i64 W, .int .i64 F, .int .i64 T, .slice a1 zs.length p1, .slice a2 es.length p2] 26)).alloc (.cells #[.int .i64 d] 3)).alloc (.cells #[.int .i64 0] 3)) := btrans (btrans (balloc _ _) (balloc _ _)) (balloc _ _)
  obtain ⟨V0, hV0⟩ : ∃ V0, ((w.alloc (.cells #[.int .i64 W, .int .i64 F, .int .i64 T, .slice a1 zs.length p1, .slice a2 es.length p2] 26)).alloc (.cells #[.int .i64 d] 3)).alloc (.cells #[.int .i64 0] 3) = V0 := ⟨_, rfl⟩
  rw [hV0] at k1 k2 k3 sz3 HB3 ⊢
  clear hV0
  have k4 : (V0.alloc (.cells #[.int .i64 W, .int .i64 F, .int .i64 T, .slice a1 zs.length p1, .slice a2 es.length p2] 26)).heap[w.heap.size + 1 + 1 + 1]? = some (.cells #[.int .i64 W, .int .i64 F, .int .i64 T, .slice a1 zs.length p1, .slice a2 es.length p2] 26 (0, 0)) := by rw [← sz3]; exact World.alloc_heap_new V0 _
  have HB := btrans HB3 (balloc V0 (.cells #[.int .i64 W, .int .i64 F, .int .i64 T, .slice a1 zs.length p1, .slice a2 es.length p2] 26))
  have sz : (V0.alloc (.cells #[.int .i64 W, .int .i64 F, .int .i64 T, .slice a1 zs.length p1, .slice a2 es.length p2] 26)).heap.size = w.heap.size + 1 + 1 + 1 + 1 := by simp [sz3]
  replace k2 := keepblk' (balloc V0 (.cells #[.int .i64 W, .int .i64 F, .int .i64 T, .slice a1 zs.length p1, .slice a2 es.length p2] 26)) k2
  replace k3 := keepblk' (balloc V0 (.cells #[.int .i64 W, .int .i64 F, .int .i64 T, .slice a1 zs.length p1, .slice a2 es.length p2] 26)) k3
  obtain ⟨W0, hW0⟩ : ∃ W0, V0.alloc (.cells #[.int .i64 W, .int .i64 F, .int .i64 T, .slice a1 zs.length p1, .slice a2 es.length p2] 26) = W0 := ⟨_, rfl⟩
  rw [hW0] at k2 k3 k4 sz HB ⊢
  clear hW0 HB3 k1
  have hc2 := cell_of_box k2
  have hc3 := cell_of_box k3
  refine wpIn_rangeFunc_ownF rfl (by omega) (gf := 59) (lb := #[.pointer (some ⟨w.heap.size + 1 + 1 + 1, 0, none⟩)]) rfl trivial (enters_of Try.func59 (by kernel_rfl) rfl)
    (seq59 (4 - 1) (by omega) (w.heap.size + 1 + 1 + 1) w.heap.size a1 a2 p1 p2 zs es W F T w W0 hz he hl1 hl2 (Nat.le_refl _) HB (by omega) k4) KB.t (KB.b (by omega) (by omega)) (Below.refl _ _) (fun _ => rfl)
    (fun pre W' => ((∀ y ∈ pre, y < d) ∧ W'.cell? ⟨w.heap.size + 1, 0, none⟩ = some (.int .i64 d) ∧ W'.cell? ⟨w.heap.size + 1 + 1, 0, none⟩ = some (.int .i64 0) ∧ W'.frozen? ⟨w.heap.size + 1 + 1, 0, none⟩ = false) ∧ Below w.heap.size w W')
    (fun c pre W' => (c = .ret ∧ ∃ pr x, pre = pr ++ [x] ∧ (∀ y ∈ pr, y < d) ∧ d ≤ x ∧ W'.cell? ⟨w.heap.size + 1 + 1, 0, none⟩ = some (.int .i64 x)) ∧ Below w.heap.size w W')
    (OwnFrom.and (Own.from (fun s A B row hs hg hr => ⟨hs.1, cell_kept hs.2.1 hg hr, cell_kept hs.2.2.1 hg hr, (frozen_kept hs.2.2.1 hg hr).trans hs.2.2.2⟩) _) (ownFrom_below (Nat.le_refl _) (by omega)))
    (fun c => OwnFrom.and (Own.from (fun s A B row hs hg hr => by obtain ⟨h1, pr, x, h2, h3, h4, h5⟩ := hs; exact ⟨h1, pr, x, h2, h3, h4, cell_kept h5 hg hr⟩) _) (ownFrom_below (Nat.le_refl _) (by omega)))
    ⟨⟨by simp, hc2.1, hc3.1, hc3.2⟩, HB⟩
    (fun x => { tmps := #[.agg #[.int .i64 W, .int .i64 F, .int .i64 T, .slice a1 zs.length p1, .slice a2 es.length p2], .int .i64 d, .pointer (some ⟨w.heap.size, 0, none⟩), .pointer (some ⟨w.heap.size + 1, 0, none⟩), .pointer (some ⟨w.heap.size + 1 + 1, 0, none⟩), .int .i64 x, .agg #[.int .i64 W, .int .i64 F, .int .i64 T, .slice a1 zs.length p1, .slice a2 es.length p2], .func (.func 59) #[] #[.pointer (some ⟨w.heap.size + 1 + 1 + 1, 0, none⟩)], .int .i64 x, undef, undef, undef, undef], defers := [] }) ?assign ?body ?done ?stop
  case assign =>
    intro l x W1 K hK
    gi_wp2
    exact hK
  case body =>
    rintro l pre x W1 ⟨⟨hp, hcw, hcr, hfr⟩, hB1⟩ _
    by_cases hx : d ≤ x
    · gi_wp2
      exact ⟨KeepsOthers.setCell _ _ _, ⟨rfl, pre, x, rfl, hp, hx, World.cell?_setCell_same' _ _ _ (by rw [hcr]; rfl)⟩, hB1.setCell (p := ⟨w.heap.size + 1 + 1, 0, none⟩) (by simp; omega) _⟩
    · gi_wp2
      exact ⟨KeepsOthers.refl _, ⟨Below.refl _ _, rfl⟩, ⟨fun y hy => (List.mem_append.1 hy).elim (hp y) (fun e => by simp at e; omega), hcw, hcr, hfr⟩, hB1⟩
  case done =>
    rintro D ys W1 hD rfl ⟨⟨hne, _, hcr, hfr⟩, hB1⟩ hK
    gi_wp2
    have hK' := (KeepsOthers.setCell W1 ⟨w.heap.size + 1 + 1, 0, none⟩ (.int .i64 (-1))).same D _ hK rfl
    refine ⟨by simp, .inl ⟨_, _, rfl, run_takeDeferred hK', ?_⟩⟩
    have hc5 := cell_kept (World.cell?_setCell_same' W1 ⟨w.heap.size + 1 + 1, 0, none⟩ (.int .i64 (-1)) (by rw [hcr]; rfl)) (grownBy_putObj' _ D (.deferred none)) (fun r e => by cases e; exact ⟨_, hK', rfl⟩)
    refine ⟨.int .i64 (-1), ?_, by rw [next_none hne], (hB1.setCell (p := ⟨w.heap.size + 1 + 1, 0, none⟩) (by simp; omega) _).trans (belowK_b (w := w) (Nat.le_refl _) _ D _ _ (by omega) hK' rfl rfl)⟩
    simp [results, Try.f23, go_sem, hc5]
  case stop =>
    rintro D c pre W1 hD hpre ⟨⟨rfl, pr, x, rfl, hp, hx, hcr⟩, hB1⟩ hK
    gi_wp2
    refine ⟨by simp, .inl ⟨_, _, rfl, run_takeDeferred hK, ?_⟩⟩
    have hc5 := cell_kept hcr (grownBy_putObj' _ D (.deferred none)) (fun r e => by cases e; exact ⟨_, hK, rfl⟩)
    refine ⟨.int .i64 x, ?_, by rw [next_some hpre hp hx], hB1.trans (belowK_b (w := w) (Nat.le_refl _) W1 D _ _ (by omega) hK rfl rfl)⟩
    simp [results, Try.f23, go_sem, hc5]
end Go.Proofs.Ytmchdclieejohaa
