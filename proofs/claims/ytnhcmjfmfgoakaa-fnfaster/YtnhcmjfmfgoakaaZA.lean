/- Draws: a right motor and course. -/
import Derived.Test.YtnhcmjfmfgoakaaZ
namespace Go.Proofs.Ytnhcmjfmfgoakaa
open Go.RowKit

theorem put3 {w w6 : World} {s B n : Nat} {u d t c0 c1 c2 v : Value} {ty : TypeId} {xs : List Value} (K : w6.heap[s]? = some (.cells #[c0, c1, c2] ty (0, 0))) (hb : Below s w w6) (O : w6.ownsRow B 3 1 v n xs) (hsB : s < B) :
    (((w6.setCell ⟨s, 0, none⟩ u).setCell ⟨s, 1, none⟩ d).setCell ⟨s, 2, none⟩ t).heap[s]? = some (.cells #[u, d, t] ty (0, 0)) ∧
    (((w6.setCell ⟨s, 0, none⟩ u).setCell ⟨s, 1, none⟩ d).setCell ⟨s, 2, none⟩ t).ownsRow s 3 1 v n xs ∧
    Below s w (((w6.setCell ⟨s, 0, none⟩ u).setCell ⟨s, 1, none⟩ d).setCell ⟨s, 2, none⟩ t) := by
  have L1 := Go.Joins.block_setCell (i := 0) K u
  have L2 := Go.Joins.block_setCell (i := 1) L1 d
  have L3 := Go.Joins.block_setCell (i := 2) L2 t
  simp only [List.setIfInBounds_toArray, List.set_cons_succ, List.set_cons_zero] at L3
  have hne : ∀ k, v.ownBlock = some k → some k ≠ some s := fun k hk e => by have := own_from O (Nat.le_refl _) k hk; simp at e; omega
  have O1 := own_far (own_far (own_far O (grown_set w6 s 0 u) hne) (grown_set _ s 1 d) hne) (grown_set _ s 2 t) hne
  exact ⟨L3, Go.Joins.ownsRow_le O1 (by omega), bset (bset (bset hb (Nat.le_refl _)) (Nat.le_refl _)) (Nat.le_refl _)⟩

set_option maxRecDepth 20000 in
set_option maxHeartbeats 3200000 in
theorem c16 (a : Option Addr) (cap : Nat) (zs : List Int) (w : World) (hz : Bytes w a zs) (hl : zs.length ≤ 1048576) :
    Calls Try.prog 16 #[.slice a zs.length cap] w fun e w' => ∃ m v L, e = .returned (.tuple #[MotorV.val m, v]) ∧ Drawn m ∧ w'.ownsRow w.heap.size 3 1 v (List.length L) (L.map (Value.int .i64)) ∧ 1 ≤ L.length ∧ L.length ≤ 26 ∧ (∀ x ∈ L, 1 ≤ x ∧ x ≤ 60) ∧ Below w.heap.size w w' := by
  have K0 : (w.alloc (.cells #[.int .i64 0, .int .i64 0, .int .i64 0] 25)).heap[w.heap.size]? = some (.cells #[.int .i64 0, .int .i64 0, .int .i64 0] 25 (0, 0)) := heap_alloc_new w _
  have HB0 := balloc w (.cells #[.int .i64 0, .int .i64 0, .int .i64 0] 25)
  go_enter Try.func16, Try.ntmps16
  go_wp2_with fail
  refine (c40 a cap zs _ (hz.below HB0) hl).mono ?_
  rintro e w1 ⟨cb, rfl, hcb, C1, hb⟩
  have K1 := (hb.block w.heap.size (by simp)).trans K0
  have HB1 := btrans HB0 hb
  rw [sz1] at hcb
  clear K0 HB0 hb
  go_wp2_with fail
  refine (c41 cb cap a zs _ C1 hl).mono ?_
  rintro e w2 ⟨m, rfl, hD, C2, G2⟩
  have K2 := (G2.block w.heap.size (lt_of_block K1) (by simp; omega)).trans K1
  have HB2 : Below w.heap.size w w2 := HB1.grown G2 HB1.size (fun k e => by simp at e; omega)
  clear K1 HB1 C1 G2
  obtain ⟨u, d, t⟩ := m
  unfold MotorV.val
  go_wp2_with fail
  have bA := balloc w2 (.cells #[.int .i64 u, .int .i64 d, .int .i64 t] 25)
  have HB3 := btrans HB2 bA
  have C3 := C2.below bA
  have K3 := (bA.block w.heap.size (lt_of_block K2)).trans K2
  have X3 := Bx3.new w2 (.int .i64 u) (.int .i64 d) (.int .i64 t) 25
  have hs1 := lt_of_block K2
  have hcb2 : cb < w2.heap.size := C2.lt (.inl rfl)
  have k0 : (w2.alloc (.cells #[.int .i64 u, .int .i64 d, .int .i64 t] 25)).cell? ⟨w.heap.size, 0, none⟩ = some (.int .i64 0) := Go.Joins.cell_of_block K3 0
  have k1 : (w2.alloc (.cells #[.int .i64 u, .int .i64 d, .int .i64 t] 25)).cell? ⟨w.heap.size, 1, none⟩ = some (.int .i64 0) := Go.Joins.cell_of_block K3 1
  have k2 : (w2.alloc (.cells #[.int .i64 u, .int .i64 d, .int .i64 t] 25)).cell? ⟨w.heap.size, 2, none⟩ = some (.int .i64 0) := Go.Joins.cell_of_block K3 2
  have f0 := Go.Joins.unfrozen_of_block K3 0
  have f1 := Go.Joins.unfrozen_of_block K3 1
  have f2 := Go.Joins.unfrozen_of_block K3 2
  clear bA K2 HB2 C2
  generalize hW : w2.alloc (.cells #[.int .i64 u, .int .i64 d, .int .i64 t] 25) = W at *
  have hWs : w2.heap.size < W.heap.size := by rw [← hW]; simp
  have hW := hide hW
  obtain ⟨x0, x1, x2⟩ := id X3
  have Cd : Cur W.drew cb a cap zs := Cur.below C3 (Below.refl _ W).drew
  go_region_with (first
    | (go_at_call 43; refine (c43 _ _ _ 24 _ hl (by omega) (by omega)).mono ?_; rintro e w5 ⟨r, rfl, r0, r1, hw⟩; obtain rfl := hw.symm)
    | (go_at_call 42; rw [wrap_in (2 + r) (by omega) (by omega)]; refine (c42 cb cap a zs (2 + r) W.drew Cd hl (by omega) (by omega)).mono ?_; rintro e w6 ⟨v, L, rfl, O6, l0, l1, hall, C6, G6⟩
       have K6 := (G6.block w.heap.size (lt_of_block K3) (by simp; omega)).trans K3
       have y0 : w6.cell? ⟨w2.heap.size, 0, none⟩ = _ := (G6.cell_far ⟨w2.heap.size, 0, none⟩ hWs (by simp; omega)).trans x0
       have y1 : w6.cell? ⟨w2.heap.size, 1, none⟩ = _ := (G6.cell_far ⟨w2.heap.size, 1, none⟩ hWs (by simp; omega)).trans x1
       have y2 : w6.cell? ⟨w2.heap.size, 2, none⟩ = _ := (G6.cell_far ⟨w2.heap.size, 2, none⟩ hWs (by simp; omega)).trans x2
       have s0 : w6.cell? ⟨w.heap.size, 0, none⟩ = some (.int .i64 0) := Go.Joins.cell_of_block K6 0
       have s1 : w6.cell? ⟨w.heap.size, 1, none⟩ = some (.int .i64 0) := Go.Joins.cell_of_block K6 1
       have s2 : w6.cell? ⟨w.heap.size, 2, none⟩ = some (.int .i64 0) := Go.Joins.cell_of_block K6 2
       have q0 := Go.Joins.unfrozen_of_block K6 0
       have q1 := Go.Joins.unfrozen_of_block K6 1
       have q2 := Go.Joins.unfrozen_of_block K6 2))
  all_goals have B6 : Below w.heap.size w w6 := HB3.drew.grown G6 HB3.size (fun k e => by simp at e; omega)
  all_goals have hsW : w.heap.size < W.heap.size := lt_of_block K3
  all_goals have FIN := put3 (u := .int .i64 u) (d := .int .i64 d) (t := .int .i64 t) K6 B6 O6 hsW
  all_goals clear O6 C6 G6 K6 B6 C3 Cd x0 x1 x2 y0 y1 y2 X3 HB3 K3
  all_goals go_wp2_with fail
  all_goals obtain ⟨L3, O7, B7⟩ := FIN
  all_goals have b0 := Go.Joins.cell_of_block L3 0
  all_goals have b1 := Go.Joins.cell_of_block L3 1
  all_goals have b2 := Go.Joins.cell_of_block L3 2
  all_goals exact bodyPost_ret (v := .tuple #[.agg #[.int .i64 u, .int .i64 d, .int .i64 t], v]) (by simp [results, Try.results16, go_sem, b0, b1, b2]) rfl ⟨⟨u, d, t⟩, v, L, rfl, hD, O7, l0, by omega, hall, B7⟩
end Go.Proofs.Ytnhcmjfmfgoakaa
