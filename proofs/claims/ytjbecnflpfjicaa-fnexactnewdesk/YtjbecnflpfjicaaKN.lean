/- NewDesk of both; desks like it compared, marked, held. -/
import Derived.Test.YtjbecnflpfjicaaKE
namespace Go.Proofs.Ytjbecnflpfjicaa
open Go.RowKit
def rows0 : List (List Int) := [[5, 3, 4, 1, 2], [], []]
def room0 : List Int := [6, 4, 4]
def deskV (r t : Nat) : Value := .agg #[.int .i64 1, .slice none 0 0, .slice none 0 0, .int .i64 4, .int .i64 5, .slice none 0 0, .slice (some ⟨r, 0, none⟩) 3 3, .slice (some ⟨t, 0, none⟩) 3 3]
theorem own_blk1 {w : World} {B g n e : Nat} {cs : Array Value} (h : w.heap[g]? = some (.cells cs e (0, 0))) (hB : B ≤ g) (hn : cs.size = n) (hm : n ≤ maxLen) : w.ownsRow B e 1 (.slice (some ⟨g, 0, none⟩) n n) n cs.toList := by
  refine ⟨by simp [hn], .inr ⟨g, n, cs, rfl, hB, h, Nat.le_refl _, hm, by omega, ?_⟩⟩
  rw [Nat.mul_one, List.take_of_length_le (by simp [hn])]
/-- Room and rows of a new desk, where they lie. -/
theorem sid_new {w : World} {B r t q : Nat} (v1 v2 : Value) (hr : w.heap[r]? = some (.cells #[.int .i64 6, .int .i64 4, .int .i64 4] 3 (0, 0))) (hq : w.heap[q]? = some (.cells #[.int .i64 5, .int .i64 3, .int .i64 4, .int .i64 1, .int .i64 2] 3 (0, 0)))
    (ht : w.heap[t]? = some (.cells #[.slice (some ⟨q, 0, none⟩) 5 5, v1, v2] 29 (0, 0))) (h1 : RowI w B v1 []) (h2 : RowI w B v2 []) (b1 : B ≤ r) (b2 : B ≤ q) (b3 : B ≤ t) (hrq : q ≠ r)
    (n1 : ∀ k, v1.ownBlock = some k → k ≠ r ∧ k ≠ q) (n2 : ∀ k, v2.ownBlock = some k → k ≠ r ∧ k ≠ q ∧ v1.ownBlock ≠ some k) : SidO B w (.slice (some ⟨r, 0, none⟩) 3 3) (.slice (some ⟨t, 0, none⟩) 3 3) [.slice (some ⟨q, 0, none⟩) 5 5, v1, v2] room0 rows0 := by
  have hm3 : (3 : Nat) ≤ maxLen := by unfold maxLen; omega
  have hm5 : (5 : Nat) ≤ maxLen := by unfold maxLen; omega
  have R0 : RowI w B (.slice (some ⟨q, 0, none⟩) 5 5) [5, 3, 4, 1, 2] := .inl (own_blk1 hq b2 rfl hm5)
  refine ⟨.inl (own_blk1 hr b1 rfl hm3), ⟨own_blk1 ht b3 rfl hm3, ?_, ?_⟩, ?_⟩
  · intro j hj
    match j, hj with
    | 0, _ => exact R0
    | 1, _ => exact h1
    | 2, _ => exact h2
  · intro i j hi hj hne k hk hk2
    match i, j, hi, hj with
    | 0, 0, _, _ => exact hne rfl
    | 0, 1, _, _ => simp only [List.getElem_cons_zero, Value.ownBlock, Option.some.injEq] at hk; exact (n1 k hk2).2 hk.symm
    | 0, 2, _, _ => simp only [List.getElem_cons_zero, Value.ownBlock, Option.some.injEq] at hk; exact (n2 k hk2).2.1 hk.symm
    | 1, 0, _, _ => simp only [List.getElem_cons_zero, Value.ownBlock, Option.some.injEq] at hk2; exact (n1 k hk).2 hk2.symm
    | 1, 1, _, _ => exact hne rfl
    | 1, 2, _, _ => exact (n2 k hk2).2.2 hk
    | 2, 0, _, _ => simp only [List.getElem_cons_zero, Value.ownBlock, Option.some.injEq] at hk2; exact (n2 k hk).2.1 hk2.symm
    | 2, 1, _, _ => exact (n2 k hk).2.2 hk2
    | 2, 2, _, _ => exact hne rfl
  · intro j hj k hk e
    simp only [Value.ownBlock, Option.some.injEq] at e
    match j, hj with
    | 0, _ => simp only [List.getElem_cons_zero, Value.ownBlock, Option.some.injEq] at hk; omega
    | 1, _ => exact (n1 k hk).1 e.symm
    | 2, _ => exact (n2 k hk).1 e.symm
theorem bkeep {w w' : World} {g : Nat} {o : Obj} (hb : Below w.heap.size w w') (h : w.heap[g]? = some o) : w'.heap[g]? = some o := (hb.block g (lt_of_block h)).trans h
theorem psize (w : World) (o : Obj) : (w.alloc o).heap.size = w.heap.size + 1 := by show (w.heap.push o).size = _; simp
theorem pold {w : World} (o : Obj) {k : Nat} {x : Obj} (h : w.heap[k]? = some x) : (w.alloc o).heap[k]? = some x := by
  have := lt_of_block h
  rw [heap_alloc_old _ _ this]; exact h
theorem pnew (w : World) (o : Obj) {k : Nat} (h : k = w.heap.size) : (w.alloc o).heap[k]? = some o := by subst h; exact heap_alloc_new w o
set_option maxRecDepth 20000 in
set_option maxHeartbeats 1600000 in
theorem cNewI (w : World) : Calls Try.prog 5 #[] w fun e w' => ∃ r t vs, e = .returned (deskV r t) ∧ SidO w.heap.size w' (.slice (some ⟨r, 0, none⟩) 3 3) (.slice (some ⟨t, 0, none⟩) 3 3) vs room0 rows0 ∧ Below w.heap.size w w' := by
  go_enter Try.func5, Try.ntmps5
  go_wp2
  obtain ⟨s, hs⟩ : ∃ s, w.heap.size = s := ⟨_, rfl⟩
  rw [hs]
  generalize ho1 : Obj.cells #[.int .i64 1, .slice none 0 0, .slice none 0 0, .int .i64 4, .int .i64 5, .slice none 0 0, .slice (some ⟨s + 1, 0, none⟩) 3 3, .slice (some ⟨s + 1 + 1 + 1, 0, none⟩) 3 3] 34 = o1
  generalize ho2 : Obj.cells #[.int .i64 6, .int .i64 4, .int .i64 4] 3 = o2
  generalize ho3 : Obj.cells #[.int .i64 5, .int .i64 3, .int .i64 4, .int .i64 1, .int .i64 2] 3 = o3
  generalize ho4 : Obj.cells #[.slice (some ⟨s + 1 + 1, 0, none⟩) 5 5, .slice none 0 0, .slice none 0 0] 29 = o4
  have HB := btrans (btrans (btrans (balloc w o1) (balloc _ o2)) (balloc _ o3)) (balloc _ o4)
  have k1 : ((((w.alloc o1).alloc o2).alloc o3).alloc o4).heap[s]? = some o1 := pold _ (pold _ (pold _ (pnew _ _ hs.symm)))
  have k2 : ((((w.alloc o1).alloc o2).alloc o3).alloc o4).heap[s + 1]? = some o2 := pold _ (pold _ (pnew _ _ (by rw [psize]; omega)))
  have k3 : ((((w.alloc o1).alloc o2).alloc o3).alloc o4).heap[s + 1 + 1]? = some o3 := pold _ (pnew _ _ (by rw [psize, psize]; omega))
  have k4 : ((((w.alloc o1).alloc o2).alloc o3).alloc o4).heap[s + 1 + 1 + 1]? = some o4 := pnew _ _ (by rw [psize, psize, psize]; omega)
  subst ho1 ho2 ho3 ho4
  refine bodyPost_ret (v := deskV (s + 1) (s + 1 + 1 + 1)) (results_cell_row Try.results5 _ _ s _ _ _ _ rfl k1 Try.underlying34 rfl (by kernel_rfl)) rfl ?_
  refine ⟨_, _, _, rfl, sid_new _ _ k2 k3 k4 (RowI.nil _ _) (RowI.nil _ _) (by omega) (by omega) (by omega) (by omega) (fun k h => by simp [Value.ownBlock] at h) (fun k h => by simp [Value.ownBlock] at h), by rw [hs] at HB; exact HB⟩
set_option maxRecDepth 20000 in
set_option maxHeartbeats 1600000 in
theorem cNewS (w : World) : Calls Try.prog 4 #[] w fun e w' => ∃ r t vs, e = .returned (deskV r t) ∧ SidO w.heap.size w' (.slice (some ⟨r, 0, none⟩) 3 3) (.slice (some ⟨t, 0, none⟩) 3 3) vs room0 rows0 ∧ Below w.heap.size w w' := by
  go_enter Try.func4, Try.ntmps4
  go_wp2
  obtain ⟨s, hs⟩ : ∃ s, w.heap.size = s := ⟨_, rfl⟩
  rw [hs]
  generalize ho1 : Obj.cells #[.int .i64 1, .slice none 0 0, .slice none 0 0, .int .i64 4, .int .i64 5, .slice none 0 0, .slice (some ⟨s + 1, 0, none⟩) 3 3, .slice (some ⟨s + 1 + 1 + 1 + 1 + 1, 0, none⟩) 3 3] 34 = o1
  generalize ho2 : Obj.cells #[.int .i64 6, .int .i64 4, .int .i64 4] 3 = o2
  generalize ho3 : Obj.cells #[.int .i64 5, .int .i64 3, .int .i64 4, .int .i64 1, .int .i64 2] 3 = o3
  generalize ho4 : Obj.cells #[] 3 = o4
  generalize ho5 : Obj.cells #[.slice (some ⟨s + 1 + 1, 0, none⟩) 5 5, .slice (some ⟨s + 1 + 1 + 1, 0, none⟩) 0 0, .slice (some ⟨s + 1 + 1 + 1 + 1, 0, none⟩) 0 0] 29 = o5
  have HB := btrans (btrans (btrans (btrans (btrans (balloc w o1) (balloc _ o2)) (balloc _ o3)) (balloc _ o4)) (balloc _ o4)) (balloc _ o5)
  obtain ⟨W, hW⟩ : ∃ W, (((((w.alloc o1).alloc o2).alloc o3).alloc o4).alloc o4).alloc o5 = W := ⟨_, rfl⟩
  have k1 : W.heap[s]? = some o1 := by rw [← hW]; exact pold _ (pold _ (pold _ (pold _ (pold _ (pnew _ _ hs.symm)))))
  have k2 : W.heap[s + 1]? = some o2 := by rw [← hW]; exact pold _ (pold _ (pold _ (pold _ (pnew _ _ (by rw [psize]; omega)))))
  have k3 : W.heap[s + 1 + 1]? = some o3 := by rw [← hW]; exact pold _ (pold _ (pold _ (pnew _ _ (by rw [psize, psize]; omega))))
  have k4 : W.heap[s + 1 + 1 + 1]? = some o4 := by rw [← hW]; exact pold _ (pold _ (pnew _ _ (by rw [psize, psize, psize]; omega)))
  have k5 : W.heap[s + 1 + 1 + 1 + 1]? = some o4 := by rw [← hW]; exact pold _ (pnew _ _ (by rw [psize, psize, psize, psize]; omega))
  have k6 : W.heap[s + 1 + 1 + 1 + 1 + 1]? = some o5 := by rw [← hW]; exact pnew _ _ (by rw [psize, psize, psize, psize, psize]; omega)
  rw [hW] at HB ⊢
  subst ho1 ho2 ho3 ho4 ho5
  have hm0 : (0 : Nat) ≤ maxLen := Nat.zero_le _
  have e0 : ∀ g, W.heap[g]? = some (.cells #[] 3 (0, 0)) → s ≤ g → RowI W s (.slice (some ⟨g, 0, none⟩) 0 0) [] := fun g h hg => .inl (own_blk1 h hg rfl hm0)
  refine bodyPost_ret (v := deskV (s + 1) (s + 1 + 1 + 1 + 1 + 1)) (results_cell_row Try.results4 _ _ s _ _ _ _ rfl k1 Try.underlying34 rfl (by kernel_rfl)) rfl ?_
  refine ⟨_, _, _, rfl, sid_new _ _ k2 k3 k6 (e0 _ k4 (by omega)) (e0 _ k5 (by omega)) (by omega) (by omega) (by omega) (by omega) (fun k h => ?_) (fun k h => ?_), by rw [hs] at HB; exact HB⟩
  · simp only [Value.ownBlock, Option.some.injEq] at h; omega
  · simp only [Value.ownBlock, Option.some.injEq, ne_eq] at h ⊢; omega
theorem blk8 {w : World} {g : Nat} {c0 c1 c2 c3 c4 c5 c6 c7 : Value} {t : TypeId} (h : w.heap[g]? = some (.cells #[c0, c1, c2, c3, c4, c5, c6, c7] t (0, 0))) :
    (w.cell? ⟨g, 0, none⟩ = some c0 ∧ w.cell? ⟨g, 1, none⟩ = some c1 ∧ w.cell? ⟨g, 2, none⟩ = some c2 ∧ w.cell? ⟨g, 3, none⟩ = some c3 ∧ w.cell? ⟨g, 4, none⟩ = some c4 ∧ w.cell? ⟨g, 5, none⟩ = some c5 ∧ w.cell? ⟨g, 6, none⟩ = some c6 ∧ w.cell? ⟨g, 7, none⟩ = some c7) ∧ True :=
  ⟨⟨Go.Joins.cell_of_block h 0, Go.Joins.cell_of_block h 1, Go.Joins.cell_of_block h 2, Go.Joins.cell_of_block h 3, Go.Joins.cell_of_block h 4, Go.Joins.cell_of_block h 5, Go.Joins.cell_of_block h 6, Go.Joins.cell_of_block h 7⟩, trivial⟩
theorem rows0_len : ∀ i, i < rows0.length → (rwA rows0 i).length ≤ 1048576 := by
  intro i hi
  match i, hi with
  | 0, _ => show (5 : Nat) ≤ _; omega
  | 1, _ => show (0 : Nat) ≤ _; omega
  | 2, _ => show (0 : Nat) ≤ _; omega
theorem two_blocks8 (w : World) (o1 o2 : Obj) : ((w.alloc o1).alloc o2).heap[w.heap.size]? = some o1 ∧ ((w.alloc o1).alloc o2).heap[w.heap.size + 1]? = some o2 :=
  ⟨pold _ (pnew _ _ rfl), pnew _ _ (by rw [psize])⟩
set_option maxRecDepth 20000 in
set_option maxHeartbeats 1600000 in
theorem cEqDesk (B1 B2 r1 t1 r2 t2 : Nat) (us vs : List Value) (w : World) (h1 : SidO B1 w (.slice (some ⟨r1, 0, none⟩) 3 3) (.slice (some ⟨t1, 0, none⟩) 3 3) us room0 rows0) (h2 : SidO B2 w (.slice (some ⟨r2, 0, none⟩) 3 3) (.slice (some ⟨t2, 0, none⟩) 3 3) vs room0 rows0) :
    Calls Try.prog 6 #[deskV r1 t1, deskV r2 t2] w fun e w' => e = .returned (.bool true) ∧ Below w.heap.size w w' := by
  unfold deskV
  have HB := btrans (balloc w (.cells #[.int .i64 1, .slice none 0 0, .slice none 0 0, .int .i64 4, .int .i64 5, .slice none 0 0, .slice (some ⟨r1, 0, none⟩) 3 3, .slice (some ⟨t1, 0, none⟩) 3 3] 34)) (balloc _ (.cells #[.int .i64 1, .slice none 0 0, .slice none 0 0, .int .i64 4, .int .i64 5, .slice none 0 0, .slice (some ⟨r2, 0, none⟩) 3 3, .slice (some ⟨t2, 0, none⟩) 3 3] 34))
  obtain ⟨X, Y⟩ := two_blocks8 w (.cells #[.int .i64 1, .slice none 0 0, .slice none 0 0, .int .i64 4, .int .i64 5, .slice none 0 0, .slice (some ⟨r1, 0, none⟩) 3 3, .slice (some ⟨t1, 0, none⟩) 3 3] 34) (.cells #[.int .i64 1, .slice none 0 0, .slice none 0 0, .int .i64 4, .int .i64 5, .slice none 0 0, .slice (some ⟨r2, 0, none⟩) 3 3, .slice (some ⟨t2, 0, none⟩) 3 3] 34)
  go_enter Try.func6, Try.ntmps6
  obtain ⟨⟨x0, x1, x2, x3, x4, x5, x6, x7⟩, -⟩ := blk8 X
  obtain ⟨⟨y0, y1, y2, y3, y4, y5, y6, y7⟩, -⟩ := blk8 Y
  go_wp2_with fail
  clear x0 x1 x2 x3 x4 x5 x6 x7 y0 y1 y2 y3 y4 y5 y6 y7
  refine (cEqN0 _ _ _ _ _ _).mono ?_
  rintro e w1 ⟨rfl, hb⟩
  replace HB := btrans HB hb
  replace X := bkeep hb X
  replace Y := bkeep hb Y
  clear hb
  obtain ⟨⟨x0, x1, x2, x3, x4, x5, x6, x7⟩, -⟩ := blk8 X
  obtain ⟨⟨y0, y1, y2, y3, y4, y5, y6, y7⟩, -⟩ := blk8 Y
  go_wp2_with fail
  refine (cEqT0 _ _ _ _ _).mono ?_
  rintro e w2 ⟨rfl, hb⟩
  replace HB := btrans HB hb
  replace X := bkeep hb X
  replace Y := bkeep hb Y
  clear hb x0 x1 x2 x3 x4 x5 x6 x7 y0 y1 y2 y3 y4 y5 y6 y7
  obtain ⟨⟨x0, x1, x2, x3, x4, x5, x6, x7⟩, -⟩ := blk8 X
  obtain ⟨⟨y0, y1, y2, y3, y4, y5, y6, y7⟩, -⟩ := blk8 Y
  go_wp2_with fail
  refine (cEqR0 _ _ _ _ _ _ _).mono ?_
  rintro e w3 ⟨rfl, hb⟩
  replace HB := btrans HB hb
  replace X := bkeep hb X
  replace Y := bkeep hb Y
  clear hb x0 x1 x2 x3 x4 x5 x6 x7 y0 y1 y2 y3 y4 y5 y6 y7
  obtain ⟨⟨x0, x1, x2, x3, x4, x5, x6, x7⟩, -⟩ := blk8 X
  obtain ⟨⟨y0, y1, y2, y3, y4, y5, y6, y7⟩, -⟩ := blk8 Y
  go_wp2_with fail
  refine (cEqSid _ _ _ _ _ _ _ _ _ _ _ (h1.below HB) (h2.below HB) (by show (3 : Nat) ≤ _; omega) (by show (3 : Nat) ≤ _; omega) rows0_len).mono ?_
  rintro e w4 ⟨rfl, hb⟩
  replace HB := btrans HB hb
  go_wp2
  go_ret
  exact ⟨rfl, HB⟩
set_option maxRecDepth 20000 in
set_option maxHeartbeats 1600000 in
theorem cMarkDesk (B r t : Nat) (vs : List Value) (w : World) (h : SidO B w (.slice (some ⟨r, 0, none⟩) 3 3) (.slice (some ⟨t, 0, none⟩) 3 3) vs room0 rows0) :
    Calls Try.prog 7 #[deskV r t, .int .i64 1] w fun e w' => e = .returned (.int .i64 9) ∧ SidO B w' (.slice (some ⟨r, 0, none⟩) 3 3) (.slice (some ⟨t, 0, none⟩) 3 3) vs (marksInts 1 3) (mkR (1 + 3) rows0) ∧ Fr (SidB (.slice (some ⟨r, 0, none⟩) 3 3) (.slice (some ⟨t, 0, none⟩) 3 3) vs) w w' := by
  unfold deskV
  have HB := balloc w (.cells #[.int .i64 1, .slice none 0 0, .slice none 0 0, .int .i64 4, .int .i64 5, .slice none 0 0, .slice (some ⟨r, 0, none⟩) 3 3, .slice (some ⟨t, 0, none⟩) 3 3] 34)
  have X := heap_alloc_new w (.cells #[.int .i64 1, .slice none 0 0, .slice none 0 0, .int .i64 4, .int .i64 5, .slice none 0 0, .slice (some ⟨r, 0, none⟩) 3 3, .slice (some ⟨t, 0, none⟩) 3 3] 34)
  go_enter Try.func7, Try.ntmps7
  obtain ⟨⟨x0, x1, x2, x3, x4, x5, x6, x7⟩, -⟩ := blk8 X
  go_wp2_with fail
  clear x0 x1 x2 x3 x4 x5 x6 x7
  refine (cMarkN0 (k := 1) (h0 := by omega) _ _ _ _).mono ?_
  rintro e w1 ⟨rfl, hb⟩
  replace HB := btrans HB hb
  replace X := bkeep hb X
  clear hb
  obtain ⟨⟨x0, x1, x2, x3, x4, x5, x6, x7⟩, -⟩ := blk8 X
  go_wp2_with fail
  clear x0 x1 x2 x3 x4 x5 x6 x7
  refine (cMarkT0 (k := 1) _ _ _).mono ?_
  rintro e w1 ⟨rfl, hb⟩
  replace HB := btrans HB hb
  replace X := bkeep hb X
  clear hb
  obtain ⟨⟨x0, x1, x2, x3, x4, x5, x6, x7⟩, -⟩ := blk8 X
  go_wp2_with fail
  clear x0 x1 x2 x3 x4 x5 x6 x7
  refine (cMarkR0 (k := 1) (h0 := by omega) _ _ _ _ _).mono ?_
  rintro e w1 ⟨rfl, hb⟩
  replace HB := btrans HB hb
  replace X := bkeep hb X
  clear hb
  obtain ⟨⟨x0, x1, x2, x3, x4, x5, x6, x7⟩, -⟩ := blk8 X
  go_wp2_with fail
  clear x0 x1 x2 x3 x4 x5 x6 x7
  refine (cMarkSid B _ _ vs room0 rows0 1 _ (h.below HB) (by show (3 : Nat) ≤ _; omega) (by show (3 : Nat) ≤ _; omega) (by show (5 : Nat) ≤ _; omega) (by omega) (by omega)).mono ?_
  rintro e w5 ⟨rfl, hS, hF⟩
  have HF := (Fr.of_below (P := SidB (.slice (some ⟨r, 0, none⟩) 3 3) (.slice (some ⟨t, 0, none⟩) 3 3) vs) HB).trans hF
  have e9 : (1 : Int) + (room0.length : Nat) + (sm rows0 rows0.length : Nat) = 9 := rfl
  rw [e9]
  clear hF HB X
  go_wp2
  go_ret
  exact ⟨rfl, hS, HF⟩
set_option maxRecDepth 20000 in
set_option maxHeartbeats 1600000 in
theorem cHeldDesk (B r t : Nat) (vs : List Value) (w : World) (h : SidO B w (.slice (some ⟨r, 0, none⟩) 3 3) (.slice (some ⟨t, 0, none⟩) 3 3) vs (marksInts 1 3) (mkR (1 + 3) rows0)) :
    Calls Try.prog 8 #[deskV r t, .int .i64 1] w fun e w' => e = .returned (.int .i64 9) ∧ Below w.heap.size w w' := by
  unfold deskV
  have HB := balloc w (.cells #[.int .i64 1, .slice none 0 0, .slice none 0 0, .int .i64 4, .int .i64 5, .slice none 0 0, .slice (some ⟨r, 0, none⟩) 3 3, .slice (some ⟨t, 0, none⟩) 3 3] 34)
  have X := heap_alloc_new w (.cells #[.int .i64 1, .slice none 0 0, .slice none 0 0, .int .i64 4, .int .i64 5, .slice none 0 0, .slice (some ⟨r, 0, none⟩) 3 3, .slice (some ⟨t, 0, none⟩) 3 3] 34)
  go_enter Try.func8, Try.ntmps8
  obtain ⟨⟨x0, x1, x2, x3, x4, x5, x6, x7⟩, -⟩ := blk8 X
  go_wp2_with fail
  clear x0 x1 x2 x3 x4 x5 x6 x7
  refine (cHeldN0 (k := 1) (h0 := by omega) _ _ _ _).mono ?_
  rintro e w1 ⟨rfl, hb⟩
  replace HB := btrans HB hb
  replace X := bkeep hb X
  clear hb
  obtain ⟨⟨x0, x1, x2, x3, x4, x5, x6, x7⟩, -⟩ := blk8 X
  go_wp2_with fail
  clear x0 x1 x2 x3 x4 x5 x6 x7
  refine (cHeldT0 (k := 1) _ _ _).mono ?_
  rintro e w1 ⟨rfl, hb⟩
  replace HB := btrans HB hb
  replace X := bkeep hb X
  clear hb
  obtain ⟨⟨x0, x1, x2, x3, x4, x5, x6, x7⟩, -⟩ := blk8 X
  go_wp2_with fail
  clear x0 x1 x2 x3 x4 x5 x6 x7
  refine (cHeldR0 (k := 1) (h0 := by omega) _ _ _ _ _).mono ?_
  rintro e w1 ⟨rfl, hb⟩
  replace HB := btrans HB hb
  replace X := bkeep hb X
  clear hb
  obtain ⟨⟨x0, x1, x2, x3, x4, x5, x6, x7⟩, -⟩ := blk8 X
  go_wp2_with fail
  clear x0 x1 x2 x3 x4 x5 x6 x7
  refine (cHeldSid B _ _ vs 3 rows0 1 _ (h.below HB) (by omega) (by show (3 : Nat) ≤ _; omega) (by show (5 : Nat) ≤ _; omega) (by omega) (by omega)).mono ?_
  rintro e w5 ⟨rfl, hb⟩
  have e9 : (1 : Int) + ((3 : Nat) : Int) + (sm rows0 rows0.length : Nat) = 9 := rfl
  rw [e9]
  replace HB := btrans HB hb
  clear hb X
  go_wp2
  go_ret
  exact ⟨rfl, HB⟩
end Go.Proofs.Ytjbecnflpfjicaa
