/- The yard of the program: a piece drawn, a shunt. -/
import Derived.Test.YtipechbhhpagiaaCZ
namespace Go.Proofs.Ytipechbhhpagiaa
open Go.RowKit
theorem RowI.block {w : World} {B : Nat} {v : Value} {xs : List Int} (h : RowI w B v xs) (hn : 1 ≤ xs.length) : ∃ g cap cur, v = .slice (some ⟨g, 0, none⟩) xs.length cap ∧ B ≤ g ∧ w.heap[g]? = some (.cells cur 3 (0, 0)) ∧ xs.length ≤ cap ∧ cap ≤ cur.size ∧ cur.size ≤ maxLen ∧ cur.toList.take xs.length = enc xs := by
  rcases h with h | ⟨g, cur, rfl, hB, hh, hs, hm, ht⟩
  · rcases h.2 with ⟨_, h0⟩ | ⟨g, cap', cur, rfl, hg, hh, hn', hm, hs, ht⟩
    · omega
    · exact ⟨g, cap', cur, rfl, hg, hh, hn', by omega, by omega, by rw [Nat.mul_one] at ht; exact ht⟩
  · exact ⟨g, xs.length, cur, rfl, hB, hh, Nat.le_refl _, hs, hm, ht⟩
/-- The beginning of a row, cut. -/
theorem RowI.cut {w : World} {B g cap : Nat} {xs : List Int} (h : RowI w B (.slice (some ⟨g, 0, none⟩) xs.length cap) xs) {K : Nat} (hK : K ≤ xs.length) (hn : 1 ≤ xs.length) : RowI w B (.slice (some ⟨g, 0, none⟩) K K) (xs.take K) := by
  obtain ⟨g', cap', cur, e, hB, hh, h1, h2, h3, h4⟩ := h.block hn
  simp only [Value.slice.injEq, Option.some.injEq, Addr.mk.injEq, and_true, true_and] at e
  obtain ⟨rfl, rfl⟩ := e
  have hl : (xs.take K).length = K := by rw [List.length_take]; omega
  refine .inr ⟨g, cur, by rw [hl], hB, hh, by rw [hl]; omega, h3, ?_⟩
  rw [hl, show cur.toList.take K = (cur.toList.take xs.length).take K by rw [List.take_take, Nat.min_eq_left hK], h4]
  simp [enc]
theorem RowI.tail {w : World} {B g cap : Nat} {xs : List Int} (h : RowI w B (.slice (some ⟨g, 0, none⟩) xs.length cap) xs) (K : Nat) : Ints w (some ⟨g, K, none⟩) (xs.drop K) := by
  obtain ⟨a, c, e, hI, -⟩ := h.form
  simp only [Value.slice.injEq] at e
  obtain ⟨rfl, -, rfl⟩ := e
  rcases hI.part K with h1 | ⟨b, off, e1, h1⟩
  · exact .inl h1
  · simp only [Option.some.injEq, Addr.mk.injEq, and_true] at e1
    obtain ⟨rfl, rfl⟩ := e1
    rw [Nat.zero_add] at h1
    exact h1
set_option maxRecDepth 20000 in
set_option maxHeartbeats 1600000 in
theorem cDraw (T o g n K m cap : Nat) (w : World) (hc : w.cell? ⟨T, o, none⟩ = some (.slice (some ⟨g, 0, none⟩) n cap)) (hf : w.frozen? ⟨T, o, none⟩ = false) (h1 : 1 ≤ m) (h2 : K + m = n) (hcap : n ≤ cap) (hl : n ≤ 1048576) :
    Calls Try.prog 79 #[.pointer (some ⟨T, o, none⟩), .int .i64 m] w fun e w' => e = .returned (.slice (some ⟨g, K, none⟩) m m) ∧ w' = w.setCell ⟨T, o, none⟩ (.slice (some ⟨g, 0, none⟩) K K) := by
  have e1 : (n : Int) - (m : Int) = (K : Int) := by omega
  have e2 : n - K = m := by omega
  have e3 : ¬ (n = K) := by omega
  have e4 : K ≤ n := by omega
  have e5 : K ≤ cap := by omega
  replace h2 := hide h2
  go_enter Try.func79, Try.ntmps79
  go_wp2
  go_ret
  exact ⟨rfl, rfl⟩
set_option maxHeartbeats 800000 in
theorem cHasRow (B Y : Nat) (rv v : Value) (vs : List Value) (room : List Int) (rows : List (List Int)) (x : Int) (w : World) (h : YardO B w Y rv v vs room rows) (lR : rows.length ≤ 1048576) :
    Calls Try.prog 77 #[.pointer (some ⟨Y, 0, none⟩), .int .i64 x] w fun e w' => e = .returned (.bool (inB x 0 ((rows.length : Int) - 1))) ∧ w' = w := by
  obtain ⟨⟨-, y1⟩, -⟩ := blk2 h.blk
  obtain ⟨ta, tc, htv⟩ := own_form h.tab.own
  subst htv
  go_enter Try.func77, Try.ntmps77
  go_wp2_with fail
  refine (cWithin x 0 ((rows.length : Int) - 1) _).mono ?_
  rintro e w1 ⟨rfl, hw⟩
  subst w1
  go_wp2
  go_ret
  exact ⟨rfl, rfl⟩
theorem setR_comm {rows : List (List Int)} {i j : Nat} {x y : List Int} (h : i ≠ j) : setR (setR rows i x) j y = setR (setR rows j y) i x := by
  unfold setR; exact List.set_comm x y h
/-- A yard whose table has turned in place. -/
theorem YardO.turn {B Y g c n : Nat} {w w2 : World} {rv u : Value} {vs : List Value} {room ys : List Int} {rows : List (List Int)} (h : YardO B w Y rv (.slice (some ⟨g, 0, none⟩) n c) vs room rows) {j : Nat} (hj : j < vs.length)
    (hg : w.grownBy w2 vs[j].ownBlock) (hr : RowI w2 B u ys) (hw : u.ownBlock = vs[j].ownBlock ∨ ∀ k, u.ownBlock = some k → w.heap.size ≤ k) :
    YardO B (w2.setCell ⟨g, j, none⟩ u) Y rv (.slice (some ⟨g, 0, none⟩) n c) (vs.set j u) room (setR rows j ys) := by
  have hP := h.tab.put (by decide) hj hg hr hw
  have hY2 : w2.heap[Y]? = some (.cells #[rv, .slice (some ⟨g, 0, none⟩) n c] 92 (0, 0)) := (hg.block Y (lt_of_block h.blk) (fun e => row_blk_ne (h.tab.each j hj) h.blk (by decide) Y e.symm rfl)).trans h.blk
  have hTY : g ≠ Y := own_blk_ne h.tab.own h.blk (by decide) g rfl
  have hRf := h.room.far hg (fun k hk e => h.far j hj k e hk)
  have hTg : ∀ k, rv.ownBlock = some k → k ≠ g := fun k hk e => row_apart h.tab.own h.room (by decide) k hk (by rw [e]; rfl)
  refine ⟨h.low, (heap_setCell (fun e => hTY e.symm)).trans hY2, hRf.same (fun k hk => heap_setCell (hTg k hk)), hP, fun i hi k hk => ?_⟩
  rw [List.length_set] at hi
  by_cases e : i = j
  · subst e
    rw [List.getElem_set_self] at hk
    rcases hw with hw | hw
    · exact h.far i hj k (hw ▸ hk)
    · intro e2; have := (h.room.blk k e2).2.1; have := hw k hk; omega
  · rw [List.getElem_set_ne (fun q => e q.symm)] at hk
    exact h.far i hi k hk
end Go.Proofs.Ytipechbhhpagiaa
