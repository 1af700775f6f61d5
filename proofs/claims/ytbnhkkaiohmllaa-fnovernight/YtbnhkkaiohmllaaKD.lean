/- Inserting a placed task where there is no room. -/
import Derived.Test.YtbnhkkaiohmllaaKC
namespace Go.Proofs.Ytbnhkkaiohmllaa
open Go.RowKit Go.Lib

theorem zc_size (z : Value) (k : Nat) : (Builtin.zeroCells z.cells k).size = k * z.cells.size := by simp [Builtin.zeroCells]

set_option maxRecDepth 20000 in
set_option maxHeartbeats 3200000 in
/-- Ahead of another, where there is no room: a new row. -/
theorem cInsPls_grow (base g cap n i vb : Nat) (cur : Array Value) (xs vs : List Value) (w : World) (hB : base ≤ w.heap.size) (hh : w.heap[g]? = some (.cells cur 68 (0, 0))) (hnc : cap = n) (hcs : cur.size = cap * 6) (hx : cur.toList.take (n * 6) = xs) (hxl : xs.length = n * 6)
    (hn : n ≤ 1000) (hi : i < n) (hvl : vs.length = 6) (hvb : w.heap[vb]? = some (.cells vs.toArray 68 (0, 0))) (h1 : ∀ u ∈ vs, u.oneCell' = true) (h1x : ∀ u ∈ xs, u.oneCell' = true) :
    Calls Try.prog 87 #[.slice (some ⟨g, 0, none⟩) n cap, .int .i64 i, .slice (some ⟨vb, 0, none⟩) 1 1] w (InsPls w base (.slice (some ⟨g, 0, none⟩) n cap) n (xs.take (i * 6) ++ vs ++ xs.drop (i * 6))) := by
  subst hnc
  obtain ⟨i0, hi0, hz0, hzs, hzb⟩ := info_parts infoPls
  have hz2 : ¬ ((i : Int) = (cap : Int)) := by omega
  have hz3 : (cap : Int) < (cap : Int) + 1 := by omega
  have hw1 : IntKind.i64.wrap ((i : Int) + 1) = (i : Int) + 1 := wrap_in _ (by omega) (by omega)
  have hw2 : IntKind.i64.wrap ((cap : Int) + 1) = (cap : Int) + 1 := wrap_in _ (by omega) (by omega)
  have hw3 : IntKind.i64.wrap ((cap : Int) + 1 - (i : Int)) = (cap : Int) + 1 - (i : Int) := wrap_in _ (by omega) (by omega)
  have hb1 : (0 : Int) ≤ (i : Int) + 1 := by omega
  have hb7 : (i : Int) + 1 ≤ (cap : Int) + 1 := by omega
  have hin : (i : Int) ≤ (cap : Int) := by omega
  have hb3 : (i : Int) ≤ (cap : Int) + 1 := by omega
  have htn : ((i : Int) + 1).toNat = i + 1 := by omega
  have hb4 : ¬ (cap = i) := by omega
  have hgw : g < w.heap.size := lt_of_block hh
  have hvw : vb < w.heap.size := lt_of_block hvb
  have hcell : ∀ j v, xs[j]? = some v → w.cell? ⟨g, j, none⟩ = some v := fun j v hj => by
    rw [← hx, List.getElem?_take] at hj
    split at hj
    · simpa [World.cell?, hh] using hj
    · cases hj
  have hvc : ∀ j v, vs[j]? = some v → w.cell? ⟨vb, 0 + j, none⟩ = some v := fun j v hj => by simp [World.cell?, hvb, hj]
  have hold : (Builtin.firstCells i0.size i (.slice (some ⟨g, 0, none⟩) i cap)).run Try.prog w.drew = .ok (xs.take (i * 6)).toArray w.drew := by
    rw [hzs]
    exact run_firstCells_some w.drew 6 i ⟨g, 0, none⟩ i cap (xs.take (i * 6)) (by rw [List.length_take]; omega) (fun j v hj => by
      rw [addN, Nat.zero_add]
      rw [List.getElem?_take] at hj
      split at hj
      · exact hcell j v hj
      · cases hj)
  have hik : i + (cap + 1 - i) = cap + 1 := by omega
  have hkk : (cap : Int) + 1 - (i : Int) = ((cap + 1 - i : Nat) : Int) := by omega
  obtain ⟨G, hG⟩ : ∃ G, G = grownCap w (cap + 1) cap 68 := ⟨_, rfl⟩
  obtain ⟨ROW, hROW⟩ : ∃ ROW : Array Value, ROW = (xs.take (i * 6)).toArray ++ Builtin.zeroCells (Value.agg #[.int .i64 0, .int .i64 0, .int .i64 0, .int .i64 0, .int .i64 0, .int .i64 0]).cells (cap + 1 - i) ++ Builtin.zeroCells (Value.agg #[.int .i64 0, .int .i64 0, .int .i64 0, .int .i64 0, .int .i64 0, .int .i64 0]).cells (G - (cap + 1)) := ⟨_, rfl⟩
  have hrz : ∀ ty, (Builtin.append_ #[71, 3] ty #[.slice (some ⟨g, 0, none⟩) i cap, .int .i64 ((cap : Int) + 1 - (i : Int))]).run Try.prog w =
      .ok (.slice (some ⟨w.heap.size, 0, none⟩) (cap + 1) G) (w.drew.alloc (.cells ROW 68)) := fun ty => by
    have h := Lib.run_append_grow_zeros w 71 3 ty 68 i0 _ .i64 .i64 Try.underlying71 Try.underlying3 hi0 hz0 (some ⟨g, 0, none⟩) i cap (xs.take (i * 6)) hold (cap + 1 - i) (by omega) (by omega) (by omega) (by omega) (by rw [hzb]; omega) (by rw [hzb, hik]; exact growslice_fits (by omega) (by omega))
    rw [hik, ← hG, ← hROW] at h
    rw [hkk]
    exact h
  have hGn : cap + 1 ≤ G := by rw [hG]; exact grownCap_ge w _ _ _
  have hGm : G ≤ maxLen := by rw [hG]; exact grownCap_le_maxLen w _ _ _ (by unfold maxLen; omega)
  have hG63 := hGm
  unfold maxLen at hG63
  have hGi : ¬ (G = i) := by omega
  have hGim : ¬ (G = i + 1) := by omega
  have hRl : ROW.size = G * 6 := by
    rw [hROW]; simp only [Array.size_append, zc_size, List.size_toArray, List.length_take, hxl, show (Value.agg #[.int .i64 0, .int .i64 0, .int .i64 0, .int .i64 0, .int .i64 0, .int .i64 0]).cells.size = 6 from rfl]; omega
  have hRt : ROW.toList.take (i * 6) = xs.take (i * 6) := by
    rw [hROW]; simp only [Array.toList_append]
    rw [List.append_assoc, List.take_append_of_le_length (by simp [hxl]; omega), List.take_of_length_le (by simp; omega)]
  have hxd : (xs.drop (i * 6)).length = (cap - i) * 6 := by rw [List.length_drop, hxl, Nat.sub_mul]
  have hxt : (xs.take (i * 6)).length = i * 6 := by rw [List.length_take, hxl]; omega
  obtain ⟨R, hR⟩ : ∃ R, R = xs.take (i * 6) ++ vs ++ xs.drop (i * 6) := ⟨_, rfl⟩
  rw [← hR]
  obtain ⟨R1, hR1⟩ : ∃ R1, R1 = ROW.toList.take (i * 6) ++ vs ++ ROW.toList.drop (i * 6 + vs.length) := ⟨_, rfl⟩
  obtain ⟨R2, hR2⟩ : ∃ R2, R2 = R1.take (i * 6 + 6) ++ xs.drop (i * 6) ++ R1.drop (i * 6 + 6 + (xs.drop (i * 6)).length) := ⟨_, rfl⟩
  have hsr := grow_row ROW.toList (xs.take (i * 6)) (xs.drop (i * 6)) vs (i * 6) 6 hxt hvl hRt (by rw [hxd, show ROW.toList.length = ROW.size from rfl, hRl]; omega)
  simp only at hsr
  rw [← hR1, ← hR2, ← hR] at hsr
  obtain ⟨hl2, ht2⟩ := hsr
  rw [Array.length_toList] at hl2
  have hl1 : R1.length = ROW.size := by
    rw [hR1]; simp only [List.length_append, List.length_take, List.length_drop, Array.length_toList]; omega
  have hcpA : ∀ (W : World), W.heap[w.heap.size]? = some (.cells ROW 68 (0, 0)) → (∀ j v, vs[j]? = some v → W.cell? ⟨vb, 0 + j, none⟩ = some v) → ∀ ty dc, (Builtin.copy_ #[71, 71] ty #[.slice (some ⟨w.heap.size, i * 6, none⟩) (cap + 1 - i) dc, .slice (some ⟨vb, 0, none⟩) 1 1]).run Try.prog W = .ok (goInt (1 : Nat)) (W.setRow w.heap.size R1.toArray) := fun W hW hWv ty dc => by
    have := run_copy_s (P := Try.prog) W 71 68 ty 6 Try.underlying71 sizePls w.heap.size (i * 6) (cap + 1 - i) dc ⟨vb, 0, none⟩ 1 1 1 ROW 68 vs hW (Nat.min_eq_left (by omega)) (by omega) (by omega)
      (fun j v hj => by rw [addN]; exact hWv j v hj) h1
    rw [this, hR1]
  have hcpB : ∀ (W : World), W.heap[w.heap.size]? = some (.cells R1.toArray 68 (0, 0)) → (∀ j v, xs[j]? = some v → W.cell? ⟨g, j, none⟩ = some v) → ∀ ty dc sc, (Builtin.copy_ #[71, 71] ty #[.slice (some ⟨w.heap.size, (i + 1) * 6, none⟩) (cap - i) dc, .slice (some ⟨g, i * 6, none⟩) (cap - i) sc]).run Try.prog W = .ok (goInt (cap - i : Nat)) (W.setRow w.heap.size R2.toArray) := fun W hW hWx ty dc sc => by
    have := run_copy_s (P := Try.prog) W 71 68 ty 6 Try.underlying71 sizePls w.heap.size ((i + 1) * 6) (cap - i) dc ⟨g, i * 6, none⟩ (cap - i) sc (cap - i) R1.toArray 68 (xs.drop (i * 6)) hW (Nat.min_self _) hxd (by simp only [List.size_toArray, hl1, hRl]; omega)
      (fun j v hj => by rw [addN]; rw [List.getElem?_drop] at hj; exact hWx _ _ hj) (fun u hu => h1x u (List.mem_of_mem_drop hu))
    rw [this, hR2, show (i + 1) * 6 = i * 6 + 6 by omega]
  have hV0 : (w.alloc (.cells ROW 68)).drew.heap[w.heap.size]? = some (.cells ROW 68 (0, 0)) := heap_alloc_new w _
  have hV0v : ∀ j v, vs[j]? = some v → (w.alloc (.cells ROW 68)).drew.cell? ⟨vb, 0 + j, none⟩ = some v := fun j v hj => by
    show (w.alloc (.cells ROW 68)).cell? _ = _; rw [World.cell?_alloc_past (w := w) _ vb _ hvw]; exact hvc j v hj
  have hV0x : ∀ j v, xs[j]? = some v → (w.alloc (.cells ROW 68)).drew.cell? ⟨g, j, none⟩ = some v := fun j v hj => by
    show (w.alloc (.cells ROW 68)).cell? _ = _; rw [World.cell?_alloc_past (w := w) _ g _ hgw]; exact hcell j v hj
  have hV1x : ∀ j v, xs[j]? = some v → (((w.alloc (.cells ROW 68)).drew.setRow w.heap.size R1.toArray)).cell? ⟨g, j, none⟩ = some v := fun j v hj => by
    rw [cell_setRow_other _ _ _ _ (Nat.ne_of_lt hgw)]; exact hV0x j v hj
  have hV1 := setRow_heap ((w.alloc (.cells ROW 68)).drew) w.heap.size ROW R1.toArray _ _ hV0
  have hV2 : ((((w.alloc (.cells ROW 68)).drew.setRow w.heap.size R1.toArray).drew).setRow w.heap.size R2.toArray).heap[w.heap.size]? = some (.cells R2.toArray 68 (0, 0)) := setRow_heap (((w.alloc (.cells ROW 68)).drew.setRow w.heap.size R1.toArray).drew) w.heap.size R1.toArray R2.toArray _ _ hV1
  have hGr : w.grownBy ((((w.alloc (.cells ROW 68)).drew.setRow w.heap.size R1.toArray).drew).setRow w.heap.size R2.toArray) (some g) :=
    ⟨rfl, rfl, rfl, by rw [size_setRow]; show _ ≤ ((w.alloc (.cells ROW 68)).drew.setRow w.heap.size R1.toArray).heap.size; rw [size_setRow]; exact (balloc w _).size, fun k hk _ => by
      rw [setRow_other _ _ _ _ (Nat.ne_of_lt hk)]
      show ((w.alloc (.cells ROW 68)).drew.setRow w.heap.size R1.toArray).heap[k]? = _
      rw [setRow_other _ _ _ _ (Nat.ne_of_lt hk)]
      exact Below.heap_alloc w _ _ hk⟩
  have hO : ((((w.alloc (.cells ROW 68)).drew.setRow w.heap.size R1.toArray).drew).setRow w.heap.size R2.toArray).ownsRow base 68 6 (.slice (some ⟨w.heap.size, 0, none⟩) (cap + 1) G) (cap + 1) R := by
    refine ⟨?_, .inr ⟨w.heap.size, G, R2.toArray, rfl, hB, hV2, hGn, hGm, by simp [hl2, hRl], ?_⟩⟩
    · rw [hR]; simp only [List.length_append, hxt, hxd, hvl]; omega
    · rw [← ht2, hxd, show (cap + 1) * 6 = i * 6 + 6 + (cap - i) * 6 by omega]
  have hA : ∀ ty dc, (Builtin.copy_ #[71, 71] ty #[.slice (some ⟨w.heap.size, i * 6, none⟩) (cap + 1 - i) dc, .slice (some ⟨vb, 0, none⟩) 1 1]).run Try.prog (w.alloc (.cells ROW 68)).drew = .ok (goInt (1 : Nat)) ((w.alloc (.cells ROW 68)).drew.setRow w.heap.size R1.toArray) := hcpA _ hV0 hV0v
  have hBc : ∀ ty dc sc, (Builtin.copy_ #[71, 71] ty #[.slice (some ⟨w.heap.size, (i + 1) * 6, none⟩) (cap - i) dc, .slice (some ⟨g, i * 6, none⟩) (cap - i) sc]).run Try.prog (((w.alloc (.cells ROW 68)).drew.setRow w.heap.size R1.toArray).drew) = .ok (goInt (cap - i : Nat)) ((((w.alloc (.cells ROW 68)).drew.setRow w.heap.size R1.toArray).drew).setRow w.heap.size R2.toArray) := hcpB _ hV1 hV1x
  clear hR hR1 hR2 hl1 hl2 ht2 hcell hvc hxd hx hxl hxt hold hik hkk hG hRt hRl hV2 hROW
  go_enter Try.func87, Try.ntmps87
  go_wp2_with (first
    | (at_builtin; refine Lib.wpList_append_run _ rfl _ _ _ _ rfl _ _ rfl rfl _ _ (hrz _) ?_)
    | (simp only [hA, Result.andThen_ok]))
  go_region
  go_wp2
  go_ret
  exact ⟨_, rfl, hO, hGr, .inr rfl⟩
end Go.Proofs.Ytbnhkkaiohmllaa
