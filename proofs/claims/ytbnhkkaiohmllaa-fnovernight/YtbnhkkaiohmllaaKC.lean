/- Inserting a placed task ahead of another. -/
import Derived.Test.YtbnhkkaiohmllaaKB
namespace Go.Proofs.Ytbnhkkaiohmllaa
open Go.RowKit Go.Lib

theorem addN (b off i : Nat) : (⟨b, off, none⟩ : Addr).add i = ⟨b, off + i, none⟩ := by
  by_cases h : i = 0
  · subst h; simp [Addr.add]
  · simp [Addr.add, h]
theorem sizePls : (Try.prog.info? 68).map (·.size) = some 6 := by
  obtain ⟨i0, hi, hz0, hz1, hz2⟩ := info_parts infoPls
  rw [hi]; simp [hz1]

set_option maxRecDepth 20000 in
set_option maxHeartbeats 3200000 in
/-- Ahead of another, where there is room: in place. -/
theorem cInsPls_shift (base g cap n i vb : Nat) (cur : Array Value) (xs vs : List Value) (w : World) (hg : base ≤ g) (hh : w.heap[g]? = some (.cells cur 68 (0, 0))) (hnc : n + 1 ≤ cap) (hcm : cap ≤ maxLen) (hcs : cur.size = cap * 6) (hx : cur.toList.take (n * 6) = xs) (hxl : xs.length = n * 6)
    (hn : n ≤ 1000) (hi : i < n) (hvl : vs.length = 6) (hvb : w.heap[vb]? = some (.cells vs.toArray 68 (0, 0))) (hne : vb ≠ g) (h1 : ∀ u ∈ vs, u.oneCell' = true) (h1x : ∀ u ∈ xs, u.oneCell' = true) :
    Calls Try.prog 87 #[.slice (some ⟨g, 0, none⟩) n cap, .int .i64 i, .slice (some ⟨vb, 0, none⟩) 1 1] w (InsPls w base (.slice (some ⟨g, 0, none⟩) n cap) n (xs.take (i * 6) ++ vs ++ xs.drop (i * 6))) := by
  have hcm' := hcm
  unfold maxLen at hcm'
  have hz2 : ¬ ((i : Int) = (n : Int)) := by omega
  have hz3 : ¬ ((cap : Int) < (n : Int) + 1) := by omega
  have hw1 : IntKind.i64.wrap ((i : Int) + 1) = (i : Int) + 1 := wrap_in _ (by omega) (by omega)
  have hw2 : IntKind.i64.wrap ((n : Int) + 1) = (n : Int) + 1 := wrap_in _ (by omega) (by omega)
  have hb1 : (0 : Int) ≤ (i : Int) + 1 := by omega
  have hb5 : (0 : Int) ≤ (n : Int) + 1 := by omega
  have hb6 : (n : Int) + 1 ≤ (cap : Int) := by omega
  have hb7 : (i : Int) + 1 ≤ (n : Int) + 1 := by omega
  have hin : (i : Int) ≤ (n : Int) := by omega
  have hb3 : (i : Int) ≤ (n : Int) + 1 := by omega
  have htn : ((i : Int) + 1).toNat = i + 1 := by omega
  have htm : ((n : Int) + 1).toNat = n + 1 := by omega
  have hb2 : ¬ (cap = i + 1) := by omega
  have hb4 : ¬ (cap = i) := by omega
  have hov : ∀ lb cb, (callFunc 88 #[.slice (some ⟨vb, 0, none⟩) 1 1, .slice (some ⟨g, (i + 1) * 6, none⟩) lb cb]).run Try.prog w = .ok (.value (.bool false)) w := fun lb cb => by
    rw [run_callFunc_extern Try.func88 (by kernel_rfl) (by kernel_rfl) (by kernel_rfl) (e := Extern.SlicesOverlaps.overlaps #[71, 71] #[4]) (by kernel_rfl),
      Lib.run_overlaps_apart w 71 4 68 Try.underlying71 6 (fun w => by kernel_rfl) ⟨vb, 0, none⟩ ⟨g, (i + 1) * 6, none⟩ 1 1 lb cb hne 68 68 vs.length cur.size (by simp [World.shape?, hvb]) (by simp [World.shape?, hh]) (by omega) (by simp [World.frozen?, hvb]) (by simp [World.frozen?, hvb])]
    rfl
  obtain ⟨R, hR⟩ : ∃ R, R = xs.take (i * 6) ++ vs ++ xs.drop (i * 6) := ⟨_, rfl⟩
  rw [← hR]
  have hxd : (xs.drop (i * 6)).length = (n - i) * 6 := by rw [List.length_drop, hxl, Nat.sub_mul]
  obtain ⟨R1, hR1⟩ : ∃ R1, R1 = cur.toList.take ((i + 1) * 6) ++ xs.drop (i * 6) ++ cur.toList.drop ((i + 1) * 6 + (xs.drop (i * 6)).length) := ⟨_, rfl⟩
  obtain ⟨R2, hR2⟩ : ∃ R2, R2 = R1.take (i * 6) ++ vs ++ R1.drop (i * 6 + vs.length) := ⟨_, rfl⟩
  have hsr := shift_row cur.toList vs (i * 6) (n * 6) 6 hvl (by omega) (by rw [Array.length_toList, hcs]; omega)
  simp only [hx, show i * 6 + 6 = (i + 1) * 6 by omega] at hsr
  rw [← hR1, ← hR2, ← hR] at hsr
  obtain ⟨hl2, ht2⟩ := hsr
  rw [Array.length_toList] at hl2
  have hl1 : R1.length = cur.size := by
    rw [hR1]; simp only [List.length_append, List.length_take, List.length_drop, Array.length_toList]; omega
  have hcell : ∀ j v, xs[j]? = some v → w.cell? ⟨g, j, none⟩ = some v := fun j v hj => by
    rw [← hx, List.getElem?_take] at hj
    split at hj
    · simpa [World.cell?, hh] using hj
    · cases hj
  have hvc : ∀ j v, vs[j]? = some v → w.cell? ⟨vb, 0 + j, none⟩ = some v := fun j v hj => by simp [World.cell?, hvb, hj]
  have hcp1 : ∀ ty dc sc, (Builtin.copy_ #[71, 71] ty #[.slice (some ⟨g, (i + 1) * 6, none⟩) (n - i) dc, .slice (some ⟨g, i * 6, none⟩) (n + 1 - i) sc]).run Try.prog w.drew = .ok (goInt (n - i : Nat)) (w.drew.setRow g R1.toArray) := fun ty dc sc => by
    have := run_copy_s (P := Try.prog) w.drew 71 68 ty 6 Try.underlying71 sizePls g ((i + 1) * 6) (n - i) dc ⟨g, i * 6, none⟩ (n + 1 - i) sc (n - i) cur 68 (xs.drop (i * 6)) hh (Nat.min_eq_right (by omega)) hxd (by omega)
      (fun j v hj => by rw [List.getElem?_drop] at hj; rw [show (⟨g, i * 6, none⟩ : Addr).add j = ⟨g, i * 6 + j, none⟩ from addN _ _ _]; exact hcell _ _ hj) (fun u hu => h1x u (List.mem_of_mem_drop hu))
    rw [this, hR1]
  have hcp2 : ∀ ty dc, (Builtin.copy_ #[71, 71] ty #[.slice (some ⟨g, i * 6, none⟩) (n + 1 - i) dc, .slice (some ⟨vb, 0, none⟩) 1 1]).run Try.prog (w.drew.setRow g R1.toArray) = .ok (goInt (1 : Nat)) ((w.drew.setRow g R1.toArray).setRow g R2.toArray) := fun ty dc => by
    have := run_copy_s (P := Try.prog) (w.drew.setRow g R1.toArray) 71 68 ty 6 Try.underlying71 sizePls g (i * 6) (n + 1 - i) dc ⟨vb, 0, none⟩ 1 1 1 R1.toArray 68 vs (setRow_heap _ g cur _ _ _ hh) (Nat.min_eq_left (by omega)) (by omega) (by simp only [List.size_toArray, hl1]; omega)
      (fun j v hj => by rw [addN, cell_setRow_other _ _ _ _ hne]; exact hvc j v hj) h1
    rw [this, hR2]
  have hG : w.grownBy ((w.drew.setRow g R1.toArray).setRow g R2.toArray) (some g) :=
    ⟨rfl, rfl, rfl, by simp, fun k hk hne => by rw [setRow_other _ _ _ _ (fun h => hne (by rw [h])), setRow_other _ _ _ _ (fun h => hne (by rw [h]))]; rfl⟩
  have hO : ((w.drew.setRow g R1.toArray).setRow g R2.toArray).ownsRow base 68 6 (.slice (some ⟨g, 0, none⟩) (n + 1) cap) (n + 1) R := by
    refine ⟨?_, .inr ⟨g, cap, R2.toArray, rfl, hg, setRow_heap _ g R1.toArray _ _ _ (setRow_heap _ g cur _ _ _ hh), hnc, hcm, by simp [hl2, hcs], ?_⟩⟩
    · rw [hR]; simp only [List.length_append, List.length_take, hxd, hvl]; omega
    · rw [← ht2, show (n + 1) * 6 = n * 6 + 6 by omega]
  generalize hV : (w.drew.setRow g R1.toArray).setRow g R2.toArray = V at *
  generalize w.drew.setRow g R1.toArray = U at *
  clear hR hR1 hR2 hl1 hl2 ht2 hcell hxd hx hxl hV
  go_enter Try.func87, Try.ntmps87
  go_wp2_with (simp only [hov])
  go_region_law (refine step_copy_run rfl _ _ 71 71 rfl _ _ (by simp [Act.eval, Act.put]) (by simp [Act.eval, Act.put]) (hcp1 _ _ _) ?_)
  go_wp2_with (at_builtin; refine wpList_copy_run _ rfl _ _ 71 71 rfl _ _ rfl rfl (hcp2 _ _) ?_)
  go_ret
  exact ⟨_, rfl, hO, hG, .inl rfl⟩
end Go.Proofs.Ytbnhkkaiohmllaa
