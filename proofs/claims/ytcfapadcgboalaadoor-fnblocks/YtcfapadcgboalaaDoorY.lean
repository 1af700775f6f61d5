/- The last train taken off a list of trains. -/
import Derived.Test.YtcfapadcgboalaaDoorX
namespace Go.Proofs.YtcfapadcgboalaaDoor
open Go.RowKit

theorem append0 (g m cap c : Nat) (ad : Addr) (ty : TypeId) (hm : m ≤ cap) (w : World) : (Builtin.append_ #[24, 24] ty #[.slice (some ⟨g, 0, none⟩) m cap, .slice (some ad) 0 c]).run Tryd.prog w = .ok (.slice (some ⟨g, 0, none⟩) m cap) w := by
  obtain ⟨i0, hi, hz0, hz1, hz2⟩ := info_parts2 infoSpans
  simp [Builtin.append_, run_underlying Tryd.underlying24, sizeOf, typeInfo, hi, Builtin.lenOf, Builtin.firstCells, hm, storeCells, loadCells, loadCellsFrom]
theorem run_clear1 (W : World) (g o c : Nat) (ty : TypeId) (x y : Value) (h0 : W.cell? ⟨g, o, none⟩ = some x) (h1 : W.cell? ⟨g, o + 1, none⟩ = some y) (f0 : W.frozen? ⟨g, o, none⟩ = false) (f1 : W.frozen? ⟨g, o + 1, none⟩ = false) :
    (Builtin.clear_ #[24] ty #[.slice (some ⟨g, o, none⟩) 1 c]).run Tryd.prog W = .ok (.tuple #[]) ((W.setCell ⟨g, o, none⟩ (.int .i64 0)).setCell ⟨g, o + 1, none⟩ (.int .i64 0)) := by
  have e : (Builtin.zeroCells (Value.agg #[.int .i64 0, .int .i64 0]).cells 1).toList = [.int .i64 0, .int .i64 0] := by simp [Builtin.zeroCells, Value.cells, List.range_succ]
  simp [Builtin.clear_, run_underlying Tryd.underlying24, e, storeCells, Addr.add]
  rw [run_store Tryd.prog W ⟨g, o, none⟩ _ _ (by rfl)]
  simp [h0, f0]
  have h1' : (W.setCell ⟨g, o, none⟩ (.int .i64 0)).cell? ⟨g, o + 1, none⟩ = some y := (World.cell?_setCell_other _ _ _ _ (by simp)).trans h1
  rw [run_store Tryd.prog _ ⟨g, o + 1, none⟩ _ _ (by rfl)]
  simp [h1', f1]
theorem own_prefix {w : World} {B e g m k cap : Nat} {xs : List Value} (h : w.ownsRow B e 2 (.slice (some ⟨g, 0, none⟩) m cap) m xs) (hk : k ≤ m) : w.ownsRow B e 2 (.slice (some ⟨g, 0, none⟩) k cap) k (xs.take (k * 2)) := by
  obtain ⟨h1, h2⟩ := h
  refine ⟨by rw [List.length_take, h1]; omega, ?_⟩
  rcases h2 with ⟨h, _⟩ | ⟨g', cap', cur, hv, hB, hh, hm, hx, hs, ht⟩
  · simp at h
  · simp only [Value.slice.injEq, Option.some.injEq, Addr.mk.injEq, and_true, true_and] at hv
    obtain ⟨rfl, rfl⟩ := hv
    refine .inr ⟨g, cap, cur, rfl, hB, hh, by omega, hx, hs, ?_⟩
    rw [← ht, List.take_take]
    congr 1
    omega
/-- Cells behind the row's end turn nothing of it. -/
theorem own_after {w : World} {B e g m cap o : Nat} {xs : List Value} {u : Value} (h : w.ownsRow B e 2 (.slice (some ⟨g, 0, none⟩) m cap) m xs) (ho : m * 2 ≤ o) : (w.setCell ⟨g, o, none⟩ u).ownsRow B e 2 (.slice (some ⟨g, 0, none⟩) m cap) m xs := by
  obtain ⟨h1, h2⟩ := h
  refine ⟨h1, ?_⟩
  rcases h2 with ⟨h, _⟩ | ⟨g', cap', cur, hv, hB, hh, hm, hx, hs, ht⟩
  · simp at h
  · simp only [Value.slice.injEq, Option.some.injEq, Addr.mk.injEq, and_true, true_and] at hv
    obtain ⟨rfl, rfl⟩ := hv
    refine .inr ⟨g, cap, cur.setIfInBounds o u, rfl, hB, Go.Joins.block_setCell hh u, hm, hx, by simpa using hs, ?_⟩
    rw [Array.toList_setIfInBounds, List.take_set_of_le (by omega)]
    exact ht
theorem flat_take (ts : List SpanV) (m : Nat) : (flatSpans ts).take (m * 2) = flatSpans (ts.take m) := by
  induction m generalizing ts with
  | zero => simp [flatSpans]
  | succ m ih =>
    cases ts with
    | nil => simp [flatSpans]
    | cons t ts =>
      rw [flatSpans_cons, List.take_succ_cons, flatSpans_cons, ← ih ts]
      have e : (m + 1) * 2 = m * 2 + 1 + 1 := by omega
      rw [e]; rfl

set_option maxRecDepth 20000 in
set_option maxHeartbeats 3200000 in
theorem cDelete (B g m cap : Nat) (ts : List SpanV) (w : World) (hm : ts.length = m + 1) (hl : m + 1 ≤ 1048576) (ho : w.ownsRow B 34 2 (.slice (some ⟨g, 0, none⟩) (m + 1) cap) (m + 1) (flatSpans ts)) :
    Calls Tryd.prog 41 #[.slice (some ⟨g, 0, none⟩) (m + 1) cap, .int .i64 (m : Int), .int .i64 ((m : Int) + 1)] w fun e w' => e = .returned (.slice (some ⟨g, 0, none⟩) m cap) ∧
      w'.ownsRow B 34 2 (.slice (some ⟨g, 0, none⟩) m cap) m (flatSpans (ts.take m)) ∧ w.grownBy w' (some g) := by
  have hcap : m + 1 ≤ cap := by
    rcases ho.2 with ⟨h, _⟩ | ⟨g', cap', cur, hv, hB, hh, hm, _⟩
    · simp at h
    · simp only [Value.slice.injEq, Option.some.injEq, Addr.mk.injEq, and_true, true_and] at hv
      omega
  obtain ⟨y0, y1⟩ := flatSpans_get ts m (by omega)
  have z0 := (ho.cellAt (m * 2) (by omega)).trans y0
  have z1 := (ho.cellAt (m * 2 + 1) (by omega)).trans y1
  have f0 := ho.frozenAt (m * 2)
  have f1 := ho.frozenAt (m * 2 + 1)
  have hp := own_prefix ho (k := m) (by omega)
  rw [flat_take] at hp
  have hp2 := own_after (o := m * 2 + 1) (u := .int .i64 0) (own_after (o := m * 2) (u := .int .i64 0) hp (Nat.le_refl _)) (by omega)
  have hgr : w.grownBy ((w.setCell ⟨g, m * 2, none⟩ (.int .i64 0)).setCell ⟨g, m * 2 + 1, none⟩ (.int .i64 0)) (some g) := gset (gset (World.grownBy.refl _ _) _ _) _ _
  have hcl := fun ty => run_clear1 w g (m * 2) (cap - m) ty _ _ z0 z1 f0 f1
  have hcl2 := fun ty => run_clear1 w.drew g (m * 2) (cap - m) ty _ _ z0 z1 f0 f1
  have ha := fun ad c ty (w : World) => append0 g m cap c ad ty (show m ≤ cap by omega) w
  clear ho y0 y1 z0 z1 f0 f1 hp hm
  generalize flatSpans (ts.take m) = F at *
  have i1 : (0 : Int) ≤ (m : Int) := by omega
  have i2 : (m : Int) ≤ (m : Int) + 1 := by omega
  have i3 : (m : Int) + 1 ≤ (cap : Int) := by omega
  have i4 : ¬ ((m : Int) = (m : Int) + 1) := by omega
  have i5 : ((m : Int) + 1).toNat = m + 1 := by omega
  have i6 : (m : Int) ≤ (cap : Int) := by omega
  have i7 : m + 1 ≠ m := by omega
  have i8 : cap ≠ m := by omega
  have i9 : (0 : Int) ≤ (m : Int) + 1 := by omega
  have hdr : w.grownBy ((w.setCell ⟨g, m * 2, none⟩ (.int .i64 0)).setCell ⟨g, m * 2 + 1, none⟩ (.int .i64 0)).drew (some g) := ⟨hgr.os, hgr.tape, hgr.output, hgr.size, hgr.block⟩
  by_cases hc : cap = m + 1
  · subst hc
    have e : m + 1 - m = 1 := by omega
    rw [e] at hcl hcl2
    go_enter Tryd.func41, Tryd.ntmps41
    go_wp2
    go_region
    all_goals go_wp2
    all_goals go_ret
    all_goals first | exact ⟨rfl, hp2, hgr⟩ | exact ⟨rfl, hp2, hdr⟩
  · go_enter Tryd.func41, Tryd.ntmps41
    go_wp2
    go_region
    all_goals go_wp2
    all_goals go_ret
    all_goals first | exact ⟨rfl, hp2, hgr⟩ | exact ⟨rfl, hp2, hdr⟩
end Go.Proofs.YtcfapadcgboalaaDoor
