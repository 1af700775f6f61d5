/- Taking a booking out of a row. -/
import Derived.Test.YtgnlcehpajbnoaaCE
import Derived.Deep.RegionHeld3
namespace Go.Proofs.Ytgnlcehpajbnoaa
open Go.RowKit Go.Lib
theorem step_append_run {P : Program} {ops : Array Oper} {o : Oper} {a : Act} {w : World} {K : Act → World → Prop} {Q : Exit → Act → World → Prop} {E : Prop}
    (hg : o.guard = none) (d x : Operand) (dT sT : TypeId) (hop : o.op = Op.call { callee := Callee.builtin Builtin.append, args := #[d, x], argTypes := #[dT, sT] })
    (v u : Value) (hd : a.eval d = v) (hx : a.eval x = u) {v' : Value} {w' : World} (hr : (Builtin.append_ #[dT, sT] o.type #[v, u]).run P w = .ok v' w') (hK : K (a.put o.dst v') w') :
    if Region.wanted o (yielded ops a.tmps) = true then Oper.wp P o a w K Q else E := by
  have hw : Region.wanted o (yielded ops a.tmps) = true := by simp [Region.wanted, hg]
  rw [if_pos hw]
  unfold Oper.wp
  simp [execOp, hop, resolve, invoke, builtin, hd, hx, hr, Result.andThen]
  exact hK
theorem run_clear4 (w : World) (g o c : Nat) (cur : Array Value) (ty : TypeId) (hg : w.heap[g]? = some (.cells cur 78 (0, 0))) (hf : o + 4 ≤ cur.size) :
    (Builtin.clear_ #[24] ty #[.slice (some ⟨g, o, none⟩) 1 c]).run Try.prog w = .ok (.tuple #[]) (w.setRow g (cur.toList.take o ++ [Value.int .i64 0, Value.int .i64 0, Value.int .i64 0, Value.int .i64 0] ++ cur.toList.drop (o + 4)).toArray) := by
  obtain ⟨i0, hi, hz0, hz1, hz2⟩ := info_parts infoBks
  have hst := run_storeCells_at Try.prog g o 78 [Value.int .i64 0, Value.int .i64 0, Value.int .i64 0, Value.int .i64 0] 0 cur w hg (by simpa using hf) (by simp [Value.oneCell'])
  have hzc : (Builtin.zeroCells (Value.agg #[Value.int .i64 0, Value.int .i64 0, Value.int .i64 0, Value.int .i64 0]).cells 1).toList = [Value.int .i64 0, Value.int .i64 0, Value.int .i64 0, Value.int .i64 0] := by
    simp [Builtin.zeroCells, Value.cells, Array.range]
  simp at hst
  simp [Builtin.clear_, run_underlying Try.underlying24, zeroValue, typeInfo, hi, hz0, hzc, hst]
/-- What is left of a row behind a deletion. -/
theorem del_row {α : Type} (cur Z : List α) (A s L : Nat) (hZ : Z.length = s) (hA : A + s ≤ L) (hL : L ≤ cur.length) :
    let c1 := cur.take A ++ (cur.take L).drop (A + s) ++ cur.drop (A + ((cur.take L).drop (A + s)).length)
    let c2 := c1.take (L - s) ++ Z ++ c1.drop (L - s + s)
    c1.length = cur.length ∧ c2.length = cur.length ∧ c2.take (L - s) = (cur.take L).take A ++ (cur.take L).drop (A + s) := by
  intro c1 c2
  have hD : ((cur.take L).drop (A + s)).length = L - (A + s) := by rw [List.length_drop, List.length_take]; omega
  have l1 : c1.length = cur.length := by
    show (cur.take A ++ (cur.take L).drop (A + s) ++ cur.drop (A + ((cur.take L).drop (A + s)).length)).length = _
    simp only [List.length_append, hD, List.length_take, List.length_drop]; omega
  have e1 : c1.take (L - s) = cur.take A ++ (cur.take L).drop (A + s) := by
    show (cur.take A ++ (cur.take L).drop (A + s) ++ cur.drop (A + ((cur.take L).drop (A + s)).length)).take (L - s) = _
    rw [List.take_append_of_le_length (by simp only [List.length_append, hD, List.length_take]; omega), List.take_of_length_le (by simp only [List.length_append, hD, List.length_take]; omega)]
  refine ⟨l1, ?_, ?_⟩
  · show (c1.take (L - s) ++ Z ++ c1.drop (L - s + s)).length = _
    simp only [List.length_append, List.length_take, List.length_drop, hZ, l1]; omega
  · show (c1.take (L - s) ++ Z ++ c1.drop (L - s + s)).take (L - s) = _
    rw [List.append_assoc, List.take_append_of_le_length (by rw [List.length_take, l1]; omega), List.take_of_length_le (by rw [List.length_take]; omega), e1, List.take_take, Nat.min_eq_left (by omega)]

set_option maxRecDepth 20000 in
set_option maxHeartbeats 3200000 in
theorem cDel (base g cap n i : Nat) (xs : List Value) (w : World) (ho : w.ownsRow base 78 4 (.slice (some ⟨g, 0, none⟩) n cap) n xs) (hn : n ≤ 1000) (hi : i < n) (h1x : ∀ u ∈ xs, u.oneCell' = true) :
    Calls Try.prog 81 #[.slice (some ⟨g, 0, none⟩) n cap, .int .i64 i, .int .i64 (i + 1 : Nat)] w fun e w' => e = .returned (.slice (some ⟨g, 0, none⟩) (n - 1) cap) ∧
      w'.ownsRow base 78 4 (.slice (some ⟨g, 0, none⟩) (n - 1) cap) (n - 1) (xs.take (i * 4) ++ xs.drop ((i + 1) * 4)) ∧ w.grownBy w' (some g) := by
  obtain ⟨i0, hi0, hz0, hzs, hzb⟩ := info_parts infoBks
  rcases ho.2 with ⟨h0, _⟩ | ⟨g', cap', cur, he, hg, hh, hnc, hcm, hcs, hx⟩
  · cases h0
  simp only [Value.slice.injEq, Option.some.injEq, Addr.mk.injEq] at he
  obtain ⟨⟨rfl, _⟩, _, rfl⟩ := he
  have hxl := ho.1
  have hcm' := hcm
  unfold maxLen at hcm'
  obtain ⟨m, rfl⟩ : ∃ m, n = m + 1 := ⟨n - 1, by omega⟩
  have hdr := del_row cur.toList [Value.int .i64 0, Value.int .i64 0, Value.int .i64 0, Value.int .i64 0] (i * 4) 4 ((m + 1) * 4) rfl (by omega) (by rw [Array.length_toList, hcs]; exact Nat.mul_le_mul_right 4 hnc)
  simp only [hx, show i * 4 + 4 = (i + 1) * 4 by omega, show (m + 1) * 4 - 4 = m * 4 by omega] at hdr
  have hxd : (xs.drop ((i + 1) * 4)).length = (m - i) * 4 := by rw [List.length_drop, hxl]; omega
  obtain ⟨R1, hR1⟩ : ∃ R1, R1 = cur.toList.take (i * 4) ++ xs.drop ((i + 1) * 4) ++ cur.toList.drop (i * 4 + (xs.drop ((i + 1) * 4)).length) := ⟨_, rfl⟩
  obtain ⟨R2, hR2⟩ : ∃ R2, R2 = R1.take (m * 4) ++ [Value.int .i64 0, Value.int .i64 0, Value.int .i64 0, Value.int .i64 0] ++ R1.drop (m * 4 + 4) := ⟨_, rfl⟩
  rw [← hR1, ← hR2] at hdr
  obtain ⟨hl1, hl2, ht2⟩ := hdr
  rw [Array.length_toList] at hl1 hl2
  have hcell : ∀ j v, xs[j]? = some v → w.cell? ⟨g, j, none⟩ = some v := fun j v hj => by
    rw [← hx, List.getElem?_take] at hj
    split at hj
    · simpa [World.cell?, hh] using hj
    · cases hj
  have hap : ∀ ty, ∃ A, (if cap = i + 1 then (some ⟨g, 0, none⟩ : Option Addr) else some ⟨g, (i + 1) * 4, none⟩) = some A ∧ (Builtin.append_ #[24, 24] ty #[.slice (some ⟨g, 0, none⟩) i cap, .slice (some A) (m - i) (cap - (i + 1))]).run Try.prog w.drew = .ok (.slice (some ⟨g, 0, none⟩) m cap) (w.drew.setRow g R1.toArray) := fun ty => by
    have him : i + (m - i) = m := by omega
    by_cases hc : cap = i + 1
    · refine ⟨⟨g, 0, none⟩, by simp [hc], ?_⟩
      have hnil : xs.drop ((i + 1) * 4) = [] := List.length_eq_zero_iff.1 (by rw [hxd]; omega)
      have := run_append_room (P := Try.prog) w.drew 24 ty 78 i0 Try.underlying24 hi0 g i cap cur hh ⟨g, 0, none⟩ (m - i) (cap - (i + 1)) [] (by rw [show m - i = 0 by omega]; simp) (fun j u hu => by simp at hu) (fun u hu => by simp at hu) (by omega) (by rw [hzs]; simp; omega)
      rw [this, hzs, hR1, hnil, him]
    · refine ⟨⟨g, (i + 1) * 4, none⟩, by simp [hc], ?_⟩
      have := run_append_room (P := Try.prog) w.drew 24 ty 78 i0 Try.underlying24 hi0 g i cap cur hh ⟨g, (i + 1) * 4, none⟩ (m - i) (cap - (i + 1)) (xs.drop ((i + 1) * 4)) (by rw [hzs]; exact hxd) (fun j u hu => by rw [addN]; rw [List.getElem?_drop] at hu; exact hcell _ _ hu) (fun u hu => h1x u (List.mem_of_mem_drop hu)) (by omega) (by rw [hzs, hxd]; omega)
      rw [this, hzs, hR1, him]
  have hV1 := setRow_heap w.drew g cur R1.toArray 78 (0, 0) hh
  have hcl : ∀ ty c, (Builtin.clear_ #[24] ty #[.slice (some ⟨g, m * 4, none⟩) 1 c]).run Try.prog (w.drew.setRow g R1.toArray) = .ok (.tuple #[]) ((w.drew.setRow g R1.toArray).setRow g R2.toArray) := fun ty c => by
    have := run_clear4 (w.drew.setRow g R1.toArray) g (m * 4) c R1.toArray ty hV1 (by have h1 : R1.toArray.size = cur.size := hl1; rw [h1, hcs]; omega)
    rw [this, hR2]
  have hG : w.grownBy ((w.drew.setRow g R1.toArray).setRow g R2.toArray) (some g) := ⟨rfl, rfl, rfl, by simp, fun k hk hne => by rw [setRow_other _ _ _ _ (fun h => hne (by rw [h])), setRow_other _ _ _ _ (fun h => hne (by rw [h]))]; rfl⟩
  have hO : ((w.drew.setRow g R1.toArray).setRow g R2.toArray).ownsRow base 78 4 (.slice (some ⟨g, 0, none⟩) m cap) m (xs.take (i * 4) ++ xs.drop ((i + 1) * 4)) := by
    refine ⟨?_, .inr ⟨g, cap, R2.toArray, rfl, hg, setRow_heap _ g R1.toArray _ _ _ hV1, by omega, hcm, by simp [hl2, hcs], ht2⟩⟩
    rw [List.length_append, hxd, List.length_take, hxl]; omega
  have hb1 : (i : Int) ≤ (i : Int) + 1 := by omega
  have hb2 : (i : Int) + 1 ≤ (m : Int) + 1 := by omega
  have hb3 : (i : Int) ≤ (cap : Int) := by omega
  have hb4 : (i : Int) + 1 ≤ (cap : Int) := by omega
  have hb5 : ¬ ((i : Int) = (i : Int) + 1) := by omega
  have hb6 : (0 : Int) ≤ (i : Int) + 1 := by omega
  have hb7 : (m : Int) + 1 ≤ (cap : Int) := by omega
  have hb8 : (m : Int) ≤ (m : Int) + 1 := by omega
  have htn : ((i : Int) + 1).toNat = i + 1 := by omega
  have htm : ((m : Int) + 1).toNat = m + 1 := by omega
  have him : i + (m - i) = m := by omega
  have hcm1 : ¬ (cap = m) := by omega
  have hmi : m + 1 - (i + 1) = m - i := by omega
  have hm1 : m + 1 - m = 1 := by omega
  have hb9 : ((i + (m - i) : Nat) : Int) = (m : Int) := by omega
  generalize hVV : (w.drew.setRow g R1.toArray).setRow g R2.toArray = V at *
  generalize w.drew.setRow g R1.toArray = U at *
  clear hR1 hR2 hl1 hl2 ht2 hcell hxd hx hxl hVV hV1 ho hh
  by_cases hc : cap = i + 1
  · have hap1 : ∀ ty, (Builtin.append_ #[24, 24] ty #[.slice (some ⟨g, 0, none⟩) i cap, .slice (some ⟨g, 0, none⟩) (m - i) (cap - (i + 1))]).run Try.prog w.drew = .ok (.slice (some ⟨g, 0, none⟩) m cap) U := fun ty => by
      obtain ⟨A, hA, h⟩ := hap ty
      rw [if_pos hc] at hA
      cases hA
      exact h
    clear hap
    obtain rfl : m = i := by omega
    subst hc
    simp only [Nat.sub_self] at hap1
    go_enter Try.func81, Try.ntmps81
    go_wp2_with fail
    go_region_law (refine step_append_run rfl _ _ 24 24 rfl _ _ (by simp [Act.eval, Act.put]) (by simp [Act.eval, Act.put]) (hap1 _) ?_)
    go_wp2_with (at_builtin; refine wpList_clear_run _ rfl _ 24 rfl _ rfl (hcl _ _) ?_)
    go_ret
    exact ⟨rfl, hO, hG⟩
  · have hap1 : ∀ ty, (Builtin.append_ #[24, 24] ty #[.slice (some ⟨g, 0, none⟩) i cap, .slice (some ⟨g, (i + 1) * 4, none⟩) (m - i) (cap - (i + 1))]).run Try.prog w.drew = .ok (.slice (some ⟨g, 0, none⟩) m cap) U := fun ty => by
      obtain ⟨A, hA, h⟩ := hap ty
      rw [if_neg hc] at hA
      cases hA
      exact h
    clear hap
    go_enter Try.func81, Try.ntmps81
    go_wp2_with fail
    go_region_law (refine step_append_run rfl _ _ 24 24 rfl _ _ (by simp [Act.eval, Act.put]) (by simp [Act.eval, Act.put]) (hap1 _) ?_)
    go_wp2_with (at_builtin; refine wpList_clear_run _ rfl _ 24 rfl _ rfl (hcl _ _) ?_)
    go_ret
    exact ⟨rfl, hO, hG⟩
end Go.Proofs.Ytgnlcehpajbnoaa
