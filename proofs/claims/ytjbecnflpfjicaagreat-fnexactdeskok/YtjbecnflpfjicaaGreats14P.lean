/- Pieces: arrays of bools as values. -/
import Derived.Test.YtjbecnflpfjicaaGreatA
import Derived.Deep.RegionWith
import Derived.Lib.AppendZerosOnto
import Derived.Lib.Overlaps
import Derived.Laws.CopyRow
import Derived.Laws.IdiomCopy
import Derived.Laws.CopyOwn
import Derived.Laws.NewBlocks
import Derived.Deep.RegionLaw
import Derived.Lib.SliceRun
import Derived.Laws.Externs
import Derived.Laws.Tables
import Derived.Deep.WholeRow
namespace Go.Proofs.YtjbecnflpfjicaaGreat.s14
open Go.RowKit
theorem eq11 (a0 a1 a2 a3 a4 a5 a6 a7 a8 a9 a10 : Bool) (w : World) : (Op.equal 155 (.agg #[.bool a0, .bool a1, .bool a2, .bool a3, .bool a4, .bool a5, .bool a6, .bool a7, .bool a8, .bool a9, .bool a10]) (.agg #[.bool false, .bool false, .bool false, .bool false, .bool false, .bool false, .bool false, .bool false, .bool false, .bool false, .bool false])).run Tryz.prog w = .ok (!(a0 || a1 || a2 || a3 || a4 || a5 || a6 || a7 || a8 || a9 || a10)) w := by
  cases a0 with
  | true => kernel_rfl
  | false =>
    cases a1 with
    | true => kernel_rfl
    | false =>
      cases a2 with
      | true => kernel_rfl
      | false =>
        cases a3 with
        | true => kernel_rfl
        | false =>
          cases a4 with
          | true => kernel_rfl
          | false =>
            cases a5 with
            | true => kernel_rfl
            | false =>
              cases a6 with
              | true => kernel_rfl
              | false =>
                cases a7 with
                | true => kernel_rfl
                | false =>
                  cases a8 with
                  | true => kernel_rfl
                  | false =>
                    cases a9 with
                    | true => kernel_rfl
                    | false =>
                      cases a10 with
                      | true => kernel_rfl
                      | false =>
                        kernel_rfl
end Go.Proofs.YtjbecnflpfjicaaGreat.s14

/- Copying cells from one row into another, as equations of the run. -/
namespace Go.Proofs.YtjbecnflpfjicaaGreat.s14
open Go.RowKit Go.Lib

theorem shift_row {α : Type} (cur vs : List α) (A L s : Nat) (hv : vs.length = s) (hA : A ≤ L) (hL : L + s ≤ cur.length) :
    let c1 := cur.take (A + s) ++ (cur.take L).drop A ++ cur.drop (A + s + ((cur.take L).drop A).length)
    let c2 := c1.take A ++ vs ++ c1.drop (A + vs.length)
    c2.length = cur.length ∧ c2.take (L + s) = (cur.take L).take A ++ vs ++ (cur.take L).drop A := by
  intro c1 c2
  have hD : ((cur.take L).drop A).length = L - A := by rw [List.length_drop, List.length_take]; omega
  have e1 : c1.take A = cur.take A := by
    show (cur.take (A + s) ++ (cur.take L).drop A ++ _).take A = _
    rw [List.append_assoc, List.take_append_of_le_length (by rw [List.length_take]; omega), List.take_take, Nat.min_eq_left (by omega)]
  have e2 : c1.drop (A + vs.length) = (cur.take L).drop A ++ cur.drop (L + s) := by
    show (cur.take (A + s) ++ (cur.take L).drop A ++ _).drop _ = _
    rw [List.append_assoc, hv]
    have hl : (cur.take (A + s)).length = A + s := by rw [List.length_take]; omega
    rw [List.drop_append_of_le_length (by omega), List.drop_of_length_le (by omega), List.nil_append, hD, show A + s + (L - A) = L + s by omega]
  have e3 : c2 = cur.take A ++ vs ++ ((cur.take L).drop A ++ cur.drop (L + s)) := by show c1.take A ++ vs ++ c1.drop (A + vs.length) = _; rw [e1, e2]
  constructor
  · rw [e3]; simp only [List.length_append, hD, List.length_take, List.length_drop, hv]; omega
  · rw [e3, ← List.append_assoc, List.take_append_of_le_length (by simp only [List.length_append, hD, List.length_take, hv]; omega), List.take_of_length_le (by simp only [List.length_append, hD, List.length_take, hv]; omega), List.take_take, Nat.min_eq_left hA]
theorem grow_row {α : Type} (c0 P D vs : List α) (A s : Nat) (hP : P.length = A) (hv : vs.length = s) (h0 : c0.take A = P) (hL : A + s + D.length ≤ c0.length) :
    let c1 := c0.take A ++ vs ++ c0.drop (A + vs.length)
    let c2 := c1.take (A + s) ++ D ++ c1.drop (A + s + D.length)
    c2.length = c0.length ∧ c2.take (A + s + D.length) = P ++ vs ++ D := by
  intro c1 c2
  have e1 : c1.take (A + s) = P ++ vs := by
    show (c0.take A ++ vs ++ _).take _ = _
    rw [h0, List.take_append_of_le_length (by rw [List.length_append]; omega), List.take_of_length_le (by rw [List.length_append]; omega)]
  have l1 : c1.length = c0.length := by
    show (c0.take A ++ vs ++ c0.drop (A + vs.length)).length = _
    simp only [List.length_append, List.length_take, List.length_drop]; omega
  constructor
  · show (c1.take (A + s) ++ D ++ c1.drop _).length = _
    simp only [List.length_append, List.length_take, List.length_drop]; omega
  · show (c1.take (A + s) ++ D ++ c1.drop _).take _ = _
    rw [e1, List.take_append_of_le_length (by simp only [List.length_append]; omega), List.take_of_length_le (by simp only [List.length_append]; omega)]

theorem run_copy_s {P : Program} (w : World) (t e ty : TypeId) (s : Nat) (hu : P.underlying t = some (.slice e)) (hs : (P.info? e).map (·.size) = some s) (g o dLen dCap : Nat) (a : Addr) (sLen sCap k : Nat) (cur : Array Value) (T : TypeId) (cs : List Value)
    (hg : w.heap[g]? = some (.cells cur T (0, 0))) (hk : Nat.min sLen dLen = k) (hn : cs.length = k * s) (hfit : o + cs.length ≤ cur.size)
    (hsrc : ∀ j v, cs[j]? = some v → w.cell? (a.add j) = some v) (h1 : ∀ v ∈ cs, v.oneCell' = true) :
    (Builtin.copy_ #[t, t] ty #[.slice (some ⟨g, o, none⟩) dLen dCap, .slice (some a) sLen sCap]).run P w =
      .ok (goInt k) (w.setRow g (cur.toList.take o ++ cs ++ cur.toList.drop (o + cs.length)).toArray) := by
  have hl := run_loadCells_list (P := P) w a cs hsrc
  have hst := run_storeCells_at P g o T cs 0 cur w hg (by omega) h1
  cases hq : P.info? e with
  | none => simp [hq] at hs
  | some i =>
    have hi : i.size = s := by simpa [hq] using hs
    simp [Builtin.copy_, run_underlying hu, Builtin.lenOf, Builtin.firstCells, sizeOf, typeInfo, hq, hi, hk, ← hn, hl, hst]

theorem wp_copy_run {P : Program} (w : World) {o : Oper} {a : Act} {K : Act → World → Prop} {Q : Exit → Act → World → Prop} (d s : Operand) (t t' : TypeId)
    (ho : o.op = .call { callee := .builtin .copy, args := #[d, s], argTypes := #[t, t'] }) (v u : Value) (hd : a.eval d = v) (hs : a.eval s = u) {v' : Value} {w' : World}
    (hr : (Builtin.copy_ #[t, t'] o.type #[v, u]).run P w = .ok v' w') (h : K (a.put o.dst v') w') : o.wp P a w K Q := by
  unfold Oper.wp execOp
  simp only [ho, resolve, invoke, builtin, Sem.run_bind, Sem.run_pure, Result.andThen_ok, List.map_toArray, List.map_cons, List.map_nil, hd, hs, hr]
  exact h
theorem wpList_copy_run {P : Program} (w : World) {ops : Array Oper} {rest : List Oper} {o : Oper} {a : Act} {Q : Exit → Act → World → Prop} (hgd : o.guard = none) (d s : Operand) (t t' : TypeId)
    (ho : o.op = .call { callee := .builtin .copy, args := #[d, s], argTypes := #[t, t'] }) (v u : Value) (hd : a.eval d = v) (hs : a.eval s = u) {v' : Value} {w' : World}
    (hr : (Builtin.copy_ #[t, t'] o.type #[v, u]).run P w = .ok v' w') (h : wpList P ops Q rest (a.put o.dst v') w') : wpList P ops Q (o :: rest) a w :=
  wpList_plain hgd fun _ hK => wp_copy_run w d s t t' ho v u hd hs hr (hK _ _ h)
theorem step_copy_run {P : Program} {ops : Array Oper} {o : Oper} {a : Act} {w : World} {K : Act → World → Prop} {Q : Exit → Act → World → Prop} {E : Prop}
    (hg : o.guard = none) (d x : Operand) (dT sT : TypeId) (hop : o.op = Op.call { callee := Callee.builtin Builtin.copy, args := #[d, x], argTypes := #[dT, sT] })
    (v u : Value) (hd : a.eval d = v) (hx : a.eval x = u) {v' : Value} {w' : World} (hr : (Builtin.copy_ #[dT, sT] o.type #[v, u]).run P w = .ok v' w') (hK : K (a.put o.dst v') w') :
    if Region.wanted o (yielded ops a.tmps) = true then Oper.wp P o a w K Q else E := by
  have hw : Region.wanted o (yielded ops a.tmps) = true := by simp [Region.wanted, hg]
  rw [if_pos hw]
  unfold Oper.wp
  simp [execOp, hop, resolve, invoke, builtin, hd, hx, hr, Result.andThen]
  exact hK
theorem addN (b off i : Nat) : (⟨b, off, none⟩ : Addr).add i = ⟨b, off + i, none⟩ := by
  by_cases h : i = 0
  · subst h; simp [Addr.add]
  · simp [Addr.add, h]
theorem wpList_load_run {P : Program} {ops : Array Oper} {rest : List Oper} {op : Oper} {a : Act} {w : World} {Q : Exit → Act → World → Prop} (hgd : op.guard = none) (ty : TypeId) (x : Operand) (ho : op.op = .load ty x) (p : Addr) (hx : a.eval x = .pointer (some p)) {v : Value} (hr : (loadVar ty p).run P w = .ok v w)
    (h : wpList P ops Q rest (a.put op.dst v) w) : wpList P ops Q (op :: rest) a w := by
  refine wpList_plain hgd fun _ hK => ?_
  unfold Oper.wp execOp
  simp only [ho, hx, Instr.loadAt, Instr.sureAddr, Sem.run_bind, Sem.run_pure, Result.andThen_ok, hr]
  exact hK _ _ h
theorem wpList_store_run {P : Program} {ops : Array Oper} {rest : List Oper} {op : Oper} {a : Act} {w w' : World} {Q : Exit → Act → World → Prop} (hgd : op.guard = none) (ty : TypeId) (x y : Operand) (ho : op.op = .store ty x y) (p : Addr) (v : Value) (hx : a.eval x = .pointer (some p)) (hy : a.eval y = v) (hr : (storeVar ty p v).run P w = .ok () w')
    (h : wpList P ops Q rest (a.put op.dst undef) w') : wpList P ops Q (op :: rest) a w := by
  refine wpList_plain hgd fun _ hK => ?_
  unfold Oper.wp execOp
  simp only [ho, hx, hy, Instr.storeAt, Instr.sureAddr, Sem.run_bind, Sem.run_pure, Result.andThen_ok, hr]
  exact hK _ _ h
theorem grow_below' {w0 w w' : World} {r : Option Nat} (hb : Below w0.heap.size w0 w) (h : w.grownBy w' r) (hr : ∀ k, r = some k → w0.heap.size ≤ k) : Below w0.heap.size w0 w' :=
  ⟨h.os.trans hb.os, h.tape.trans hb.tape, h.output.trans hb.output, Nat.le_trans hb.size h.size, fun k hk => (h.block k (Nat.lt_of_lt_of_le hk hb.size) (fun e => by have := hr k e.symm; omega)).trans (hb.block k hk)⟩
theorem grow_row1 (w : World) (g : Nat) (cs : Array Value) : w.grownBy (w.setRow g cs) (some g) := ⟨rfl, rfl, rfl, by simp, fun k hk hne => setRow_other _ _ _ _ (fun h => hne (by rw [h]))⟩
end Go.Proofs.YtjbecnflpfjicaaGreat.s14

