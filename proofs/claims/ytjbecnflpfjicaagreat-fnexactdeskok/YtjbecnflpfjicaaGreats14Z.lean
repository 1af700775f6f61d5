/- Taking a booking out of a row. -/
import Derived.Test.YtjbecnflpfjicaaGreats14Y
import Derived.Deep.RegionHeld3
namespace Go.Proofs.YtjbecnflpfjicaaGreat.s14
open Go.RowKit Go.Lib
theorem step_append_run {P : Program} {ops : Array Oper} {o : Oper} {a : Act} {w : World} {K : Act → World → Prop} {Q : Exit → Act → World → Prop} {E : Prop}
    (hg : o.guard = none) (d x : Operand) (dT sT : TypeId) (hop : o.op = Op.call { callee := Callee.builtin Builtin.append, args := #[d, x], argTypes := #[dT, sT] })
    (v u : Value) (hd : a.eval d = v) (hx : a.eval x = u) {v' : Value} {w' : World} (hr : (Builtin.append_ #[dT, sT] o.type #[v, u]).run P w = .ok v' w') (hK : K (a.put o.dst v') w') :
    if Region.wanted o (yielded ops a.tmps) = true then Oper.wp P o a w K Q else E := by
  have hw : Region.wanted o (yielded ops a.tmps) = true := by simp [Region.wanted, hg]
  rw [if_pos hw]
  unfold Oper.wp
  simp [execOp, hop, resolve, invoke, builtin, hd, hx, hr, Result.andThen]
  exact hK
theorem run_clear4 (w : World) (g o c : Nat) (cur : Array Value) (ty : TypeId) (hg : w.heap[g]? = some (.cells cur 82 (0, 0))) (hf : o + 4 ≤ cur.size) :
    (Builtin.clear_ #[41] ty #[.slice (some ⟨g, o, none⟩) 1 c]).run Tryz.prog w = .ok (.tuple #[]) (w.setRow g (cur.toList.take o ++ [Value.int .i64 0, Value.int .i64 0, Value.int .i64 0, Value.int .i64 0] ++ cur.toList.drop (o + 4)).toArray) := by
  obtain ⟨i0, hi, hz0, hz1, hz2⟩ := info_parts infoBks
  have hst := run_storeCells_at Tryz.prog g o 82 [Value.int .i64 0, Value.int .i64 0, Value.int .i64 0, Value.int .i64 0] 0 cur w hg (by simpa using hf) (by simp [Value.oneCell'])
  have hzc : (Builtin.zeroCells (Value.agg #[Value.int .i64 0, Value.int .i64 0, Value.int .i64 0, Value.int .i64 0]).cells 1).toList = [Value.int .i64 0, Value.int .i64 0, Value.int .i64 0, Value.int .i64 0] := by
    simp [Builtin.zeroCells, Value.cells, Array.range]
  simp at hst
  simp [Builtin.clear_, run_underlying Tryz.underlying41, zeroValue, typeInfo, hi, hz0, hzc, hst]
/-- What is left of a row behind a deletion. -/
theorem del_row {α : Type} (cur Z : List α) (A s L : Nat) (hZ : Z.length = s) (hA : A + s ≤ L) (hL : L ≤ cur.length) :
    let c1 := cur.take A ++ (cur.take L).drop (A + s) ++ cur.drop (A + ((cur.take L).drop (A + s)).length)
    let c2 := c1.take (L - s) ++ Z ++ c1.drop (L - s + s)
    c1.length = cur.length ∧ c2.length = cur.length ∧ c2.take (L - s) = (cur.take L).take A ++ (cur.take L).drop (A + s) := by
  intro c1 c2
  have hD : ((cur.take L).drop (A + s)).length = L - (A + s) := by rw [List.length_drop, List.length_take]; omega
  have l1 : c1.length = cur.length := by
    show (cur.take A ++ (cur.take L).drop (A + s) ++ cur.drop (A + ((cur.take L).drop (A + s)).length)).length = _
    simp only [List.length_append, hD, List.length_take, List.length_drop]; omega
  have e1 : c1.take (L - s) = cur.take A ++ (cur.take L).drop (A + s) := by
    show (cur.take A ++ (cur.take L).drop (A + s) ++ cur.drop (A + ((cur.take L).drop (A + s)).length)).take (L - s) = _
    rw [List.take_append_of_le_length (by simp only [List.length_append, hD, List.length_take]; omega), List.take_of_length_le (by simp only [List.length_append, hD, List.length_take]; omega)]
  refine ⟨l1, ?_, ?_⟩
  · show (c1.take (L - s) ++ Z ++ c1.drop (L - s + s)).length = _
    simp only [List.length_append, List.length_take, List.length_drop, hZ, l1]; omega
  · show (c1.take (L - s) ++ Z ++ c1.drop (L - s + s)).take (L - s) = _
    rw [List.append_assoc, List.take_append_of_le_length (by rw [List.length_take, l1]; omega), List.take_of_length_le (by rw [List.length_take]; omega), e1, List.take_take, Nat.min_eq_left (by omega)]

end Go.Proofs.YtjbecnflpfjicaaGreat.s14

/- Selling, taking back, one sale. -/
namespace Go.Proofs.YtjbecnflpfjicaaGreat.s14
open Go.RowKit Go.Lib
theorem flat_take (es : List BkV) (i : Nat) : (flatBks es).take (i * 4) = flatBks (es.take i) := by
  induction es generalizing i with
  | nil => simp [flatBks]
  | cons e es ih =>
    cases i with
    | zero => simp [flatBks]
    | succ i => rw [List.take_succ_cons, flatBks_cons, flatBks_cons, show (i + 1) * 4 = i * 4 + 1 + 1 + 1 + 1 by omega]; simp only [List.take_succ_cons, ih]
theorem flat_drop (es : List BkV) (i : Nat) : (flatBks es).drop (i * 4) = flatBks (es.drop i) := by
  induction es generalizing i with
  | nil => simp [flatBks]
  | cons e es ih =>
    cases i with
    | zero => simp
    | succ i => rw [List.drop_succ_cons, flatBks_cons, show (i + 1) * 4 = i * 4 + 1 + 1 + 1 + 1 by omega]; simp only [List.drop_succ_cons, ih]
theorem flat_put (es : List BkV) (i : Nat) (t : BkV) : (flatBks es).take (i * 4) ++ t.vs ++ (flatBks es).drop (i * 4) = flatBks (es.take i ++ t :: es.drop i) := by
  rw [flat_take, flat_drop, flatBks_app, flatBks_cons]; simp [BkV.vs]
theorem vs_one (t : BkV) : ∀ u ∈ t.vs, u.oneCell' = true := by
  intro u hu
  simp only [BkV.vs, List.mem_cons, List.not_mem_nil, or_false] at hu
  rcases hu with rfl | rfl | rfl | rfl <;> rfl
theorem ins_parts {w w' : World} {base n : Nat} {v : Value} {xs : List Value} {e : Ending} (h : InsBks w base v n xs e w') : ∃ v', e = .returned v' ∧ w'.ownsRow base 82 4 v' (n + 1) xs ∧ w.grownBy w' v.ownBlock := h
theorem own_formS {w : World} {base e sz n : Nat} {v : Value} {xs : List Value} (h : w.ownsRow base e sz v (n + 1) xs) : ∃ g c, v = .slice (some ⟨g, 0, none⟩) (n + 1) c := by
  rcases h.2 with ⟨_, h0⟩ | ⟨g, cap', cur, rfl, _⟩
  · omega
  · exact ⟨_, _, rfl⟩
/-- What is of no book, no booking and no pieces stands. -/
def KpT (w w' : World) : Prop := w.heap.size ≤ w'.heap.size ∧ ∀ (k : Nat) (cs : Array Value) (t : TypeId) (f : Nat × Nat), w.heap[k]? = some (Obj.cells cs t f) → t ≠ 121 → t ≠ 82 → t ≠ 155 → w'.heap[k]? = some (Obj.cells cs t f)
theorem KpT.of_below {w w' : World} (h : Below w.heap.size w w') : KpT w w' := ⟨h.size, fun _ _ _ _ hk _ _ _ => blk_keep h hk⟩
theorem KpT.trans {w w' w2 : World} (h : KpT w w') (g : KpT w' w2) : KpT w w2 := ⟨Nat.le_trans h.1 g.1, fun k cs t f hk a b c => g.2 k cs t f (h.2 k cs t f hk a b c) a b c⟩
theorem KpT.grow {w w' : World} {g : Nat} {cs : Array Value} {t : TypeId} {f : Nat × Nat} (hg : w.grownBy w' (some g)) (hb : w.heap[g]? = some (.cells cs t f)) (ht : t = 121 ∨ t = 82 ∨ t = 155) : KpT w w' := by
  refine ⟨hg.size, fun k cs' t' f' hk a b c => (hg.block k (lt_of_block hk) (fun e => ?_)).trans hk⟩
  cases e
  rw [hk] at hb
  simp only [Option.some.injEq, Obj.cells.injEq] at hb
  obtain ⟨_, rfl, _⟩ := hb
  rcases ht with h | h | h
  · exact a h
  · exact b h
  · exact c h
theorem Bk.heldBlk {w : World} {B b : Nat} {N : Nat} {P : Int} {gh ch : Nat} {hs : List BkV} {gs : Nat} {ds : List BkV} (h : Bk w B b N P gh ch hs gs ds) : B ≤ gh ∧ ∃ cur, w.heap[gh]? = some (.cells cur 82 (0, 0)) := by
  rcases h.held.2 with ⟨h0, _⟩ | ⟨g', cap', cur, he, hg, hh, _⟩
  · cases h0
  simp only [Value.slice.injEq, Option.some.injEq, Addr.mk.injEq] at he
  obtain ⟨⟨rfl, _⟩, _⟩ := he
  exact ⟨hg, cur, hh⟩
/-- A book whose bookings are put in place of others. -/
theorem Bk.upd {w w1 : World} {B b : Nat} {N : Nat} {P : Int} {gh ch : Nat} {hs : List BkV} {gs : Nat} {ds : List BkV} {gh' ch' : Nat} {hs' : List BkV} (h : Bk w B b N P gh ch hs gs ds) (hg : w.grownBy w1 (some gh)) (ho : w1.ownsRow B 82 4 (.slice (some ⟨gh', 0, none⟩) hs'.length ch') hs'.length (flatBks hs')) :
    Bk (w1.setCell ⟨b, 2, none⟩ (.slice (some ⟨gh', 0, none⟩) hs'.length ch')) B b N P gh' ch' hs' gs ds ∧ KpT w (w1.setCell ⟨b, 2, none⟩ (.slice (some ⟨gh', 0, none⟩) hs'.length ch')) ∧ w1.cell? ⟨b, 2, none⟩ = some (.slice (some ⟨gh, 0, none⟩) hs.length ch) ∧ w1.frozen? ⟨b, 2, none⟩ = false ∧ Below B w (w1.setCell ⟨b, 2, none⟩ (.slice (some ⟨gh', 0, none⟩) hs'.length ch')) := by
  obtain ⟨n1, n2⟩ := h.neh
  obtain ⟨hgB, cur, hcur⟩ := h.heldBlk
  have hb1 : w1.heap[b]? = _ := (hg.block b (lt_of_block h.blk) (fun e => n2 (Option.some.inj e).symm)).trans h.blk
  have hs1 : w1.heap[gs]? = _ := (hg.block gs (lt_of_block h.seats) (fun e => n1 (Option.some.inj e).symm)).trans h.seats
  have hne : gh' ≠ b := by
    rcases ho.2 with ⟨h0, _⟩ | ⟨g', cap', cur', he, _, hh, _⟩
    · cases h0
    simp only [Value.slice.injEq, Option.some.injEq, Addr.mk.injEq] at he
    obtain ⟨⟨rfl, _⟩, _⟩ := he
    rintro rfl
    rw [hb1] at hh
    simp at hh
  refine ⟨⟨blk_set (i := 2) (v := .slice (some ⟨gh', 0, none⟩) hs'.length ch') hb1, own_setg hne ho, blk_other hs1 h.ne.symm, h.bB, h.sB⟩, ?_, Go.Joins.cell_of_block hb1 2, Go.Joins.unfrozen_of_block hb1 2, ?_⟩
  · exact (KpT.grow hg hcur (.inr (.inl rfl))).trans (KpT.grow (gset (World.grownBy.refl _ _) _ _) hb1 (.inl rfl))
  · exact below_set h.bB ⟨hg.os, hg.tape, hg.output, hg.size, fun k hk => by
      by_cases hkw : k < w.heap.size
      · exact hg.block k hkw (fun e => by cases e; omega)
      · have := lt_of_block hcur; omega⟩
theorem Bk.grid {w : World} {B b : Nat} {N : Nat} {P : Int} {gh ch : Nat} {hs : List BkV} {gs : Nat} {ds : List BkV} {es : List BkV} (h : Bk w B b N P gh ch hs gs ds) (he : ∀ s p, heldB ds s p = heldB es s p) : Bk w B b N P gh ch hs gs es := ⟨h.blk, h.held, by rw [← gridL_ext he]; exact h.seats, h.bB, h.sB⟩
/-- What is behind a change of a book. -/
def SellP (w : World) (B b : Nat) (N : Nat) (P : Int) (gs : Nat) (hs : List BkV) (r : Value) (e : Ending) (w' : World) : Prop := ∃ gh ch, e = .returned r ∧ Bk w' B b N P gh ch hs gs hs ∧ KpT w w' ∧ Below B w w'

end Go.Proofs.YtjbecnflpfjicaaGreat.s14

/- Taking back, one sale. -/
namespace Go.Proofs.YtjbecnflpfjicaaGreat.s14
open Go.RowKit Go.Lib
theorem pl_len {hs : List BkV} {p : Nat} (hp : p < hs.length) : (hs.take p ++ hs.drop (p + 1)).length = hs.length - 1 := by simp; omega

end Go.Proofs.YtjbecnflpfjicaaGreat.s14

/- The program: TrainOk, FreeSeats, Hole, Book, Unbook. -/
namespace Go.Proofs.YtjbecnflpfjicaaGreat.s14
open Go.RowKit Go.Lib
theorem trainB_N {S P : Int} {hs : List BkV} (h : trainB S P hs = true) : ((S.toNat : Nat) : Int) = S ∧ Tr ((S.toNat : Nat) : Int) P hs := by
  have := trainB_iff.1 h
  have e : ((S.toNat : Nat) : Int) = S := by have := this.s1; omega
  exact ⟨e, by rw [e]; exact this⟩

set_option maxHeartbeats 800000 in
theorem cTrainI (S P : Int) (a : Option Addr) (c : Nat) (hs : List BkV) (w : World) (hz : Bks w a hs) (hl : hs.length ≤ 1048576) :
    Calls Tryz.prog 23 #[.agg #[.int .i64 S, .int .i64 P, .slice a hs.length c]] w fun e w' => e = .returned (.bool (trainB S P hs)) ∧ Below w.heap.size w w' := by
  have hW := balloc w (.cells #[.int .i64 S, .int .i64 P, .slice a hs.length c] 43)
  have C := cBookOf S P a c hs _ (hz.below hW) hl
  go_enter Tryz.func23, Tryz.ntmps23
  go_wp2_with fail
  refine C.mono ?_
  rintro e w1 ⟨b, gh, rfl, -, hb, -⟩
  replace hb := btrans hW hb
  clear C
  go_wp2
  go_ret
  exact ⟨rfl, hb⟩

end Go.Proofs.YtjbecnflpfjicaaGreat.s14

