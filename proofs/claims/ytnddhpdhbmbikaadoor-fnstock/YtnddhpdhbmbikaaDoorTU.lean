/- turnedUnits of the program: a range over slices.Backward whose body appends. -/
import Derived.RangeFuncNested
import Derived.RangeFuncBound
import Derived.RangeFuncCalls
import Derived.RangeFuncLeaves
import Derived.Shelf.Abstract
import Derived.Shelf.RegionOpen
import Derived.WalkKit
import Derived.OwnWalkIn
import Derived.TacticsInMore
import Derived.LoopNIn
import Derived.LoopIn
import Derived.Test.YtnddhpdhbmbikaaDoorCI
namespace Go.Proofs.YtnddhpdhbmbikaaDoor
open Go.RowKit Go.Shelf
attribute [local go_sem] Oper.semAt_some

/-- What has come when k rounds are over: place and unit, the last first. -/
def Bk (us : List UV) (k : Nat) : List (Int × UV) := (List.range k).map fun q => (((us.length - 1 - q : Nat) : Int), us.getD (us.length - 1 - q) UV.zero)
theorem Bk_len (us : List UV) (k : Nat) : (Bk us k).length = k := by simp [Bk]
theorem Bk_succ (us : List UV) (k j : Nat) (h : k + (j + 1) = us.length) : Bk us (k + 1) = Bk us k ++ [((j : Int), us.getD j UV.zero)] := by
  have e : us.length - 1 - k = j := by omega
  simp [Bk, List.range_succ, e]
def outB (pre : List (Int × UV)) : List UV := pre.map fun x => turnU x.2
theorem Bk_turned (us : List UV) : outB (Bk us us.length) = turned us := by
  apply List.ext_getElem
  · simp [outB, Bk, turned]
  · intro i h1 h2
    have hi : i < us.length := by simpa [outB, Bk] using h1
    have hj : us.length - 1 - i < us.length := by omega
    simp [outB, Bk, turned, List.getD, hj]
theorem outB_snoc (pre : List (Int × UV)) (x : Int × UV) : outB (pre ++ [x]) = outB pre ++ [turnU x.2] := by simp [outB]
theorem outB_len (pre : List (Int × UV)) : (outB pre).length = pre.length := by simp [outB]

theorem keepblk' {v w' : World} {b : Nat} {o : Obj} (h : Below v.heap.size v w') (hz : v.heap[b]? = some o) : w'.heap[b]? = some o := (h.block _ (lt_of_block hz)).trans hz
theorem grown_of_below {A C : World} (h : Below A.heap.size A C) : A.grownBy C none := ⟨h.os, h.tape, h.output, h.size, fun b hb _ => h.block b hb⟩
/-- What a round that goes on keeps: all below n₀, and the box that holds the list. -/
def KB (n₀ B : Nat) (A C : World) : Prop := Below n₀ A C ∧ C.heap[B]? = A.heap[B]?
theorem KB.t {n₀ B : Nat} {A C D : World} (h : KB n₀ B A C) (k : KB n₀ B C D) : KB n₀ B A D := ⟨h.1.trans k.1, k.2.trans h.2⟩
theorem KB.b {n₀ B : Nat} {w : World} (hn : n₀ ≤ w.heap.size) (hB : B < w.heap.size) (A : World) (l : Nat) (o o' : Obj) (hl : w.heap.size ≤ l) (h : A.heap[l]? = some o) (h1 : o.isCells = false) (h2 : o.isWalk = false) : KB n₀ B A (A.putObj l o') :=
  ⟨belowK_b hn A l o o' hl h h1 h2, World.putObj_heap_other (by omega)⟩
theorem cell_of_box {W : World} {B : Nat} {v : Value} {t : TypeId} (h : W.heap[B]? = some (.cells #[v] t (0, 0))) : W.cell? ⟨B, 0, none⟩ = some v ∧ W.frozen? ⟨B, 0, none⟩ = false := by
  constructor <;> simp [World.cell?, World.frozen?, h]

/-- The function that hands out the units, made. -/
theorem cBack (n : Nat) (a : Option Addr) (m cap : Nat) (w : World) :
    CallsIn Fence.wide n Tryd.prog 43 #[.slice a m cap] w fun e w' => e = .returned (.func (.func 55) #[] #[.pointer (some ⟨w.heap.size, 0, none⟩)]) ∧ w' = w.alloc (.cells #[.slice a m cap] 24) := by
  refine callsIn_of_wp Tryd.func43 rfl trivial ?_ rfl
  simp only [Tryd.ntmps43, List.size_toArray, List.length_cons, List.length_nil, Nat.reduceAdd, Nat.reduceSub, Array.replicate_succ, Array.replicate_zero, List.push_toArray, List.append_toArray, List.nil_append, List.cons_append]
  gi_wp2
  go_ret
  exact ⟨rfl, rfl⟩

set_option maxRecDepth 100000 in
set_option maxHeartbeats 2000000 in
theorem cBack1 (n : Nat) (hn : 1 ≤ n) (l B n₀ : Nat) (a : Option Addr) (cap : Nat) (us : List UV) (w0 : World) (he : Us w0 a us) (hl : us.length ≤ 30) (hw0 : w0.heap.size ≤ n₀)
    (J Jx : List (Int × UV) → World → Prop) (Wr : World)
    (hY : ∀ pre x W1, J pre W1 → pre.length < 40 → YieldAt Fence.wide (n - 1) Tryd.prog l #[.int .i64 x.1, .agg #[.int .i64 x.2.i, .int .i64 x.2.c, .int .i64 x.2.m, .bool x.2.b]] W1 fun e W' =>
      (e = .returned (.bool true) ∧ J (pre ++ [x]) W' ∧ KB n₀ B W1 W') ∨ (e = .returned (.bool false) ∧ Jx (pre ++ [x]) W'))
    (hb : Below n₀ w0 Wr) (hX : Wr.heap[B]? = some (.cells #[.slice a us.length cap] 24 (0, 0))) (h0 : J [] Wr) :
    CallsIn Fence.wide n Tryd.prog 55 #[.func (.yield l) #[] #[], .pointer (some ⟨B, 0, none⟩)] Wr fun e W' => (∃ v, e = .returned v) ∧
      ((∃ ys, ys = Bk us us.length ∧ J ys W') ∨ (∃ pre, True ∧ Jx pre W')) := by
  have hYh := hide hY
  clear hY
  refine callsIn_of_wp Tryd.func55 rfl trivial ?_ rfl
  simp only [Tryd.ntmps55, List.size_toArray, List.length_cons, List.length_nil, Nat.reduceAdd, Nat.reduceSub, Array.replicate_succ, Array.replicate_zero, List.push_toArray, List.append_toArray, List.nil_append, List.cons_append]
  obtain ⟨b0, _⟩ := cell_of_box hX
  have hw1 : IntKind.i64.wrap ((us.length : Int) - 1) = (us.length : Int) - 1 := wrap_in _ (by omega) (by omega)
  have J0 : J (Bk us 0) Wr := h0
  gi_wp2
  gi_loopw [3] (fun i wr => ∃ k j : Nat, k + j = us.length ∧ i = .int .i64 ((j : Int) - 1) ∧ Below w0.heap.size w0 wr ∧ wr.heap[B]? = some (.cells #[.slice a us.length cap] 24 (0, 0)) ∧ J (Bk us k) wr)
    (fun i _ => (intOf i + 1).toNat)
  case atStart => exact ⟨0, us.length, by omega, rfl, hb.mono hw0, hX, J0⟩
  case round =>
    clear b0 hb hX h0 J0 hw1
    obtain ⟨k, j, hkj, rfl, hbr, hXr, hJr⟩ := hrel
    obtain ⟨b0, _⟩ := cell_of_box hXr
    have HK := hide hkj
    cases j with
    | succ j =>
      have ej : (((j + 1 : Nat) : Int) - 1) = (j : Int) := by omega
      rw [ej]
      have hlt : j < us.length := by omega
      have PK := hide (Bk_succ us k j hkj)
      have hk40 : k < 40 := by omega
      have hw2 : IntKind.i64.wrap ((j : Int) - 1) = (j : Int) - 1 := wrap_in _ (by omega) (by omega)
      clear ej hkj
      rcases he with h | ⟨b1, o1, rfl, q1⟩
      · simp [h] at hlt
      obtain ⟨p0, p1, p2, p3⟩ := q1 j hlt
      replace p0 := ble hbr p0
      replace p1 := ble hbr p1
      replace p2 := ble hbr p2
      replace p3 := ble hbr p3
      clear q1
      generalize us.getD j UV.zero = y at *
      obtain ⟨yi, yc, ym, yb⟩ := y
      dsimp only at *
      obtain ⟨fn, tmps, assign, body, hy, hR⟩ := hYh.out _ ((j : Int), ⟨yi, yc, ym, yb⟩) wr hJr (by rw [Bk_len]; exact hk40)
      dsimp only at hy hR
      rw [← PK.out] at hR
      gi_wp2
      refine hR.mono ?_
      rintro e W3 (⟨rfl, hJ3, hk3⟩ | ⟨rfl, hJx3⟩)
      · clear hR hy
        gi_wp2
        go_roundw
        case rel => exact ⟨k + 1, j, by have := HK.out; omega, rfl, hbr.trans (hk3.1.mono hw0), hk3.2.trans hXr, hJ3⟩
        case measure => simp [intOf]
      · clear hR hy
        gi_wp2
        refine bodyPost_ret (results_none rfl _ _ _) rfl ?_
        exact ⟨⟨_, rfl⟩, .inr ⟨_, trivial, hJx3⟩⟩
    | zero =>
      have e0 : (((0 : Nat) : Int) - 1) = -1 := by omega
      rw [e0]
      have hk : k = us.length := by omega
      rw [hk] at hJr
      clear e0 HK hkj hk
      gi_wp2
      go_end0
      exact ⟨⟨_, rfl⟩, .inl ⟨_, rfl, hJr⟩⟩

/-- One unit more behind a row, as an equation of the run. -/
theorem appU {W : World} {n₀ k : Nat} {va : Option Addr} {vc : Nat} {xs : List UV} (y : UV) (hown : W.ownsRow n₀ 34 4 (.slice va k vc) k (flatUs xs)) (hk : k ≤ 60) (hn : n₀ ≤ W.heap.size) :
    ∃ g cp w', (Builtin.append_ #[24, 24] 24 #[.slice va k vc, .slice (some ⟨W.heap.size, 0, none⟩) 1 1]).run Tryd.prog (W.alloc (.cells #[.int .i64 y.i, .int .i64 y.c, .int .i64 y.m, .bool y.b] 34)) = .ok (.slice (some ⟨g, 0, none⟩) (k + 1) cp) w' ∧
      w'.ownsRow n₀ 34 4 (.slice (some ⟨g, 0, none⟩) (k + 1) cp) (k + 1) (flatUs (xs ++ [y])) ∧ (W.alloc (.cells #[.int .i64 y.i, .int .i64 y.c, .int .i64 y.m, .bool y.b] 34)).grownBy w' (Value.slice va k vc).ownBlock := by
  obtain ⟨i0, hi, hz0, hz1, hz2⟩ := info_parts infoUs
  obtain ⟨v', w', hr, h2, h3, -, -⟩ := run_append_own_at (P := Tryd.prog) (W.alloc (.cells #[.int .i64 y.i, .int .i64 y.c, .int .i64 y.m, .bool y.b] 34)) n₀ 24 24 34 i0 _ 4 32 Tryd.underlying24 hi hz0 hz1 hz2 rfl (by decide) _ k (flatUs xs) (hown.alloc _) ⟨W.heap.size, 0, none⟩ 1 1 [.int .i64 y.i, .int .i64 y.c, .int .i64 y.m, .bool y.b] rfl (World.news_of_block (one_block' W _)) (by intro u hu; simp at hu; rcases hu with rfl | rfl | rfl | rfl <;> rfl) (by unfold maxLen; omega) (by omega) (by simp; omega)
  have e : flatUs xs ++ [.int .i64 y.i, .int .i64 y.c, .int .i64 y.m, .bool y.b] = flatUs (xs ++ [y]) := by rw [flatUs_app]; rfl
  rw [e] at h2
  obtain ⟨g, cp, rfl⟩ := ownsRow_succ h2
  exact ⟨g, cp, w', hr, h2, h3⟩
theorem blk_own {β : Type} (B : Nat) (cs : Array Value) (t : TypeId) : Own (fun (_ : β) (W : World) => W.heap[B]? = some (.cells cs t (0, 0))) := fun s X Y row hs hg hrow =>
  (hg.block B (lt_of_block hs) (fun e' => by obtain ⟨o, ho, hc⟩ := hrow B e'.symm; rw [hs] at ho; cases ho; cases hc)).trans hs
theorem keeps_below {A C : World} (h : Below A.heap.size A C) : KeepsOthers A C := KeepsOthers.of_grownBy (grown_of_below h) (fun j o ej _ => by cases ej)
/-- What a row's block is not: a box of another type. -/
theorem box_far {W w1 : World} {B n₀ k : Nat} {t : TypeId} {u v : Value} {xs : List Value} {o : Obj} (h : W.heap[B]? = some (.cells #[u] t (0, 0))) (hte : t ≠ 34) (hr : W.ownsRow n₀ 34 4 v k xs) (hg : (W.alloc o).grownBy w1 v.ownBlock) : w1.heap[B]? = some (.cells #[u] t (0, 0)) :=
  Boxed.kept (Boxed.alloc (show Boxed W B t u from h) o) hg (Boxed.not_row (show Boxed W B t u from h) hte hr)

theorem step_append_in {ops : Array Oper} {o : Oper} {a : Act} {w w' : World} {v' : Value} {K : Act → World → Prop} {Q : Exit → Act → World → Prop} {E : Prop} {l n : Nat} (hgd : o.guard = none) (s x : Operand) (t : TypeId)
    (ho : o.op = .call { callee := .builtin .append, args := #[s, x], argTypes := #[t, t] }) (vs vx : Value) (hs : a.eval s = vs) (hx : a.eval x = vx)
    (hr : (Builtin.append_ #[t, t] o.type #[vs, vx]).run Tryd.prog w = .ok v' w') (h : K (a.put o.dst v') w') :
    if Region.wanted o (yielded ops a.tmps) = true then Oper.wpIn (Fence.wide.inRound l) n Tryd.prog o a w K Q else E := by
  rw [if_pos (by simp [Region.wanted, hgd])]
  refine ⟨fun f _ => trivial, ?_⟩
  rw [show (Fence.wide.inRound l).round = some l from rfl, Oper.semAt_some _ _ _ (by intro c; rw [ho]; simp)]
  unfold execOp
  simp only [ho, resolve, invoke, builtin, Sem.run_bind, Sem.run_pure, Result.andThen_ok, List.map_toArray, List.map_cons, List.map_nil, hs, hx, hr]
  exact h
/-- What a round of turnedUnits leaves, behind the call of turned (in wc). -/
theorem turn_round {w W wc : World} {m cap n : Nat} {a va : Option Addr} {vc : Nat} {xs : List UV} {y : UV} (hb : Below W.heap.size W wc) (hv : Boxed W w.heap.size 24 (.slice va m vc)) (hX : W.heap[w.heap.size + 1]? = some (.cells #[.slice a n cap] 24 (0, 0)))
    (hrow : W.ownsRow w.heap.size 34 4 (.slice va m vc) m (flatUs xs)) (hB : Below w.heap.size w W) (hm : m ≤ 60) :
    ∃ g cp w', (Builtin.append_ #[24, 24] 24 #[.slice va m vc, .slice (some ⟨wc.heap.size, 0, none⟩) 1 1]).run Tryd.prog (wc.alloc (.cells #[.int .i64 y.i, .int .i64 y.c, .int .i64 y.m, .bool y.b] 34)) = .ok (.slice (some ⟨g, 0, none⟩) (m + 1) cp) w' ∧
      wc.cell? ⟨w.heap.size, 0, none⟩ = some (.slice va m vc) ∧ w.heap.size < wc.heap.size ∧ w'.cell? ⟨w.heap.size, 0, none⟩ = some (.slice va m vc) ∧ w'.frozen? ⟨w.heap.size, 0, none⟩ = false ∧
      (KeepsOthers W (w'.setCell ⟨w.heap.size, 0, none⟩ (.slice (some ⟨g, 0, none⟩) (m + 1) cp)) ∧ Below w.heap.size W (w'.setCell ⟨w.heap.size, 0, none⟩ (.slice (some ⟨g, 0, none⟩) (m + 1) cp)) ∧
        (w'.setCell ⟨w.heap.size, 0, none⟩ (.slice (some ⟨g, 0, none⟩) (m + 1) cp)).heap[w.heap.size + 1]? = W.heap[w.heap.size + 1]? ∧
        Boxed (w'.setCell ⟨w.heap.size, 0, none⟩ (.slice (some ⟨g, 0, none⟩) (m + 1) cp)) w.heap.size 24 (.slice (some ⟨g, 0, none⟩) (m + 1) cp) ∧
        (w'.setCell ⟨w.heap.size, 0, none⟩ (.slice (some ⟨g, 0, none⟩) (m + 1) cp)).ownsRow w.heap.size 34 4 (.slice (some ⟨g, 0, none⟩) (m + 1) cp) (m + 1) (flatUs (xs ++ [y])) ∧
        Below w.heap.size w (w'.setCell ⟨w.heap.size, 0, none⟩ (.slice (some ⟨g, 0, none⟩) (m + 1) cp))) := by
  have hv2 : Boxed wc w.heap.size 24 (.slice va m vc) := blk_keep hb hv
  have hr2 := own_keep hrow hb
  have hX2 := blk_keep hb hX
  have hs : w.heap.size ≤ wc.heap.size := Nat.le_trans hB.size hb.size
  obtain ⟨g, cp, w', hr, hown, hgrow⟩ := appU y hr2 hm hs
  obtain ⟨h1, h2, h3, h4, h5⟩ := Boxed.appended hv2 (by decide) hr2 hs (Nat.le_refl _) hown hgrow
  have hX3 := box_far hX2 (by decide) hr2 hgrow
  have hX4 : (w'.setCell ⟨w.heap.size, 0, none⟩ (.slice (some ⟨g, 0, none⟩) (m + 1) cp)).heap[w.heap.size + 1]? = some (.cells #[.slice a n cap] 24 (0, 0)) := (Below.heap_setCell w' ⟨w.heap.size, 0, none⟩ _ _ (by simp)).trans hX3
  have h6 := (hb.mono hB.size).trans h5
  exact ⟨g, cp, w', hr, hv2.cell, hv2.lt, h1.cell, h1.frozen, (keeps_below hb).trans h4, h6, hX4.trans hX.symm, h2, h3, hB.trans h6⟩

set_option maxRecDepth 100000 in
set_option maxHeartbeats 4000000 in
theorem cTurnU (a : Option Addr) (cap : Nat) (us : List UV) (w : World) (he : Us w a us) (hl : us.length ≤ 30) :
    Calls Tryd.prog 28 #[.slice a us.length cap] w (AnsU w (turned us)) := by
  refine (callsIn_wide (n := 4)).1 ?_
  refine callsIn_of_wp_marks Tryd.func28 rfl trivial ?_ rfl
  simp only [Tryd.ntmps28, List.size_toArray, List.length_cons, List.length_nil, Nat.reduceAdd, Nat.reduceSub, Array.replicate_succ, Array.replicate_zero, List.push_toArray, List.append_toArray, List.nil_append, List.cons_append]
  gi_wp2_with (refine ⟨trivial, ?_⟩; gi_at_call 43; refine (cBack _ a us.length cap _).mono ?_; rintro e w' ⟨rfl, rfl⟩)
  have k1 := blk_keep (balloc (w.alloc (.cells #[.slice none 0 0] 24)) (.cells #[.slice a us.length cap] 24)) (one_block' w (.cells #[.slice none 0 0] 24))
  have k2 := one_block' (w.alloc (.cells #[.slice none 0 0] 24)) (.cells #[.slice a us.length cap] 24)
  have HB := btrans (balloc w (.cells #[.slice none 0 0] 24)) (balloc _ (.cells #[.slice a us.length cap] 24))
  have sz : ((w.alloc (.cells #[.slice none 0 0] 24)).alloc (.cells #[.slice a us.length cap] 24)).heap.size = w.heap.size + 1 + 1 := by rw [sz1, sz1]
  rw [sz1] at k2
  obtain ⟨W0, hW0⟩ : ∃ W0, (w.alloc (.cells #[.slice none 0 0] 24)).alloc (.cells #[.slice a us.length cap] 24) = W0 := ⟨_, rfl⟩
  rw [hW0] at k1 k2 sz HB ⊢
  clear hW0
  refine wpIn_rangeFunc_ownH rfl (by omega) (gf := 55) (lb := #[.pointer (some ⟨w.heap.size + 1, 0, none⟩)]) rfl trivial (enters_of Tryd.func55 (by kernel_rfl) rfl)
    (encs := fun x : Int × UV => #[.int .i64 x.1, .agg #[.int .i64 x.2.i, .int .i64 x.2.c, .int .i64 x.2.m, .bool x.2.b]]) (Kp := KB w.heap.size (w.heap.size + 1)) (S := fun ys => ys = Bk us us.length) (Sp := fun _ => True) (N := 40) (w0 := W0)
    (fun l J Jx Wr hW hJ _ hY h0 => cBack1 (4 - 1) (by omega) l (w.heap.size + 1) w.heap.size a cap us w he hl (Nat.le_refl _) J Jx Wr hY (btrans HB hW) (keepblk' hW k2) h0) KB.t (KB.b (by omega) (by omega)) (Below.refl _ _) (fun _ => rfl)
    (fun pre W' => ((∃ v, Boxed W' w.heap.size 24 v ∧ W'.ownsRow w.heap.size 34 4 v pre.length (flatUs (outB pre)) ∧ True) ∧ W'.heap[w.heap.size + 1]? = some (.cells #[.slice a us.length cap] 24 (0, 0))) ∧ Below w.heap.size w W')
    (fun _ _ _ => False)
    (OwnFrom.and (OwnFrom.and (Own.from (holdsRow_own w.heap.size w.heap.size 24 34 4 (fun pre => pre.length) (fun pre => flatUs (outB pre)) (fun _ _ => True)) _) (Own.from (blk_own _ _ _) _)) (ownFrom_below (Nat.le_refl _) (by omega)))
    (fun _ _ _ _ _ hs _ _ => hs)
    ⟨⟨⟨_, k1, World.ownsRow_nil _ _ _ _, trivial⟩, k2⟩, HB⟩
    (fun x a' W => ∃ Bx, w.heap.size + 1 < Bx ∧ W.heap[Bx]? = some (.cells #[.int .i64 x.2.i, .int .i64 x.2.c, .int .i64 x.2.m, .bool x.2.b] 34 (0, 0)) ∧ a' = { tmps := #[.slice a us.length cap, undef, .slice none 0 0, .pointer (some ⟨w.heap.size, 0, none⟩), undef, .pointer (some ⟨Bx, 0, none⟩), .slice a us.length cap, .func (.func 55) #[] #[.pointer (some ⟨w.heap.size + 1, 0, none⟩)], .int .i64 x.1, .agg #[.int .i64 x.2.i, .int .i64 x.2.c, .int .i64 x.2.m, .bool x.2.b], undef, undef, undef, undef, undef, undef], defers := [] })
    ?hAx ?assign ?body ?done ?stop
  case hAx =>
    intro x a' s X Y row hs hg hr
    obtain ⟨Bx, h1, h2, h3⟩ := hs
    exact ⟨Bx, h1, Own.from (blk_own Bx _ _) _ s X Y row h2 hg hr, h3⟩
  case assign =>
    rintro l pre x W K ⟨⟨⟨v, hv, hrow, -⟩, hX⟩, hB⟩ hK
    obtain ⟨xi, ui, uc, um, ub⟩ := x
    have hlt := lt_of_block hX
    gi_wp2
    exact hK _ _ ((KeepsOthers.alloc _ _).from _) ⟨(Below.refl _ W).alloc hB.size _, blk_keep (balloc W _) hX |>.trans hX.symm⟩ ⟨⟨⟨v, hv.alloc _, hrow.alloc _, trivial⟩, blk_keep (balloc W _) hX⟩, btrans hB (balloc W _)⟩ ⟨W.heap.size, hlt, one_block' W _, rfl⟩
  case body =>
    rintro l pre x a' W hl1 - ⟨⟨⟨v, hv, hrow, -⟩, hX⟩, hB⟩ ⟨Bx, hBx, hx, rfl⟩ hlt
    obtain ⟨xi, ui, uc, um, ub⟩ := x
    dsimp only at hx ⊢
    obtain ⟨va, vc, rfl⟩ := own_form hrow
    have hc := hv.cell
    have hf := hv.frozen
    have z0 : W.cell? ⟨Bx, 0, none⟩ = some (.int .i64 ui) := blk_cell hx 0
    have z1 : W.cell? ⟨Bx, 1, none⟩ = some (.int .i64 uc) := blk_cell hx 1
    have z2 : W.cell? ⟨Bx, 2, none⟩ = some (.int .i64 um) := blk_cell hx 2
    have z3 : W.cell? ⟨Bx, 3, none⟩ = some (.bool ub) := blk_cell hx 3
    have CT := fun w => cTurned ⟨ui, uc, um, ub⟩ w
    unfold UV.val turnU at CT
    dsimp only at CT
    have hls := hv.lt
    have fin := fun (wc : World) (hbc : Below W.drew.heap.size W.drew wc) => turn_round (w := w) (y := ⟨ui, uc, um, !ub⟩) (undrew hbc) hv hX hrow hB (show pre.length ≤ 60 by omega)
    dsimp only at fin
    have hpl : Hid (outB (pre ++ [(xi, (⟨ui, uc, um, ub⟩ : UV))]) = outB pre ++ [⟨ui, uc, um, !ub⟩]) := hide (outB_snoc pre _)
    have hpn : Hid ((pre ++ [(xi, (⟨ui, uc, um, ub⟩ : UV))]).length = pre.length + 1) := hide (by simp)
    generalize pre ++ [(xi, (⟨ui, uc, um, ub⟩ : UV))] = pre2 at *
    generalize pre.length = m at *
    gi_wp2
    refine wpIn_region_any (by kernel_rfl) ?_
    change wpAnyIn _ _ _ _ _ _ _ _ _ (World.drew _)
    refine wpAnyIn_ready (rs := [0, 1]) (by kernel_rfl) (by simp) ?_
    refine AllReadyIn.cons rfl (fun K hK => ?_) ?_
    · go_simp
      refine hK _ _ ?_
      clear hK K
      refine wpAnyIn_ready (rs := [1]) (by kernel_rfl) (by simp) ?_
      refine AllReadyIn.cons rfl (fun K hK => ?_) ?_
      · go_simp
        refine hK _ _ ?_
        clear hK K
        refine wpAnyIn_ready (rs := [2]) (by kernel_rfl) (by simp) ?_
        refine AllReadyIn.cons rfl (fun K hK => ?_) ?_
        · go_simp
          refine ⟨trivial, ?_⟩
          refine (CallsIn.inRound l (callsIn_wide.2 (CT _))).mono ?_
          rintro e wc ⟨rfl, hbc⟩
          obtain ⟨g, cp, w', hr, hc2, hs2, hc3, hf3, f1, f2, f3, f4, f5, f6⟩ := fin wc hbc
          refine hK _ _ ?_
          clear hK K
          refine wpAnyIn_ready (rs := [3]) (by kernel_rfl) (by simp) ?_
          refine AllReadyIn.cons rfl (fun K hK => ?_) ?_
          · go_simp
            refine hK _ _ ?_
            clear hK K
            refine wpAnyIn_ready (rs := [4]) (by kernel_rfl) (by simp) ?_
            refine AllReadyIn.cons rfl (fun K hK => ?_) ?_
            · refine step_append_in rfl _ _ _ rfl _ _ rfl rfl hr ?_
              refine hK _ _ ?_
              clear hK K
              refine wpAnyIn_ready (rs := [5]) (by kernel_rfl) (by simp) ?_
              refine AllReadyIn.cons rfl (fun K hK => ?_) ?_
              · go_simp
                refine hK _ _ ?_
                clear hK K
                refine wpAnyIn_done (by kernel_rfl) ?_ _
                exact ⟨f1.from _, ⟨f2, f3⟩, ⟨⟨⟨_, f4, by rw [hpl.out, hpn.out]; exact f5, trivial⟩, f3.trans hX⟩, f6⟩⟩
              exact AllReadyIn.nil
            exact AllReadyIn.nil
          exact AllReadyIn.nil
        exact AllReadyIn.nil
      exact AllReadyIn.nil
    refine AllReadyIn.cons rfl (fun K hK => ?_) ?_
    · go_simp
      refine hK _ _ ?_
      clear hK K
      refine wpAnyIn_ready (rs := [0, 2]) (by kernel_rfl) (by simp) ?_
      refine AllReadyIn.cons rfl (fun K hK => ?_) ?_
      · go_simp
        refine hK _ _ ?_
        clear hK K
        refine wpAnyIn_ready (rs := [2]) (by kernel_rfl) (by simp) ?_
        refine AllReadyIn.cons rfl (fun K hK => ?_) ?_
        · go_simp
          refine ⟨trivial, ?_⟩
          refine (CallsIn.inRound l (callsIn_wide.2 (CT _))).mono ?_
          rintro e wc ⟨rfl, hbc⟩
          obtain ⟨g, cp, w', hr, hc2, hs2, hc3, hf3, f1, f2, f3, f4, f5, f6⟩ := fin wc hbc
          refine hK _ _ ?_
          clear hK K
          refine wpAnyIn_ready (rs := [3]) (by kernel_rfl) (by simp) ?_
          refine AllReadyIn.cons rfl (fun K hK => ?_) ?_
          · go_simp
            refine hK _ _ ?_
            clear hK K
            refine wpAnyIn_ready (rs := [4]) (by kernel_rfl) (by simp) ?_
            refine AllReadyIn.cons rfl (fun K hK => ?_) ?_
            · refine step_append_in rfl _ _ _ rfl _ _ rfl rfl hr ?_
              refine hK _ _ ?_
              clear hK K
              refine wpAnyIn_ready (rs := [5]) (by kernel_rfl) (by simp) ?_
              refine AllReadyIn.cons rfl (fun K hK => ?_) ?_
              · go_simp
                refine hK _ _ ?_
                clear hK K
                refine wpAnyIn_done (by kernel_rfl) ?_ _
                exact ⟨f1.from _, ⟨f2, f3⟩, ⟨⟨⟨_, f4, by rw [hpl.out, hpn.out]; exact f5, trivial⟩, f3.trans hX⟩, f6⟩⟩
              exact AllReadyIn.nil
            exact AllReadyIn.nil
          exact AllReadyIn.nil
        exact AllReadyIn.nil
      refine AllReadyIn.cons rfl (fun K hK => ?_) ?_
      · go_simp
        refine ⟨trivial, ?_⟩
        refine (CallsIn.inRound l (callsIn_wide.2 (CT _))).mono ?_
        rintro e wc ⟨rfl, hbc⟩
        obtain ⟨g, cp, w', hr, hc2, hs2, hc3, hf3, f1, f2, f3, f4, f5, f6⟩ := fin wc hbc
        refine hK _ _ ?_
        clear hK K
        refine wpAnyIn_ready (rs := [0, 3]) (by kernel_rfl) (by simp) ?_
        refine AllReadyIn.cons rfl (fun K hK => ?_) ?_
        · go_simp
          refine hK _ _ ?_
          clear hK K
          refine wpAnyIn_ready (rs := [3]) (by kernel_rfl) (by simp) ?_
          refine AllReadyIn.cons rfl (fun K hK => ?_) ?_
          · go_simp
            refine hK _ _ ?_
            clear hK K
            refine wpAnyIn_ready (rs := [4]) (by kernel_rfl) (by simp) ?_
            refine AllReadyIn.cons rfl (fun K hK => ?_) ?_
            · refine step_append_in rfl _ _ _ rfl _ _ rfl rfl hr ?_
              refine hK _ _ ?_
              clear hK K
              refine wpAnyIn_ready (rs := [5]) (by kernel_rfl) (by simp) ?_
              refine AllReadyIn.cons rfl (fun K hK => ?_) ?_
              · go_simp
                refine hK _ _ ?_
                clear hK K
                refine wpAnyIn_done (by kernel_rfl) ?_ _
                exact ⟨f1.from _, ⟨f2, f3⟩, ⟨⟨⟨_, f4, by rw [hpl.out, hpn.out]; exact f5, trivial⟩, f3.trans hX⟩, f6⟩⟩
              exact AllReadyIn.nil
            exact AllReadyIn.nil
          exact AllReadyIn.nil
        refine AllReadyIn.cons rfl (fun K hK => ?_) ?_
        · go_simp
          refine hK _ _ ?_
          clear hK K
          refine wpAnyIn_ready (rs := [0]) (by kernel_rfl) (by simp) ?_
          refine AllReadyIn.cons rfl (fun K hK => ?_) ?_
          · go_simp
            refine hK _ _ ?_
            clear hK K
            refine wpAnyIn_ready (rs := [4]) (by kernel_rfl) (by simp) ?_
            refine AllReadyIn.cons rfl (fun K hK => ?_) ?_
            · refine step_append_in rfl _ _ _ rfl _ _ rfl rfl hr ?_
              refine hK _ _ ?_
              clear hK K
              refine wpAnyIn_ready (rs := [5]) (by kernel_rfl) (by simp) ?_
              refine AllReadyIn.cons rfl (fun K hK => ?_) ?_
              · go_simp
                refine hK _ _ ?_
                clear hK K
                refine wpAnyIn_done (by kernel_rfl) ?_ _
                exact ⟨f1.from _, ⟨f2, f3⟩, ⟨⟨⟨_, f4, by rw [hpl.out, hpn.out]; exact f5, trivial⟩, f3.trans hX⟩, f6⟩⟩
              exact AllReadyIn.nil
            exact AllReadyIn.nil
          exact AllReadyIn.nil
        exact AllReadyIn.nil
      exact AllReadyIn.nil
    exact AllReadyIn.nil
  case done =>
    rintro D ys W1 hD rfl ⟨⟨⟨v, hv, hrow, -⟩, hX⟩, hB⟩ hK
    rw [Bk_turned, Bk_len] at hrow
    obtain ⟨va, vc, rfl⟩ := own_form hrow
    have c0 := hv.cell
    gi_wp2
    refine ⟨by simp, .inl ⟨_, _, rfl, run_takeDeferred hK, ?_⟩⟩
    exact ⟨_, results_tmp rfl _ _ _, _, rfl, by rw [turned_len]; exact ownsRow_putObj hrow _ hK rfl, hB.trans (belowK_b (w := w) (Nat.le_refl _) W1 D _ _ (by omega) hK rfl rfl)⟩
  case stop =>
    rintro D c pre W1 _ _ h _
    exact h.elim
end Go.Proofs.YtnddhpdhbmbikaaDoor
