/- A trip's way back: the program's, a range over slices.Backward. -/
import Derived.Test.YthlmaljgnhakfaaDoorBS
import Derived.Test.YthlmaljgnhakfaaDoorBR
import Derived.Shelf.Abstract
import Derived.Shelf.RegionOpen
import Derived.OwnWalkIn
import Derived.LoopNIn
import Derived.LoopIn
import Derived.Maps.AppendAt
namespace Go.Proofs.YthlmaljgnhakfaaDoor
open Go.RowKit Go.Shelf
attribute [local go_sem] Oper.semAt_some
/-- What has come when k rounds are over: place and unit, the last first. -/
def Bk (us : List HaltV) (k : Nat) : List (Int × HaltV) := (List.range k).map fun q => (((us.length - 1 - q : Nat) : Int), us.getD (us.length - 1 - q) HaltV.zero)
theorem Bk_len (us : List HaltV) (k : Nat) : (Bk us k).length = k := by simp [Bk]
theorem Bk_succ (us : List HaltV) (k j : Nat) (h : k + (j + 1) = us.length) : Bk us (k + 1) = Bk us k ++ [((j : Int), us.getD j HaltV.zero)] := by
  have e : us.length - 1 - k = j := by omega
  simp [Bk, List.range_succ, e]
def backW (T : Int) (c : HaltV) : HaltV := ⟨c.n, IntKind.i64.wrap (T - c.d), IntKind.i64.wrap (T - c.a)⟩
def outC (T : Int) (pre : List (Int × HaltV)) : List HaltV := pre.map fun x => backW T x.2
theorem Bk_back (T : Int) (us : List HaltV) (h : ∀ k, k < us.length → backW T (us.getD k HaltV.zero) = backC T (us.getD k HaltV.zero)) : outC T (Bk us us.length) = backL T us := by
  apply List.ext_getElem
  · simp [outC, Bk, backL]
  · intro i h1 h2
    have hi : i < us.length := by simpa [outC, Bk] using h1
    have hj : us.length - 1 - i < us.length := by omega
    have := h _ hj
    simp [outC, Bk, backL, List.getD, hj] at this ⊢
    exact this
theorem outC_snoc (T : Int) (pre : List (Int × HaltV)) (x : Int × HaltV) : outC T (pre ++ [x]) = outC T pre ++ [backW T x.2] := by simp [outC]
theorem outC_len (T : Int) (pre : List (Int × HaltV)) : (outC T pre).length = pre.length := by simp [outC]
theorem keepblk' {v w' : World} {b : Nat} {o : Obj} (h : Below v.heap.size v w') (hz : v.heap[b]? = some o) : w'.heap[b]? = some o := (h.block _ (lt_of_block hz)).trans hz
theorem grown_of_below {A C : World} (h : Below A.heap.size A C) : A.grownBy C none := ⟨h.os, h.tape, h.output, h.size, fun b hb _ => h.block b hb⟩
/-- What a round that goes on keeps: all below n₀, and the box that holds the list. -/
def KB (n₀ B : Nat) (A C : World) : Prop := Below n₀ A C ∧ C.heap[B]? = A.heap[B]?
theorem KB.t {n₀ B : Nat} {A C D : World} (h : KB n₀ B A C) (k : KB n₀ B C D) : KB n₀ B A D := ⟨h.1.trans k.1, k.2.trans h.2⟩
theorem KB.b {n₀ B : Nat} {w : World} (hn : n₀ ≤ w.heap.size) (hB : B < w.heap.size) (A : World) (l : Nat) (o o' : Obj) (hl : w.heap.size ≤ l) (h : A.heap[l]? = some o) (h1 : o.isCells = false) (h2 : o.isWalk = false) : KB n₀ B A (A.putObj l o') :=
  ⟨belowK_b hn A l o o' hl h h1 h2, World.putObj_heap_other (by omega)⟩
theorem cell_of_box {W : World} {B : Nat} {v : Value} {t : TypeId} (h : W.heap[B]? = some (.cells #[v] t (0, 0))) : W.cell? ⟨B, 0, none⟩ = some v ∧ W.frozen? ⟨B, 0, none⟩ = false := by
  constructor <;> simp [World.cell?, World.frozen?, h]

/-- The function that hands out the units, made. -/
theorem cBack (n : Nat) (a : Option Addr) (m cap : Nat) (w : World) :
    CallsIn Fence.wide n Tryd.prog 29 #[.slice a m cap] w fun e w' => e = .returned (.func (.func 51) #[] #[.pointer (some ⟨w.heap.size, 0, none⟩)]) ∧ w' = w.alloc (.cells #[.slice a m cap] 24) := by
  refine callsIn_of_wp Tryd.func29 rfl trivial ?_ rfl
  simp only [Tryd.ntmps29, List.size_toArray, List.length_cons, List.length_nil, Nat.reduceAdd, Nat.reduceSub, Array.replicate_succ, Array.replicate_zero, List.push_toArray, List.append_toArray, List.nil_append, List.cons_append]
  gi_wp2
  go_ret
  exact ⟨rfl, rfl⟩

set_option maxRecDepth 100000 in
set_option maxHeartbeats 2000000 in
theorem cBack1 (n : Nat) (hn : 1 ≤ n) (l B n₀ : Nat) (a : Option Addr) (cap : Nat) (us : List HaltV) (w0 : World) (he : Halts w0 a us) (hl : us.length ≤ 30) (hw0 : w0.heap.size ≤ n₀)
    (J Jx : List (Int × HaltV) → World → Prop) (Wr : World)
    (hY : ∀ pre x W1, J pre W1 → pre.length < 40 → YieldAt Fence.wide (n - 1) Tryd.prog l #[.int .i64 x.1, .agg #[.int .i64 x.2.n, .int .i64 x.2.a, .int .i64 x.2.d]] W1 fun e W' =>
      (e = .returned (.bool true) ∧ J (pre ++ [x]) W' ∧ KB n₀ B W1 W') ∨ (e = .returned (.bool false) ∧ Jx (pre ++ [x]) W'))
    (hb : Below n₀ w0 Wr) (hX : Wr.heap[B]? = some (.cells #[.slice a us.length cap] 24 (0, 0))) (h0 : J [] Wr) :
    CallsIn Fence.wide n Tryd.prog 51 #[.func (.yield l) #[] #[], .pointer (some ⟨B, 0, none⟩)] Wr fun e W' => (∃ v, e = .returned v) ∧
      ((∃ ys, ys = Bk us us.length ∧ J ys W') ∨ (∃ pre, True ∧ Jx pre W')) := by
  have hYh := hide hY
  clear hY
  refine callsIn_of_wp Tryd.func51 rfl trivial ?_ rfl
  simp only [Tryd.ntmps51, List.size_toArray, List.length_cons, List.length_nil, Nat.reduceAdd, Nat.reduceSub, Array.replicate_succ, Array.replicate_zero, List.push_toArray, List.append_toArray, List.nil_append, List.cons_append]
  obtain ⟨b0, _⟩ := cell_of_box hX
  have hw1 : IntKind.i64.wrap ((us.length : Int) - 1) = (us.length : Int) - 1 := wrap_in _ (by omega) (by omega)
  have J0 : J (Bk us 0) Wr := h0
  gi_wp2
  gi_loopw [3] (fun i wr => ∃ k j : Nat, k + j = us.length ∧ i = .int .i64 ((j : Int) - 1) ∧ Below w0.heap.size w0 wr ∧ wr.heap[B]? = some (.cells #[.slice a us.length cap] 24 (0, 0)) ∧ J (Bk us k) wr)
    (fun i _ => (intOf i + 1).toNat)
  case atStart => exact ⟨0, us.length, by omega, rfl, hb.mono hw0, hX, J0⟩
  case round =>
    clear b0 hb hX h0 J0 hw1
    obtain ⟨k, j, hkj, rfl, hbr, hXr, hJr⟩ := hrel
    obtain ⟨b0, _⟩ := cell_of_box hXr
    have HK := hide hkj
    cases j with
    | succ j =>
      have ej : (((j + 1 : Nat) : Int) - 1) = (j : Int) := by omega
      rw [ej]
      have hlt : j < us.length := by omega
      have PK := hide (Bk_succ us k j hkj)
      have hk40 : k < 40 := by omega
      have hw2 : IntKind.i64.wrap ((j : Int) - 1) = (j : Int) - 1 := wrap_in _ (by omega) (by omega)
      clear ej hkj
      rcases he with h | ⟨b1, o1, rfl, q1⟩
      · simp [h] at hlt
      obtain ⟨p0, p1, p2⟩ := q1 j hlt
      replace p0 := ble hbr p0
      replace p1 := ble hbr p1
      replace p2 := ble hbr p2
      clear q1
      generalize us.getD j HaltV.zero = y at *
      obtain ⟨yn, ya, yd⟩ := y
      dsimp only at *
      obtain ⟨fn, tmps, assign, body, hy, hR⟩ := hYh.out _ ((j : Int), ⟨yn, ya, yd⟩) wr hJr (by rw [Bk_len]; exact hk40)
      dsimp only at hy hR
      rw [← PK.out] at hR
      gi_wp2
      refine hR.mono ?_
      rintro e W3 (⟨rfl, hJ3, hk3⟩ | ⟨rfl, hJx3⟩)
      · clear hR hy
        gi_wp2
        go_roundw
        case rel => exact ⟨k + 1, j, by have := HK.out; omega, rfl, hbr.trans (hk3.1.mono hw0), hk3.2.trans hXr, hJ3⟩
        case measure => simp [intOf]
      · clear hR hy
        gi_wp2
        refine bodyPost_ret (results_none rfl _ _ _) rfl ?_
        exact ⟨⟨_, rfl⟩, .inr ⟨_, trivial, hJx3⟩⟩
    | zero =>
      have e0 : (((0 : Nat) : Int) - 1) = -1 := by omega
      rw [e0]
      have hk : k = us.length := by omega
      rw [hk] at hJr
      clear e0 HK hkj hk
      gi_wp2
      go_end0
      exact ⟨⟨_, rfl⟩, .inl ⟨_, rfl, hJr⟩⟩

theorem blk_own {β : Type} (B : Nat) (cs : Array Value) (t : TypeId) : Own (fun (_ : β) (W : World) => W.heap[B]? = some (.cells cs t (0, 0))) := fun s X Y row hs hg hrow =>
  (hg.block B (lt_of_block hs) (fun e' => by obtain ⟨o, ho, hc⟩ := hrow B e'.symm; rw [hs] at ho; cases ho; cases hc)).trans hs
theorem keeps_below {A C : World} (h : Below A.heap.size A C) : KeepsOthers A C := KeepsOthers.of_grownBy (grown_of_below h) (fun j o ej _ => by cases ej)
theorem cells_not_row {W : World} {B base k e : Nat} {v : Value} {xs : List Value} {cs : Array Value} {t : TypeId} (h : W.heap[B]? = some (.cells cs t (0, 0))) (hte : t ≠ e) {sz : Nat} (hr : W.ownsRow base e sz v k xs) : some B ≠ v.ownBlock := by
  intro he
  rcases hr.2 with ⟨rfl, _⟩ | ⟨g, cap, cur, rfl, _, hg, _⟩
  · simp [Value.ownBlock] at he
  · simp [Value.ownBlock] at he
    subst he
    rw [h] at hg
    simp only [Option.some.injEq, Obj.cells.injEq] at hg
    exact hte hg.2.1
/-- What is held between two rounds. -/
structure Hld (w w1 : World) (s : ByteArray) (T : Int) (a : Option Addr) (n cap : Nat) (xs : List HaltV) (W : World) : Prop where
  out : ∃ ao cp, OutT w1 W s ao cp xs
  ptr : W.heap[w1.heap.size + 1]? = some (.cells #[.pointer (some ⟨w1.heap.size, 0, none⟩)] 49 (0, 0))
  num : W.heap[w1.heap.size + 1 + 1]? = some (.cells #[.int .i64 T] 3 (0, 0))
  box : W.heap[w1.heap.size + 1 + 1 + 1]? = some (.cells #[.slice a n cap] 24 (0, 0))
theorem Hld.own {w w1 : World} {s : ByteArray} {T : Int} {a : Option Addr} {n cap B : Nat} (f : List (Int × HaltV) → List HaltV) (hB : w1.heap.size ≤ B) : OwnFrom B (fun pre W => Hld w w1 s T a n cap (f pre) W) := by
  intro pre X Y row h hg hr
  have ck : ∀ {b : Nat} {cs : Array Value} {t : TypeId}, X.heap[b]? = some (.cells cs t (0, 0)) → Y.heap[b]? = some (.cells cs t (0, 0)) := fun {b cs t} hb => by
    refine (hg.block b (lt_of_block hb) (fun e => ?_)).trans hb
    obtain ⟨-, o, ho, hc⟩ := hr b e.symm
    rw [hb] at ho; cases ho; cases hc
  obtain ⟨⟨ao, cp, h1, h2, h3⟩, h4, h5, h6⟩ := h
  refine ⟨⟨ao, cp, h1.grown hg h1.size (fun k e => by have := (hr k e).1; omega), ck h2, ?_⟩, ck h4, ck h5, ck h6⟩
  refine own_far h3 hg (fun k hk e => ?_)
  rcases h3.2 with ⟨he, _⟩ | ⟨g, c2, cur, he, _, hgb, _⟩
  · rw [he] at hk; simp [Value.ownBlock] at hk
  · rw [he] at hk
    simp [Value.ownBlock] at hk
    subst hk
    obtain ⟨-, o, ho, hc⟩ := hr g e.symm
    rw [hgb] at ho; cases ho; cases hc
theorem Hld.keep {w w1 : World} {s : ByteArray} {T : Int} {a : Option Addr} {n cap : Nat} {xs : List HaltV} {W W' : World} (h : Hld w w1 s T a n cap xs W) (hb : Below W.heap.size W W') : Hld w w1 s T a n cap xs W' := by
  obtain ⟨⟨ao, cp, o⟩, h4, h5, h6⟩ := h
  exact ⟨⟨ao, cp, o.keep hb⟩, blk_keep hb h4, blk_keep hb h5, blk_keep hb h6⟩
/-- What a round leaves behind the append (in w2) and the store. -/
theorem Hld.push {w w1 W wx w2 : World} {s : ByteArray} {T : Int} {a : Option Addr} {n cap : Nat} {xs : List HaltV} {ao : Option Addr} {cp g cap2 : Nat} {x : HaltV} (h : Hld w w1 s T a n cap xs W) (o : OutT w1 W s ao cp xs) (hx : Below W.heap.size W wx)
    (hown : w2.ownsRow (w1.heap.size + 1) 36 3 (.slice (some ⟨g, 0, none⟩) (xs.length + 1) cap2) (xs.length + 1) (flatHalts xs ++ x.vs)) (hgrow : wx.grownBy w2 (Value.slice ao xs.length cp).ownBlock) :
    Hld w w1 s T a n cap (xs ++ [x]) (w2.setCell ⟨w1.heap.size, 1, none⟩ (.slice (some ⟨g, 0, none⟩) (xs.length + 1) cap2)) := by
  have cf : ∀ {b : Nat} {cs : Array Value} {t : TypeId}, W.heap[b]? = some (.cells cs t (0, 0)) → t ≠ 36 → b ≠ w1.heap.size → (w2.setCell ⟨w1.heap.size, 1, none⟩ (.slice (some ⟨g, 0, none⟩) (xs.length + 1) cap2)).heap[b]? = some (.cells cs t (0, 0)) := fun {b cs t} hb ht hne => by
    refine (Below.heap_setCell w2 ⟨w1.heap.size, 1, none⟩ _ b (fun e => hne e)).trans ?_
    refine (hgrow.block b (Nat.lt_of_lt_of_le (lt_of_block hb) hx.size) (cells_not_row hb ht o.own)).trans ((hx.block b (lt_of_block hb)).trans hb)
  exact ⟨⟨_, _, o.pushG hx hown hgrow⟩, cf h.ptr (by decide) (by omega), cf h.num (by decide) (by omega), cf h.box (by decide) (by omega)⟩

theorem nd_of {ops : Array Oper} (h : ops.toList.all (fun o => match o.op with | .defer _ => false | _ => true) = true) : ∀ (i : Nat) (o : Oper), ops[i]? = some o → ∀ c, o.op ≠ .defer c := by
  intro i o hi c hc
  rw [List.all_eq_true] at h
  have := h o (by rw [← Array.getElem?_toList] at hi; exact List.mem_of_getElem? hi)
  simp [hc] at this
theorem step_append_run9 {ops : Array Oper} {o : Oper} {a : Act} {w w' : World} {v' : Value} {K : Act → World → Prop} {Q : Exit → Act → World → Prop} {E : Prop} (hgd : o.guard = none) (s x : Operand) (t : TypeId)
    (ho : o.op = .call { callee := .builtin .append, args := #[s, x], argTypes := #[t, t] }) (vs vx : Value) (hs : a.eval s = vs) (hx : a.eval x = vx)
    (hr : (Builtin.append_ #[t, t] o.type #[vs, vx]).run Tryd.prog w = .ok v' w') (h : K (a.put o.dst v') w') :
    if Region.wanted o (yielded ops a.tmps) = true then Oper.wp Tryd.prog o a w K Q else E := by
  rw [if_pos (by simp [Region.wanted, hgd])]
  unfold Oper.wp execOp
  simp only [ho, resolve, invoke, builtin, Sem.run_bind, Sem.run_pure, Result.andThen_ok, List.map_toArray, List.map_cons, List.map_nil, hs, hx, hr]
  exact h
theorem blk_frozen {w : World} {b : Nat} {cs : Array Value} {t : TypeId} (h : w.heap[b]? = some (.cells cs t (0, 0))) (i : Nat) : w.frozen? ⟨b, i, none⟩ = false := by simp [World.frozen?, h]
theorem blk_cell9 {w : World} {b : Nat} {cs : Array Value} {t : TypeId} (h : w.heap[b]? = some (.cells cs t (0, 0))) (i : Nat) : w.cell? ⟨b, i, none⟩ = cs[i]? := by simp [World.cell?, h]
/-- One call more behind a row, as an equation of the run. -/
theorem appC {W : World} {n₀ k : Nat} {va : Option Addr} {vc B : Nat} {xs : List HaltV} (y : HaltV) (hown : W.ownsRow n₀ 36 3 (.slice va k vc) k (flatHalts xs)) (hN : W.heap[B]? = some (.cells #[.int .i64 y.n, .int .i64 y.a, .int .i64 y.d] 36)) (hk : k ≤ 60) (hn : n₀ ≤ W.heap.size) :
    ∃ g cp w', (Builtin.append_ #[24, 24] 24 #[.slice va k vc, .slice (some ⟨B, 0, none⟩) 1 1]).run Tryd.prog W = .ok (.slice (some ⟨g, 0, none⟩) (k + 1) cp) w' ∧
      w'.ownsRow n₀ 36 3 (.slice (some ⟨g, 0, none⟩) (k + 1) cp) (k + 1) (flatHalts xs ++ y.vs) ∧ W.grownBy w' (Value.slice va k vc).ownBlock := by
  obtain ⟨i0, hi, hz0, hz1, hz2⟩ := info_parts infoHalts
  obtain ⟨v', w', hr, h2, h3, -, -⟩ := run_append_own_at (P := Tryd.prog) W n₀ 24 24 36 i0 _ 3 24 Tryd.underlying24 hi hz0 hz1 hz2 rfl (by decide) _ k (flatHalts xs) hown ⟨B, 0, none⟩ 1 1 y.vs rfl (World.news_of_block hN) (by simp [HaltV.vs, Value.oneCell']) (by unfold maxLen; omega) (by omega) hn
  obtain ⟨g, cp, rfl⟩ := ownsRow_succ h2
  exact ⟨g, cp, w', hr, h2, h3⟩

set_option maxRecDepth 100000 in
set_option maxHeartbeats 8000000 in
theorem cBackI (s : ByteArray) (a : Option Addr) (cap : Nat) (cs : List HaltV) (x : Int) (w : World) (hz : Halts w a cs) (hl : cs.length ≤ 1048576) (hcap : cs.length ≤ cap) :
    Calls Tryd.prog 13 #[.agg #[.string s, .slice a cs.length cap], .int .i64 x] w (AnsTrip w (backT ⟨s, cs⟩ x)) := by
  have E : Hid (backT ⟨s, cs⟩ x = (if tripB ⟨s, cs⟩ = true ∧ inB x 0 100000 = true then ifOk ⟨s, backL (x + lastD cs) cs⟩ else TripV.zero)) := rfl
  have A0 := blk_keep (balloc _ (.cells #[.string ⟨#[]⟩, .slice none 0 0] 26)) (one_block w (.cells #[.string s, .slice a cs.length cap] 26))
  have K0 := one_block (w.alloc (.cells #[.string s, .slice a cs.length cap] 26)) (.cells #[.string ⟨#[]⟩, .slice none 0 0] 26)
  have HB := btrans (balloc w (.cells #[.string s, .slice a cs.length cap] 26)) (balloc _ (.cells #[.string ⟨#[]⟩, .slice none 0 0] 26))
  simp only [sz1] at K0
  cases hT : tripB ⟨s, cs⟩
  · have hq := hide (show backT ⟨s, cs⟩ x = TripV.zero by rw [E.out, hT, if_neg (by simp)])
    have C := cTripI s a cap cs _ (hz.below HB) hl hcap
    rw [hT] at C
    clear E hT
    go_enter Tryd.func13, Tryd.ntmps13
    go_wp2_with fail
    refine C.mono ?_
    rintro e w1 ⟨rfl, hb⟩
    replace HB := btrans HB hb
    replace K0 := blk_keep hb K0
    clear hb
    obtain ⟨⟨y0, y1⟩, f0, f1⟩ := blk2 K0
    go_wp2
    refine bodyPost_ret (v := .agg #[.string ⟨#[]⟩, .slice none 0 0]) (by simp [results, Tryd.results13, go_sem, y0, y1]) rfl ?_
    rw [hq.out]
    exact ⟨none, 0, rfl, World.ownsRow_nil _ _ _ _, below_set (by omega) (below_set (by omega) HB)⟩
  have C := cTripI s a cap cs _ (hz.below HB) hl hcap
  rw [hT] at C
  cases hX : inB x 0 100000
  · have hq := hide (show backT ⟨s, cs⟩ x = TripV.zero by rw [E.out, hX, if_neg (by simp)])
    have CW := fun w => cWithin x 0 100000 w
    rw [hX] at CW
    clear E hT hX
    go_enter Tryd.func13, Tryd.ntmps13
    go_wp2_with fail
    refine C.mono ?_
    rintro e w1 ⟨rfl, hb⟩
    replace HB := btrans HB hb
    replace K0 := blk_keep hb K0
    clear hb
    go_wp2_with fail
    refine (CW _).mono ?_
    rintro e w2 ⟨rfl, hw⟩
    subst w2
    obtain ⟨⟨y0, y1⟩, f0, f1⟩ := blk2 K0
    go_wp2
    refine bodyPost_ret (v := .agg #[.string ⟨#[]⟩, .slice none 0 0]) (by simp [results, Tryd.results13, go_sem, y0, y1]) rfl ?_
    rw [hq.out]
    exact ⟨none, 0, rfl, World.ownsRow_nil _ _ _ _, below_set (by omega) (below_set (by omega) HB)⟩
  have hq := hide (show backT ⟨s, cs⟩ x = ifOk ⟨s, backL (x + lastD cs) cs⟩ by rw [E.out, hT, hX, if_pos ⟨rfl, rfl⟩])
  have CW := fun w => cWithin x 0 100000 w
  rw [hX] at CW
  obtain ⟨-, l1, l2, hall, -⟩ := trip_parts hT
  dsimp only at l1 l2 hall
  obtain ⟨x1, x2⟩ := inB_true hX
  clear E hT hX
  have lp : 0 < cs.length := by omega
  rcases hz with h | ⟨b, off, rfl, hc⟩
  · simp [h] at lp
  have hz : Halts w (some ⟨b, off, none⟩) cs := .inr ⟨b, off, rfl, hc⟩
  obtain ⟨n, hn⟩ : ∃ n, cs.length = n + 1 := ⟨cs.length - 1, by omega⟩
  have hD := hide (show lastD cs = (cs.getD n HaltV.zero).d by unfold lastD; rw [hn]; rfl)
  obtain ⟨-, -, e2⟩ := hc n (by omega)
  have hbd := call_parts (call_at hall (show n < cs.length by omega))
  rw [← hD.out] at hbd e2
  obtain ⟨-, ⟨c1, c2⟩, c3⟩ := hbd
  have wn : IntKind.i64.wrap ((cs.length : Int) - 1) = (n : Int) := (wrap_in _ (by omega) (by omega)).trans (by omega)
  have hni : (n : Int) < (cs.length : Int) := by omega
  have hnn : n < cs.length := by omega
  have hn0 : (0 : Int) ≤ (n : Int) := by omega
  have hbl0 : b < w.heap.size := cell_lt (hc n (by omega)).1
  generalize lastD cs = D at *
  have wD : IntKind.i64.wrap (x + D) = x + D := wrap_in _ (by omega) (by omega)
  clear hn hD
  refine (callsIn_wide (n := 4)).1 ?_
  refine callsIn_of_wp_marks Tryd.func13 rfl trivial ?_ rfl
  simp only [Tryd.ntmps13, List.size_toArray, List.length_cons, List.length_nil, Nat.reduceAdd, Nat.reduceSub, Array.replicate_succ, Array.replicate_zero, List.push_toArray, List.append_toArray, List.nil_append, List.cons_append]
  gi_wp2_with (first
    | (refine ⟨trivial, ?_⟩; gi_at_call 29; refine (cBack _ (some ⟨b, off, none⟩) cs.length cap _).mono ?_; rintro e w' ⟨rfl, rfl⟩)
    | (refine ⟨trivial, ?_⟩; gi_at_call 25; refine (callsIn_wide.2 (CW _)).mono ?_; rintro e wq ⟨rfl, hwq⟩; subst wq)
    | (refine ⟨trivial, ?_⟩; gi_at_call 9; refine (callsIn_wide.2 C).mono ?_; rintro e w1 ⟨rfl, hb⟩; replace HB := btrans HB hb; replace A0 := blk_keep hb A0; replace K0 := blk_keep hb K0; have e3 := ble HB e2; obtain ⟨⟨z0, z1⟩, -⟩ := blk2 A0; have hw0 := lt_of_block A0; have hw9 := lt_of_block K0; have hbw : b < w1.heap.size := Nat.lt_of_lt_of_le hbl0 HB.size; have hw1 : w.heap.size < w1.heap.size + 1 := Nat.lt_add_one_of_lt hw0; have hw2 : w.heap.size < w1.heap.size + 1 + 1 := Nat.lt_add_one_of_lt hw1; have hbx : b < w1.heap.size + 1 := Nat.lt_add_one_of_lt hbw; have hby : b < w1.heap.size + 1 + 1 := Nat.lt_add_one_of_lt hbx))
  obtain ⟨W0, hW0⟩ : ∃ W0, (((w1.alloc (.cells #[.string s, .slice none 0 0] 26)).alloc (.cells #[.pointer (some ⟨w1.heap.size, 0, none⟩)] 49)).alloc (.cells #[.int .i64 (x + D)] 3)).alloc (.cells #[.slice (some ⟨b, off, none⟩) cs.length cap] 24) = W0 := ⟨_, rfl⟩
  have H0 : Hld w w1 s (x + D) (some ⟨b, off, none⟩) cs.length cap [] W0 ∧ Below w1.heap.size w1 W0 ∧ W0.heap.size = w1.heap.size + 1 + 1 + 1 + 1 := by
    have t0 := one_block w1 (.cells #[.string s, .slice none 0 0] 26)
    have b1 := balloc (w1.alloc (.cells #[.string s, .slice none 0 0] 26)) (.cells #[.pointer (some ⟨w1.heap.size, 0, none⟩)] 49)
    have t1 := one_block (w1.alloc (.cells #[.string s, .slice none 0 0] 26)) (.cells #[.pointer (some ⟨w1.heap.size, 0, none⟩)] 49)
    have b2 := balloc ((w1.alloc (.cells #[.string s, .slice none 0 0] 26)).alloc (.cells #[.pointer (some ⟨w1.heap.size, 0, none⟩)] 49)) (.cells #[.int .i64 (x + D)] 3)
    have t2 := one_block ((w1.alloc (.cells #[.string s, .slice none 0 0] 26)).alloc (.cells #[.pointer (some ⟨w1.heap.size, 0, none⟩)] 49)) (.cells #[.int .i64 (x + D)] 3)
    have b3 := balloc (((w1.alloc (.cells #[.string s, .slice none 0 0] 26)).alloc (.cells #[.pointer (some ⟨w1.heap.size, 0, none⟩)] 49)).alloc (.cells #[.int .i64 (x + D)] 3)) (.cells #[.slice (some ⟨b, off, none⟩) cs.length cap] 24)
    have t3 := one_block (((w1.alloc (.cells #[.string s, .slice none 0 0] 26)).alloc (.cells #[.pointer (some ⟨w1.heap.size, 0, none⟩)] 49)).alloc (.cells #[.int .i64 (x + D)] 3)) (.cells #[.slice (some ⟨b, off, none⟩) cs.length cap] 24)
    simp only [sz1] at t1 t2 t3
    have b0 := balloc w1 (.cells #[.string s, .slice none 0 0] 26)
    have L0 : OutT w1 (w1.alloc (.cells #[.string s, .slice none 0 0] 26)) s none 0 [] := ⟨b0, t0, World.ownsRow_nil _ _ _ _⟩
    have b23 := btrans b2 b3
    rw [← hW0]
    exact ⟨⟨⟨none, 0, L0.keep (btrans b1 b23)⟩, blk_keep b23 t1, blk_keep b3 t2, t3⟩, btrans b0 (btrans b1 b23), by simp only [sz1]⟩
  obtain ⟨H0, BW, sz⟩ := H0
  rw [hW0]
  clear hW0
  have HBW := btrans HB BW
  refine wpIn_rangeFunc_ownH rfl (by omega) (gf := 51) (lb := #[.pointer (some ⟨w1.heap.size + 1 + 1 + 1, 0, none⟩)]) rfl trivial (enters_of Tryd.func51 (by kernel_rfl) rfl)
    (encs := fun x : Int × HaltV => #[.int .i64 x.1, .agg #[.int .i64 x.2.n, .int .i64 x.2.a, .int .i64 x.2.d]]) (Kp := KB w.heap.size (w1.heap.size + 1 + 1 + 1)) (S := fun ys => ys = Bk cs cs.length) (Sp := fun _ => True) (N := 40) (w0 := W0)
    (fun l J Jx Wr hW hJ _ hY h0 => cBack1 (4 - 1) (by omega) l (w1.heap.size + 1 + 1 + 1) w.heap.size (some ⟨b, off, none⟩) cap cs w hz (by omega) (Nat.le_refl _) J Jx Wr hY (btrans HBW hW) (keepblk' hW H0.box) h0) KB.t (KB.b (by have := HB.size; omega) (by omega)) (Below.refl _ _) (fun _ => rfl)
    (fun pre W' => Hld w w1 s (x + D) (some ⟨b, off, none⟩) cs.length cap (outC (x + D) pre) W')
    (fun _ _ _ => False)
    (Hld.own (outC (x + D)) (by omega))
    (fun _ _ _ _ _ hs _ _ => hs)
    H0
    (fun x9 a' W => ∃ Bx v, w1.heap.size + 1 + 1 + 1 < Bx ∧ W.heap[Bx]? = some (.cells #[.int .i64 x9.2.n, .int .i64 x9.2.a, .int .i64 x9.2.d] 36 (0, 0)) ∧ W.cell? ⟨w1.heap.size, 1, none⟩ = some v ∧ v.ownBlock ≠ some Bx ∧ a' = { tmps := List.toArray (.agg #[.string s, .slice (some ⟨b, off, none⟩) cs.length cap] :: .int .i64 x :: .pointer (some ⟨w.heap.size, 0, none⟩) :: undef :: .pointer (some ⟨w.heap.size + 1, 0, none⟩) :: .pointer (some ⟨w1.heap.size + 1, 0, none⟩) :: .pointer (some ⟨w1.heap.size + 1 + 1, 0, none⟩) :: undef :: .pointer (some ⟨Bx, 0, none⟩) :: .agg #[.string s, .slice (some ⟨b, off, none⟩) cs.length cap] :: .bool true :: .bool false :: .bool false :: .int .i64 x :: .bool true :: .bool false :: .bool false :: undef :: .pointer (some ⟨w.heap.size, 0, none⟩) :: .string s :: .agg #[.string s, .slice none 0 0] :: .pointer (some ⟨w1.heap.size, 0, none⟩) :: .int .i64 x :: .pointer (some ⟨w.heap.size, 1, none⟩) :: .slice (some ⟨b, off, none⟩) cs.length cap :: .pointer (some ⟨w.heap.size, 1, none⟩) :: .slice (some ⟨b, off, none⟩) cs.length cap :: .int .i64 (cs.length : Int) :: .int .i64 (n : Int) :: .pointer (some ⟨b, off + n * 3, none⟩) :: .pointer (some ⟨b, off + n * 3 + 2, none⟩) :: .int .i64 D :: .int .i64 (x + D) :: .pointer (some ⟨w.heap.size, 1, none⟩) :: .slice (some ⟨b, off, none⟩) cs.length cap :: .func (.func 51) #[] #[.pointer (some ⟨w1.heap.size + 1 + 1 + 1, 0, none⟩)] :: .int .i64 x9.1 :: .agg #[.int .i64 x9.2.n, .int .i64 x9.2.a, .int .i64 x9.2.d] :: undef :: undef :: undef :: undef :: undef :: undef :: undef :: undef :: undef :: undef :: undef :: undef :: undef :: undef :: undef :: undef :: undef :: undef :: undef :: undef :: undef :: undef :: []), defers := [] })
    ?hAx ?assign ?body ?done ?stop
  case hAx =>
    intro x9 a' st X Y row hs hg hr
    obtain ⟨Bx, v, h1, h2, h3, h4, h5⟩ := hs
    exact ⟨Bx, v, h1, Own.from (blk_own Bx _ _) _ st X Y row h2 hg hr, cell_kept h3 hg (fun r e => (hr r e).2), h4, h5⟩
  case assign =>
    rintro l pre x9 W K hH hK
    obtain ⟨xi, un, ua, ud⟩ := x9
    have hlt := lt_of_block hH.box
    obtain ⟨ao, cp, o⟩ := hH.out
    have hc1 := (blk2 o.out).1.2
    have hbo := own_blk_lt o.own
    have hA := balloc W (.cells #[.int .i64 un, .int .i64 ua, .int .i64 ud] 36)
    gi_wp2
    exact hK _ _ ((KeepsOthers.alloc _ _).from _) ⟨(Below.refl _ W).alloc (by have := HB.size; have := o.bel.size; omega) _, (blk_keep hA hH.box).trans hH.box.symm⟩ (hH.keep hA) ⟨W.heap.size, _, hlt, one_block W _, ble hA hc1, fun e => by have := hbo _ e; omega, rfl⟩
  case body =>
    rintro l pre x9 a' W hl1 - hH ⟨Bx, v, hBx, hx, hcv, hvb, rfl⟩ hlt
    obtain ⟨xi, n9, a9, d9⟩ := x9
    dsimp only at hx ⊢
    obtain ⟨ao, cp, o⟩ := hH.out
    have hc1 := (blk2 o.out).1.2
    rw [hc1] at hcv
    obtain rfl := Option.some.inj hcv
    have hsn : Hid (outC (x + D) (pre ++ [(xi, (⟨n9, a9, d9⟩ : HaltV))]) = outC (x + D) pre ++ [backW (x + D) ⟨n9, a9, d9⟩]) := hide (outC_snoc _ _ _)
    have hll : (outC (x + D) pre).length ≤ 60 := by rw [outC_len]; omega
    obtain ⟨u9, hu9⟩ : ∃ u9, IntKind.i64.wrap (x + D - d9) = u9 := ⟨_, rfl⟩
    obtain ⟨v9, hv9⟩ : ∃ v9, IntKind.i64.wrap (x + D - a9) = v9 := ⟨_, rfl⟩
    have hbw : Hid (backW (x + D) ⟨n9, a9, d9⟩ = ⟨n9, u9, v9⟩) := hide (by unfold backW; rw [hu9, hv9])
    rw [hbw.out] at hsn
    generalize pre ++ [(xi, (⟨n9, a9, d9⟩ : HaltV))] = pre2 at *
    generalize outC (x + D) pre = xs at *
    have e0 : W.cell? ⟨w1.heap.size + 1, 0, none⟩ = some (.pointer (some ⟨w1.heap.size, 0, none⟩)) := blk_cell9 hH.ptr 0
    have e1 : W.cell? ⟨w1.heap.size + 1 + 1, 0, none⟩ = some (.int .i64 (x + D)) := blk_cell9 hH.num 0
    have z0 : W.cell? ⟨Bx, 0, none⟩ = some (.int .i64 n9) := blk_cell9 hx 0
    have z1 : W.cell? ⟨Bx, 1, none⟩ = some (.int .i64 a9) := blk_cell9 hx 1
    have z2 : W.cell? ⟨Bx, 2, none⟩ = some (.int .i64 d9) := blk_cell9 hx 2
    have hA : Below W.heap.size W (W.alloc (.cells #[.int .i64 n9, .int .i64 u9, .int .i64 v9] 36)).drew := (balloc W (.cells #[.int .i64 n9, .int .i64 u9, .int .i64 v9] 36)).drew
    have v0 := ble hA e0
    have v1 := ble hA e1
    have v2 := ble hA z0
    have v3 := ble hA z1
    have v4 := ble hA z2
    have hc2 := ble hA hc1
    have hws := o.bel.size
    obtain ⟨g, cap2, w2, hr, hown, hgrow⟩ := appC (⟨n9, u9, v9⟩ : HaltV) (own_keep o.own hA) (B := W.heap.size) (one_block W (.cells #[.int .i64 n9, .int .i64 u9, .int .i64 v9] 36)) hll (by have := hA.size; have := o.lt; omega)
    have hP := hH.push o hA hown hgrow
    have far : ∀ {bb : Nat} {cz : Array Value} {t : TypeId}, W.heap[bb]? = some (.cells cz t (0, 0)) → some bb ≠ (Value.slice ao xs.length cp).ownBlock → w2.heap[bb]? = some (.cells cz t (0, 0)) := fun {bb cz t} hb hne => (hgrow.block bb (Nat.lt_of_lt_of_le (lt_of_block hb) hA.size) hne).trans (blk_keep hA hb)
    have p2 := far hH.ptr (cells_not_row hH.ptr (by decide) o.own)
    have q2 := far hH.num (cells_not_row hH.num (by decide) o.own)
    have r2 := far hx (fun e => hvb e.symm)
    have s2 := far o.out (cells_not_row o.out (by decide) o.own)
    have y0 : w2.cell? ⟨w1.heap.size + 1, 0, none⟩ = some (.pointer (some ⟨w1.heap.size, 0, none⟩)) := blk_cell9 p2 0
    have y1 : w2.cell? ⟨w1.heap.size + 1 + 1, 0, none⟩ = some (.int .i64 (x + D)) := blk_cell9 q2 0
    have y2 : w2.cell? ⟨Bx, 0, none⟩ = some (.int .i64 n9) := blk_cell9 r2 0
    have y3 : w2.cell? ⟨Bx, 1, none⟩ = some (.int .i64 a9) := blk_cell9 r2 1
    have y4 : w2.cell? ⟨Bx, 2, none⟩ = some (.int .i64 d9) := blk_cell9 r2 2
    have ys : w2.cell? ⟨w1.heap.size, 1, none⟩ = some (.slice ao xs.length cp) := blk_cell9 s2 1
    have yf : w2.frozen? ⟨w1.heap.size, 1, none⟩ = false := blk_frozen s2 1
    have st : ∀ {bb i : Nat} {u : Value}, w2.cell? ⟨bb, i, none⟩ = some u → bb ≠ w1.heap.size → (w2.setCell ⟨w1.heap.size, 1, none⟩ (.slice (some ⟨g, 0, none⟩) (xs.length + 1) cap2)).cell? ⟨bb, i, none⟩ = some u := fun {bb i u} h hne => (World.cell?_setCell_other _ _ _ _ (by intro e; simp at e <;> first | done | exact hne e.1)).trans h
    have x0 := st y0 (by omega)
    have x1 := st y1 (by omega)
    have x2 := st y2 (by omega)
    have x3 := st y3 (by omega)
    have x4 := st y4 (by omega)
    have kf : KeepsOthers W (w2.setCell ⟨w1.heap.size, 1, none⟩ (.slice (some ⟨g, 0, none⟩) (xs.length + 1) cap2)) := by
      refine ((keeps_below hA).trans (KeepsOthers.of_grownBy hgrow fun j oo ej hj => ?_)).trans (KeepsOthers.setCell _ _ _)
      rcases (own_keep o.own hA).2 with ⟨he, _⟩ | ⟨gg, c9, cur, he, _, hgb, _⟩
      · rw [he] at ej; simp [Value.ownBlock] at ej
      · rw [he] at ej
        simp [Value.ownBlock] at ej
        subst ej
        rw [hgb] at hj; cases hj; rfl
    have kb : Below w.heap.size W (w2.setCell ⟨w1.heap.size, 1, none⟩ (.slice (some ⟨g, 0, none⟩) (xs.length + 1) cap2)) := by
      have hs := HB.size
      refine ((hA.mono (by omega)).grown hgrow (by have := hA.size; omega) (fun k e => ?_)).setCell (p := ⟨w1.heap.size, 1, none⟩) hs _
      have := own_from o.own (Nat.le_refl _) k e
      omega
    have fin9 : KeepsFrom W0.heap.size W (w2.setCell ⟨w1.heap.size, 1, none⟩ (.slice (some ⟨g, 0, none⟩) (xs.length + 1) cap2)) ∧ KB w.heap.size (w1.heap.size + 1 + 1 + 1) W (w2.setCell ⟨w1.heap.size, 1, none⟩ (.slice (some ⟨g, 0, none⟩) (xs.length + 1) cap2)) ∧ Hld w w1 s (x + D) (some ⟨b, off, none⟩) cs.length cap (outC (x + D) pre2) (w2.setCell ⟨w1.heap.size, 1, none⟩ (.slice (some ⟨g, 0, none⟩) (xs.length + 1) cap2)) :=
      ⟨kf.from _, ⟨kb, hP.box.trans hH.box.symm⟩, by rw [hsn.out]; exact hP⟩
    clear hP kf kb far p2 q2 r2 s2 st hown hgrow hH o hx hvb
    generalize xs.length = m at *
    gi_wp2
    refine region_in (S := (fun w' => w'.cell? ⟨w1.heap.size + 1, 0, none⟩ = some (.pointer (some ⟨w1.heap.size, 0, none⟩)) ∧ w'.cell? ⟨w1.heap.size + 1 + 1, 0, none⟩ = some (.int .i64 (x + D)) ∧ w'.cell? ⟨Bx, 0, none⟩ = some (.int .i64 n9) ∧ w'.cell? ⟨Bx, 1, none⟩ = some (.int .i64 a9) ∧ w'.cell? ⟨Bx, 2, none⟩ = some (.int .i64 d9))) (by kernel_rfl) (nd_of (by kernel_rfl)) (fun ⟨_, _, h⟩ => h) ⟨e0, e1, z0, z1, z2⟩ (fun hHeld => ?_)
    refine wpAnyH_take (i := 0) (v := .pointer (some ⟨w1.heap.size, 0, none⟩)) rfl (by kernel_rfl) (by kernel_rfl) (by kernel_rfl) (fun _ _ _ h => h) (Or.inl ⟨by kernel_rfl, fun w hS => by (obtain ⟨hS0, hS1, hS2, hS3, hS4⟩ := hS; go_simp)⟩) hHeld ?_
    change wpAnyH _ _ _ _ _ _ _ { tmps := List.toArray (_ :: _ :: _ :: _ :: _ :: .pointer (some ⟨w1.heap.size + 1, 0, none⟩) :: .pointer (some ⟨w1.heap.size + 1 + 1, 0, none⟩) :: _ :: .pointer (some ⟨Bx, 0, none⟩) :: _ :: _ :: _ :: _ :: _ :: _ :: _ :: _ :: _ :: _ :: _ :: _ :: _ :: _ :: _ :: _ :: _ :: _ :: _ :: _ :: _ :: _ :: _ :: _ :: _ :: _ :: _ :: _ :: _ :: .pointer (some ⟨w1.heap.size, 0, none⟩) :: _ :: _ :: _ :: _ :: _ :: _ :: _ :: _ :: _ :: _ :: _ :: _ :: _ :: _ :: _ :: _ :: _ :: _ :: _ :: _ :: _ :: []), defers := [] } _
    refine wpAnyH_take (i := 1) (v := .pointer (some ⟨w1.heap.size, 0, none⟩)) rfl (by kernel_rfl) (by kernel_rfl) (by kernel_rfl) (fun _ _ _ h => h) (Or.inl ⟨by kernel_rfl, fun w hS => by (obtain ⟨hS0, hS1, hS2, hS3, hS4⟩ := hS; go_simp)⟩) hHeld ?_
    change wpAnyH _ _ _ _ _ _ _ { tmps := List.toArray (_ :: _ :: _ :: _ :: _ :: .pointer (some ⟨w1.heap.size + 1, 0, none⟩) :: .pointer (some ⟨w1.heap.size + 1 + 1, 0, none⟩) :: _ :: .pointer (some ⟨Bx, 0, none⟩) :: _ :: _ :: _ :: _ :: _ :: _ :: _ :: _ :: _ :: _ :: _ :: _ :: _ :: _ :: _ :: _ :: _ :: _ :: _ :: _ :: _ :: _ :: _ :: _ :: _ :: _ :: _ :: _ :: _ :: .pointer (some ⟨w1.heap.size, 0, none⟩) :: .pointer (some ⟨w1.heap.size, 0, none⟩) :: _ :: _ :: _ :: _ :: _ :: _ :: _ :: _ :: _ :: _ :: _ :: _ :: _ :: _ :: _ :: _ :: _ :: _ :: _ :: _ :: []), defers := [] } _
    refine wpAnyH_take (i := 2) (v := .pointer (some ⟨w1.heap.size, 0, none⟩)) rfl (by kernel_rfl) (by kernel_rfl) (by kernel_rfl) (fun _ _ _ h => h) (Or.inl ⟨by kernel_rfl, fun w hS => by go_simp⟩) hHeld ?_
    change wpAnyH _ _ _ _ _ _ _ { tmps := List.toArray (_ :: _ :: _ :: _ :: _ :: .pointer (some ⟨w1.heap.size + 1, 0, none⟩) :: .pointer (some ⟨w1.heap.size + 1 + 1, 0, none⟩) :: _ :: .pointer (some ⟨Bx, 0, none⟩) :: _ :: _ :: _ :: _ :: _ :: _ :: _ :: _ :: _ :: _ :: _ :: _ :: _ :: _ :: _ :: _ :: _ :: _ :: _ :: _ :: _ :: _ :: _ :: _ :: _ :: _ :: _ :: _ :: _ :: .pointer (some ⟨w1.heap.size, 0, none⟩) :: .pointer (some ⟨w1.heap.size, 0, none⟩) :: .pointer (some ⟨w1.heap.size, 0, none⟩) :: _ :: _ :: _ :: _ :: _ :: _ :: _ :: _ :: _ :: _ :: _ :: _ :: _ :: _ :: _ :: _ :: _ :: _ :: _ :: []), defers := [] } _
    refine wpAnyH_take (i := 3) (v := .pointer (some ⟨w1.heap.size, 1, none⟩)) rfl (by kernel_rfl) (by kernel_rfl) (by kernel_rfl) (fun _ _ _ h => h) (Or.inl ⟨by kernel_rfl, fun w hS => by go_simp⟩) hHeld ?_
    change wpAnyH _ _ _ _ _ _ _ { tmps := List.toArray (_ :: _ :: _ :: _ :: _ :: .pointer (some ⟨w1.heap.size + 1, 0, none⟩) :: .pointer (some ⟨w1.heap.size + 1 + 1, 0, none⟩) :: _ :: .pointer (some ⟨Bx, 0, none⟩) :: _ :: _ :: _ :: _ :: _ :: _ :: _ :: _ :: _ :: _ :: _ :: _ :: _ :: _ :: _ :: _ :: _ :: _ :: _ :: _ :: _ :: _ :: _ :: _ :: _ :: _ :: _ :: _ :: _ :: .pointer (some ⟨w1.heap.size, 0, none⟩) :: .pointer (some ⟨w1.heap.size, 0, none⟩) :: .pointer (some ⟨w1.heap.size, 0, none⟩) :: .pointer (some ⟨w1.heap.size, 1, none⟩) :: _ :: _ :: _ :: _ :: _ :: _ :: _ :: _ :: _ :: _ :: _ :: _ :: _ :: _ :: _ :: _ :: _ :: _ :: []), defers := [] } _
    refine wpAnyH_take (i := 5) (v := .pointer (some ⟨Bx, 0, none⟩)) rfl (by kernel_rfl) (by kernel_rfl) (by kernel_rfl) (fun _ _ _ h => h) (Or.inl ⟨by kernel_rfl, fun w hS => by go_simp⟩) hHeld ?_
    change wpAnyH _ _ _ _ _ _ _ { tmps := List.toArray (_ :: _ :: _ :: _ :: _ :: .pointer (some ⟨w1.heap.size + 1, 0, none⟩) :: .pointer (some ⟨w1.heap.size + 1 + 1, 0, none⟩) :: _ :: .pointer (some ⟨Bx, 0, none⟩) :: _ :: _ :: _ :: _ :: _ :: _ :: _ :: _ :: _ :: _ :: _ :: _ :: _ :: _ :: _ :: _ :: _ :: _ :: _ :: _ :: _ :: _ :: _ :: _ :: _ :: _ :: _ :: _ :: _ :: .pointer (some ⟨w1.heap.size, 0, none⟩) :: .pointer (some ⟨w1.heap.size, 0, none⟩) :: .pointer (some ⟨w1.heap.size, 0, none⟩) :: .pointer (some ⟨w1.heap.size, 1, none⟩) :: _ :: .pointer (some ⟨Bx, 0, none⟩) :: _ :: _ :: _ :: _ :: _ :: _ :: _ :: _ :: _ :: _ :: _ :: _ :: _ :: _ :: _ :: _ :: []), defers := [] } _
    refine wpAnyH_take (i := 6) (v := .int .i64 n9) rfl (by kernel_rfl) (by kernel_rfl) (by kernel_rfl) (fun _ _ _ h => h) (Or.inl ⟨by kernel_rfl, fun w hS => by (obtain ⟨hS0, hS1, hS2, hS3, hS4⟩ := hS; go_simp)⟩) hHeld ?_
    change wpAnyH _ _ _ _ _ _ _ { tmps := List.toArray (_ :: _ :: _ :: _ :: _ :: .pointer (some ⟨w1.heap.size + 1, 0, none⟩) :: .pointer (some ⟨w1.heap.size + 1 + 1, 0, none⟩) :: _ :: .pointer (some ⟨Bx, 0, none⟩) :: _ :: _ :: _ :: _ :: _ :: _ :: _ :: _ :: _ :: _ :: _ :: _ :: _ :: _ :: _ :: _ :: _ :: _ :: _ :: _ :: _ :: _ :: _ :: _ :: _ :: _ :: _ :: _ :: _ :: .pointer (some ⟨w1.heap.size, 0, none⟩) :: .pointer (some ⟨w1.heap.size, 0, none⟩) :: .pointer (some ⟨w1.heap.size, 0, none⟩) :: .pointer (some ⟨w1.heap.size, 1, none⟩) :: _ :: .pointer (some ⟨Bx, 0, none⟩) :: .int .i64 n9 :: _ :: _ :: _ :: _ :: _ :: _ :: _ :: _ :: _ :: _ :: _ :: _ :: _ :: _ :: _ :: []), defers := [] } _
    refine wpAnyH_take (i := 7) (v := .int .i64 (x + D)) rfl (by kernel_rfl) (by kernel_rfl) (by kernel_rfl) (fun _ _ _ h => h) (Or.inl ⟨by kernel_rfl, fun w hS => by (obtain ⟨hS0, hS1, hS2, hS3, hS4⟩ := hS; go_simp)⟩) hHeld ?_
    change wpAnyH _ _ _ _ _ _ _ { tmps := List.toArray (_ :: _ :: _ :: _ :: _ :: .pointer (some ⟨w1.heap.size + 1, 0, none⟩) :: .pointer (some ⟨w1.heap.size + 1 + 1, 0, none⟩) :: _ :: .pointer (some ⟨Bx, 0, none⟩) :: _ :: _ :: _ :: _ :: _ :: _ :: _ :: _ :: _ :: _ :: _ :: _ :: _ :: _ :: _ :: _ :: _ :: _ :: _ :: _ :: _ :: _ :: _ :: _ :: _ :: _ :: _ :: _ :: _ :: .pointer (some ⟨w1.heap.size, 0, none⟩) :: .pointer (some ⟨w1.heap.size, 0, none⟩) :: .pointer (some ⟨w1.heap.size, 0, none⟩) :: .pointer (some ⟨w1.heap.size, 1, none⟩) :: _ :: .pointer (some ⟨Bx, 0, none⟩) :: .int .i64 n9 :: .int .i64 (x + D) :: _ :: _ :: _ :: _ :: _ :: _ :: _ :: _ :: _ :: _ :: _ :: _ :: _ :: _ :: []), defers := [] } _
    refine wpAnyH_take (i := 8) (v := .pointer (some ⟨Bx, 2, none⟩)) rfl (by kernel_rfl) (by kernel_rfl) (by kernel_rfl) (fun _ _ _ h => h) (Or.inl ⟨by kernel_rfl, fun w hS => by go_simp⟩) hHeld ?_
    change wpAnyH _ _ _ _ _ _ _ { tmps := List.toArray (_ :: _ :: _ :: _ :: _ :: .pointer (some ⟨w1.heap.size + 1, 0, none⟩) :: .pointer (some ⟨w1.heap.size + 1 + 1, 0, none⟩) :: _ :: .pointer (some ⟨Bx, 0, none⟩) :: _ :: _ :: _ :: _ :: _ :: _ :: _ :: _ :: _ :: _ :: _ :: _ :: _ :: _ :: _ :: _ :: _ :: _ :: _ :: _ :: _ :: _ :: _ :: _ :: _ :: _ :: _ :: _ :: _ :: .pointer (some ⟨w1.heap.size, 0, none⟩) :: .pointer (some ⟨w1.heap.size, 0, none⟩) :: .pointer (some ⟨w1.heap.size, 0, none⟩) :: .pointer (some ⟨w1.heap.size, 1, none⟩) :: _ :: .pointer (some ⟨Bx, 0, none⟩) :: .int .i64 n9 :: .int .i64 (x + D) :: .pointer (some ⟨Bx, 2, none⟩) :: _ :: _ :: _ :: _ :: _ :: _ :: _ :: _ :: _ :: _ :: _ :: _ :: _ :: []), defers := [] } _
    refine wpAnyH_take (i := 9) (v := .int .i64 d9) rfl (by kernel_rfl) (by kernel_rfl) (by kernel_rfl) (fun _ _ _ h => h) (Or.inl ⟨by kernel_rfl, fun w hS => by (obtain ⟨hS0, hS1, hS2, hS3, hS4⟩ := hS; go_simp)⟩) hHeld ?_
    change wpAnyH _ _ _ _ _ _ _ { tmps := List.toArray (_ :: _ :: _ :: _ :: _ :: .pointer (some ⟨w1.heap.size + 1, 0, none⟩) :: .pointer (some ⟨w1.heap.size + 1 + 1, 0, none⟩) :: _ :: .pointer (some ⟨Bx, 0, none⟩) :: _ :: _ :: _ :: _ :: _ :: _ :: _ :: _ :: _ :: _ :: _ :: _ :: _ :: _ :: _ :: _ :: _ :: _ :: _ :: _ :: _ :: _ :: _ :: _ :: _ :: _ :: _ :: _ :: _ :: .pointer (some ⟨w1.heap.size, 0, none⟩) :: .pointer (some ⟨w1.heap.size, 0, none⟩) :: .pointer (some ⟨w1.heap.size, 0, none⟩) :: .pointer (some ⟨w1.heap.size, 1, none⟩) :: _ :: .pointer (some ⟨Bx, 0, none⟩) :: .int .i64 n9 :: .int .i64 (x + D) :: .pointer (some ⟨Bx, 2, none⟩) :: .int .i64 d9 :: _ :: _ :: _ :: _ :: _ :: _ :: _ :: _ :: _ :: _ :: _ :: _ :: []), defers := [] } _
    refine wpAnyH_take (i := 10) (v := .int .i64 u9) rfl (by kernel_rfl) (by kernel_rfl) (by kernel_rfl) (fun _ _ _ h => h) (Or.inl ⟨by kernel_rfl, fun w hS => by go_simp⟩) hHeld ?_
    change wpAnyH _ _ _ _ _ _ _ { tmps := List.toArray (_ :: _ :: _ :: _ :: _ :: .pointer (some ⟨w1.heap.size + 1, 0, none⟩) :: .pointer (some ⟨w1.heap.size + 1 + 1, 0, none⟩) :: _ :: .pointer (some ⟨Bx, 0, none⟩) :: _ :: _ :: _ :: _ :: _ :: _ :: _ :: _ :: _ :: _ :: _ :: _ :: _ :: _ :: _ :: _ :: _ :: _ :: _ :: _ :: _ :: _ :: _ :: _ :: _ :: _ :: _ :: _ :: _ :: .pointer (some ⟨w1.heap.size, 0, none⟩) :: .pointer (some ⟨w1.heap.size, 0, none⟩) :: .pointer (some ⟨w1.heap.size, 0, none⟩) :: .pointer (some ⟨w1.heap.size, 1, none⟩) :: _ :: .pointer (some ⟨Bx, 0, none⟩) :: .int .i64 n9 :: .int .i64 (x + D) :: .pointer (some ⟨Bx, 2, none⟩) :: .int .i64 d9 :: .int .i64 u9 :: _ :: _ :: _ :: _ :: _ :: _ :: _ :: _ :: _ :: _ :: _ :: []), defers := [] } _
    refine wpAnyH_take (i := 11) (v := .int .i64 (x + D)) rfl (by kernel_rfl) (by kernel_rfl) (by kernel_rfl) (fun _ _ _ h => h) (Or.inl ⟨by kernel_rfl, fun w hS => by (obtain ⟨hS0, hS1, hS2, hS3, hS4⟩ := hS; go_simp)⟩) hHeld ?_
    change wpAnyH _ _ _ _ _ _ _ { tmps := List.toArray (_ :: _ :: _ :: _ :: _ :: .pointer (some ⟨w1.heap.size + 1, 0, none⟩) :: .pointer (some ⟨w1.heap.size + 1 + 1, 0, none⟩) :: _ :: .pointer (some ⟨Bx, 0, none⟩) :: _ :: _ :: _ :: _ :: _ :: _ :: _ :: _ :: _ :: _ :: _ :: _ :: _ :: _ :: _ :: _ :: _ :: _ :: _ :: _ :: _ :: _ :: _ :: _ :: _ :: _ :: _ :: _ :: _ :: .pointer (some ⟨w1.heap.size, 0, none⟩) :: .pointer (some ⟨w1.heap.size, 0, none⟩) :: .pointer (some ⟨w1.heap.size, 0, none⟩) :: .pointer (some ⟨w1.heap.size, 1, none⟩) :: _ :: .pointer (some ⟨Bx, 0, none⟩) :: .int .i64 n9 :: .int .i64 (x + D) :: .pointer (some ⟨Bx, 2, none⟩) :: .int .i64 d9 :: .int .i64 u9 :: .int .i64 (x + D) :: _ :: _ :: _ :: _ :: _ :: _ :: _ :: _ :: _ :: _ :: []), defers := [] } _
    refine wpAnyH_take (i := 12) (v := .pointer (some ⟨Bx, 1, none⟩)) rfl (by kernel_rfl) (by kernel_rfl) (by kernel_rfl) (fun _ _ _ h => h) (Or.inl ⟨by kernel_rfl, fun w hS => by go_simp⟩) hHeld ?_
    change wpAnyH _ _ _ _ _ _ _ { tmps := List.toArray (_ :: _ :: _ :: _ :: _ :: .pointer (some ⟨w1.heap.size + 1, 0, none⟩) :: .pointer (some ⟨w1.heap.size + 1 + 1, 0, none⟩) :: _ :: .pointer (some ⟨Bx, 0, none⟩) :: _ :: _ :: _ :: _ :: _ :: _ :: _ :: _ :: _ :: _ :: _ :: _ :: _ :: _ :: _ :: _ :: _ :: _ :: _ :: _ :: _ :: _ :: _ :: _ :: _ :: _ :: _ :: _ :: _ :: .pointer (some ⟨w1.heap.size, 0, none⟩) :: .pointer (some ⟨w1.heap.size, 0, none⟩) :: .pointer (some ⟨w1.heap.size, 0, none⟩) :: .pointer (some ⟨w1.heap.size, 1, none⟩) :: _ :: .pointer (some ⟨Bx, 0, none⟩) :: .int .i64 n9 :: .int .i64 (x + D) :: .pointer (some ⟨Bx, 2, none⟩) :: .int .i64 d9 :: .int .i64 u9 :: .int .i64 (x + D) :: .pointer (some ⟨Bx, 1, none⟩) :: _ :: _ :: _ :: _ :: _ :: _ :: _ :: _ :: _ :: []), defers := [] } _
    refine wpAnyH_take (i := 13) (v := .int .i64 a9) rfl (by kernel_rfl) (by kernel_rfl) (by kernel_rfl) (fun _ _ _ h => h) (Or.inl ⟨by kernel_rfl, fun w hS => by (obtain ⟨hS0, hS1, hS2, hS3, hS4⟩ := hS; go_simp)⟩) hHeld ?_
    change wpAnyH _ _ _ _ _ _ _ { tmps := List.toArray (_ :: _ :: _ :: _ :: _ :: .pointer (some ⟨w1.heap.size + 1, 0, none⟩) :: .pointer (some ⟨w1.heap.size + 1 + 1, 0, none⟩) :: _ :: .pointer (some ⟨Bx, 0, none⟩) :: _ :: _ :: _ :: _ :: _ :: _ :: _ :: _ :: _ :: _ :: _ :: _ :: _ :: _ :: _ :: _ :: _ :: _ :: _ :: _ :: _ :: _ :: _ :: _ :: _ :: _ :: _ :: _ :: _ :: .pointer (some ⟨w1.heap.size, 0, none⟩) :: .pointer (some ⟨w1.heap.size, 0, none⟩) :: .pointer (some ⟨w1.heap.size, 0, none⟩) :: .pointer (some ⟨w1.heap.size, 1, none⟩) :: _ :: .pointer (some ⟨Bx, 0, none⟩) :: .int .i64 n9 :: .int .i64 (x + D) :: .pointer (some ⟨Bx, 2, none⟩) :: .int .i64 d9 :: .int .i64 u9 :: .int .i64 (x + D) :: .pointer (some ⟨Bx, 1, none⟩) :: .int .i64 a9 :: _ :: _ :: _ :: _ :: _ :: _ :: _ :: _ :: []), defers := [] } _
    refine wpAnyH_take (i := 14) (v := .int .i64 v9) rfl (by kernel_rfl) (by kernel_rfl) (by kernel_rfl) (fun _ _ _ h => h) (Or.inl ⟨by kernel_rfl, fun w hS => by go_simp⟩) hHeld ?_
    change wpAnyH _ _ _ _ _ _ _ { tmps := List.toArray (_ :: _ :: _ :: _ :: _ :: .pointer (some ⟨w1.heap.size + 1, 0, none⟩) :: .pointer (some ⟨w1.heap.size + 1 + 1, 0, none⟩) :: _ :: .pointer (some ⟨Bx, 0, none⟩) :: _ :: _ :: _ :: _ :: _ :: _ :: _ :: _ :: _ :: _ :: _ :: _ :: _ :: _ :: _ :: _ :: _ :: _ :: _ :: _ :: _ :: _ :: _ :: _ :: _ :: _ :: _ :: _ :: _ :: .pointer (some ⟨w1.heap.size, 0, none⟩) :: .pointer (some ⟨w1.heap.size, 0, none⟩) :: .pointer (some ⟨w1.heap.size, 0, none⟩) :: .pointer (some ⟨w1.heap.size, 1, none⟩) :: _ :: .pointer (some ⟨Bx, 0, none⟩) :: .int .i64 n9 :: .int .i64 (x + D) :: .pointer (some ⟨Bx, 2, none⟩) :: .int .i64 d9 :: .int .i64 u9 :: .int .i64 (x + D) :: .pointer (some ⟨Bx, 1, none⟩) :: .int .i64 a9 :: .int .i64 v9 :: _ :: _ :: _ :: _ :: _ :: _ :: _ :: []), defers := [] } _
    refine wpAnyH_take (i := 15) (v := .agg #[.int .i64 n9, .int .i64 u9, .int .i64 v9]) rfl (by kernel_rfl) (by kernel_rfl) (by kernel_rfl) (fun _ _ _ h => h) (Or.inl ⟨by kernel_rfl, fun w hS => by go_simp⟩) hHeld ?_
    change wpAnyH _ _ _ _ _ _ _ { tmps := List.toArray (_ :: _ :: _ :: _ :: _ :: .pointer (some ⟨w1.heap.size + 1, 0, none⟩) :: .pointer (some ⟨w1.heap.size + 1 + 1, 0, none⟩) :: _ :: .pointer (some ⟨Bx, 0, none⟩) :: _ :: _ :: _ :: _ :: _ :: _ :: _ :: _ :: _ :: _ :: _ :: _ :: _ :: _ :: _ :: _ :: _ :: _ :: _ :: _ :: _ :: _ :: _ :: _ :: _ :: _ :: _ :: _ :: _ :: .pointer (some ⟨w1.heap.size, 0, none⟩) :: .pointer (some ⟨w1.heap.size, 0, none⟩) :: .pointer (some ⟨w1.heap.size, 0, none⟩) :: .pointer (some ⟨w1.heap.size, 1, none⟩) :: _ :: .pointer (some ⟨Bx, 0, none⟩) :: .int .i64 n9 :: .int .i64 (x + D) :: .pointer (some ⟨Bx, 2, none⟩) :: .int .i64 d9 :: .int .i64 u9 :: .int .i64 (x + D) :: .pointer (some ⟨Bx, 1, none⟩) :: .int .i64 a9 :: .int .i64 v9 :: .agg #[.int .i64 n9, .int .i64 u9, .int .i64 v9] :: _ :: _ :: _ :: _ :: _ :: _ :: []), defers := [] } _
    refine wpAnyH_ready (rs := [4, 16]) (by kernel_rfl) (by simp) ?_
    refine AllReadyH.cons rfl (fun K hK => ?_) ?_
    · go_simp
      refine hK.out _ _ hHeld (fun hHeld => ?_)
      clear hK K
      change wpAnyH _ _ _ _ _ _ _ { tmps := List.toArray (_ :: _ :: _ :: _ :: _ :: .pointer (some ⟨w1.heap.size + 1, 0, none⟩) :: .pointer (some ⟨w1.heap.size + 1 + 1, 0, none⟩) :: _ :: .pointer (some ⟨Bx, 0, none⟩) :: _ :: _ :: _ :: _ :: _ :: _ :: _ :: _ :: _ :: _ :: _ :: _ :: _ :: _ :: _ :: _ :: _ :: _ :: _ :: _ :: _ :: _ :: _ :: _ :: _ :: _ :: _ :: _ :: _ :: .pointer (some ⟨w1.heap.size, 0, none⟩) :: .pointer (some ⟨w1.heap.size, 0, none⟩) :: .pointer (some ⟨w1.heap.size, 0, none⟩) :: .pointer (some ⟨w1.heap.size, 1, none⟩) :: .slice ao m cp :: .pointer (some ⟨Bx, 0, none⟩) :: .int .i64 n9 :: .int .i64 (x + D) :: .pointer (some ⟨Bx, 2, none⟩) :: .int .i64 d9 :: .int .i64 u9 :: .int .i64 (x + D) :: .pointer (some ⟨Bx, 1, none⟩) :: .int .i64 a9 :: .int .i64 v9 :: .agg #[.int .i64 n9, .int .i64 u9, .int .i64 v9] :: _ :: _ :: _ :: _ :: _ :: _ :: []), defers := [] } _
      refine wpAnyH_ready (rs := [16]) (by kernel_rfl) (by simp) ?_
      refine AllReadyH.cons rfl (fun K hK => ?_) AllReadyH.nil
      go_simp
      clear hHeld
      refine hK.out _ _ ⟨v0, v1, v2, v3, v4⟩ (fun hHeld => ?_)
      clear hK K
      change wpAnyH _ _ _ _ _ _ _ { tmps := List.toArray (_ :: _ :: _ :: _ :: _ :: .pointer (some ⟨w1.heap.size + 1, 0, none⟩) :: .pointer (some ⟨w1.heap.size + 1 + 1, 0, none⟩) :: _ :: .pointer (some ⟨Bx, 0, none⟩) :: _ :: _ :: _ :: _ :: _ :: _ :: _ :: _ :: _ :: _ :: _ :: _ :: _ :: _ :: _ :: _ :: _ :: _ :: _ :: _ :: _ :: _ :: _ :: _ :: _ :: _ :: _ :: _ :: _ :: .pointer (some ⟨w1.heap.size, 0, none⟩) :: .pointer (some ⟨w1.heap.size, 0, none⟩) :: .pointer (some ⟨w1.heap.size, 0, none⟩) :: .pointer (some ⟨w1.heap.size, 1, none⟩) :: .slice ao m cp :: .pointer (some ⟨Bx, 0, none⟩) :: .int .i64 n9 :: .int .i64 (x + D) :: .pointer (some ⟨Bx, 2, none⟩) :: .int .i64 d9 :: .int .i64 u9 :: .int .i64 (x + D) :: .pointer (some ⟨Bx, 1, none⟩) :: .int .i64 a9 :: .int .i64 v9 :: .agg #[.int .i64 n9, .int .i64 u9, .int .i64 v9] :: .slice (some ⟨W.heap.size, 0, none⟩) 1 1 :: _ :: _ :: _ :: _ :: _ :: []), defers := [] } _
      refine wpAnyH_ready (rs := [17]) (by kernel_rfl) (by simp) ?_
      refine AllReadyH.cons rfl (fun K hK => ?_) AllReadyH.nil
      refine step_append_run9 rfl _ _ _ rfl _ _ rfl rfl hr ?_
      clear hHeld
      refine hK.out _ _ ⟨y0, y1, y2, y3, y4⟩ (fun hHeld => ?_)
      clear hK K
      change wpAnyH _ _ _ _ _ _ _ { tmps := List.toArray (_ :: _ :: _ :: _ :: _ :: .pointer (some ⟨w1.heap.size + 1, 0, none⟩) :: .pointer (some ⟨w1.heap.size + 1 + 1, 0, none⟩) :: _ :: .pointer (some ⟨Bx, 0, none⟩) :: _ :: _ :: _ :: _ :: _ :: _ :: _ :: _ :: _ :: _ :: _ :: _ :: _ :: _ :: _ :: _ :: _ :: _ :: _ :: _ :: _ :: _ :: _ :: _ :: _ :: _ :: _ :: _ :: _ :: .pointer (some ⟨w1.heap.size, 0, none⟩) :: .pointer (some ⟨w1.heap.size, 0, none⟩) :: .pointer (some ⟨w1.heap.size, 0, none⟩) :: .pointer (some ⟨w1.heap.size, 1, none⟩) :: .slice ao m cp :: .pointer (some ⟨Bx, 0, none⟩) :: .int .i64 n9 :: .int .i64 (x + D) :: .pointer (some ⟨Bx, 2, none⟩) :: .int .i64 d9 :: .int .i64 u9 :: .int .i64 (x + D) :: .pointer (some ⟨Bx, 1, none⟩) :: .int .i64 a9 :: .int .i64 v9 :: .agg #[.int .i64 n9, .int .i64 u9, .int .i64 v9] :: .slice (some ⟨W.heap.size, 0, none⟩) 1 1 :: .slice (some ⟨g, 0, none⟩) (m + 1) cap2 :: _ :: _ :: _ :: _ :: []), defers := [] } _
      refine wpAnyH_take (i := 18) (v := .pointer (some ⟨w1.heap.size, 0, none⟩)) rfl (by kernel_rfl) (by kernel_rfl) (by kernel_rfl) (fun _ _ _ h => h) (Or.inl ⟨by kernel_rfl, fun w hS => by go_simp⟩) hHeld ?_
      change wpAnyH _ _ _ _ _ _ _ { tmps := List.toArray (_ :: _ :: _ :: _ :: _ :: .pointer (some ⟨w1.heap.size + 1, 0, none⟩) :: .pointer (some ⟨w1.heap.size + 1 + 1, 0, none⟩) :: _ :: .pointer (some ⟨Bx, 0, none⟩) :: _ :: _ :: _ :: _ :: _ :: _ :: _ :: _ :: _ :: _ :: _ :: _ :: _ :: _ :: _ :: _ :: _ :: _ :: _ :: _ :: _ :: _ :: _ :: _ :: _ :: _ :: _ :: _ :: _ :: .pointer (some ⟨w1.heap.size, 0, none⟩) :: .pointer (some ⟨w1.heap.size, 0, none⟩) :: .pointer (some ⟨w1.heap.size, 0, none⟩) :: .pointer (some ⟨w1.heap.size, 1, none⟩) :: .slice ao m cp :: .pointer (some ⟨Bx, 0, none⟩) :: .int .i64 n9 :: .int .i64 (x + D) :: .pointer (some ⟨Bx, 2, none⟩) :: .int .i64 d9 :: .int .i64 u9 :: .int .i64 (x + D) :: .pointer (some ⟨Bx, 1, none⟩) :: .int .i64 a9 :: .int .i64 v9 :: .agg #[.int .i64 n9, .int .i64 u9, .int .i64 v9] :: .slice (some ⟨W.heap.size, 0, none⟩) 1 1 :: .slice (some ⟨g, 0, none⟩) (m + 1) cap2 :: .pointer (some ⟨w1.heap.size, 0, none⟩) :: _ :: _ :: _ :: []), defers := [] } _
      refine wpAnyH_take (i := 19) (v := .pointer (some ⟨w1.heap.size, 1, none⟩)) rfl (by kernel_rfl) (by kernel_rfl) (by kernel_rfl) (fun _ _ _ h => h) (Or.inl ⟨by kernel_rfl, fun w hS => by go_simp⟩) hHeld ?_
      change wpAnyH _ _ _ _ _ _ _ { tmps := List.toArray (_ :: _ :: _ :: _ :: _ :: .pointer (some ⟨w1.heap.size + 1, 0, none⟩) :: .pointer (some ⟨w1.heap.size + 1 + 1, 0, none⟩) :: _ :: .pointer (some ⟨Bx, 0, none⟩) :: _ :: _ :: _ :: _ :: _ :: _ :: _ :: _ :: _ :: _ :: _ :: _ :: _ :: _ :: _ :: _ :: _ :: _ :: _ :: _ :: _ :: _ :: _ :: _ :: _ :: _ :: _ :: _ :: _ :: .pointer (some ⟨w1.heap.size, 0, none⟩) :: .pointer (some ⟨w1.heap.size, 0, none⟩) :: .pointer (some ⟨w1.heap.size, 0, none⟩) :: .pointer (some ⟨w1.heap.size, 1, none⟩) :: .slice ao m cp :: .pointer (some ⟨Bx, 0, none⟩) :: .int .i64 n9 :: .int .i64 (x + D) :: .pointer (some ⟨Bx, 2, none⟩) :: .int .i64 d9 :: .int .i64 u9 :: .int .i64 (x + D) :: .pointer (some ⟨Bx, 1, none⟩) :: .int .i64 a9 :: .int .i64 v9 :: .agg #[.int .i64 n9, .int .i64 u9, .int .i64 v9] :: .slice (some ⟨W.heap.size, 0, none⟩) 1 1 :: .slice (some ⟨g, 0, none⟩) (m + 1) cap2 :: .pointer (some ⟨w1.heap.size, 0, none⟩) :: .pointer (some ⟨w1.heap.size, 1, none⟩) :: _ :: _ :: []), defers := [] } _
      refine wpAnyH_ready (rs := [20]) (by kernel_rfl) (by simp) ?_
      refine AllReadyH.cons rfl (fun K hK => ?_) AllReadyH.nil
      go_simp
      clear hHeld
      refine hK.out _ _ ⟨x0, x1, x2, x3, x4⟩ (fun hHeld => ?_)
      clear hK K
      refine wpAnyH_done (by kernel_rfl) ?_ _
      exact fin9
    refine AllReadyH.cons rfl (fun K hK => ?_) AllReadyH.nil
    go_simp
    clear hHeld
    refine hK.out _ _ ⟨v0, v1, v2, v3, v4⟩ (fun hHeld => ?_)
    clear hK K
    change wpAnyH _ _ _ _ _ _ _ { tmps := List.toArray (_ :: _ :: _ :: _ :: _ :: .pointer (some ⟨w1.heap.size + 1, 0, none⟩) :: .pointer (some ⟨w1.heap.size + 1 + 1, 0, none⟩) :: _ :: .pointer (some ⟨Bx, 0, none⟩) :: _ :: _ :: _ :: _ :: _ :: _ :: _ :: _ :: _ :: _ :: _ :: _ :: _ :: _ :: _ :: _ :: _ :: _ :: _ :: _ :: _ :: _ :: _ :: _ :: _ :: _ :: _ :: _ :: _ :: .pointer (some ⟨w1.heap.size, 0, none⟩) :: .pointer (some ⟨w1.heap.size, 0, none⟩) :: .pointer (some ⟨w1.heap.size, 0, none⟩) :: .pointer (some ⟨w1.heap.size, 1, none⟩) :: _ :: .pointer (some ⟨Bx, 0, none⟩) :: .int .i64 n9 :: .int .i64 (x + D) :: .pointer (some ⟨Bx, 2, none⟩) :: .int .i64 d9 :: .int .i64 u9 :: .int .i64 (x + D) :: .pointer (some ⟨Bx, 1, none⟩) :: .int .i64 a9 :: .int .i64 v9 :: .agg #[.int .i64 n9, .int .i64 u9, .int .i64 v9] :: .slice (some ⟨W.heap.size, 0, none⟩) 1 1 :: _ :: _ :: _ :: _ :: _ :: []), defers := [] } _
    refine wpAnyH_ready (rs := [4]) (by kernel_rfl) (by simp) ?_
    refine AllReadyH.cons rfl (fun K hK => ?_) AllReadyH.nil
    go_simp
    refine hK.out _ _ hHeld (fun hHeld => ?_)
    clear hK K
    change wpAnyH _ _ _ _ _ _ _ { tmps := List.toArray (_ :: _ :: _ :: _ :: _ :: .pointer (some ⟨w1.heap.size + 1, 0, none⟩) :: .pointer (some ⟨w1.heap.size + 1 + 1, 0, none⟩) :: _ :: .pointer (some ⟨Bx, 0, none⟩) :: _ :: _ :: _ :: _ :: _ :: _ :: _ :: _ :: _ :: _ :: _ :: _ :: _ :: _ :: _ :: _ :: _ :: _ :: _ :: _ :: _ :: _ :: _ :: _ :: _ :: _ :: _ :: _ :: _ :: .pointer (some ⟨w1.heap.size, 0, none⟩) :: .pointer (some ⟨w1.heap.size, 0, none⟩) :: .pointer (some ⟨w1.heap.size, 0, none⟩) :: .pointer (some ⟨w1.heap.size, 1, none⟩) :: .slice ao m cp :: .pointer (some ⟨Bx, 0, none⟩) :: .int .i64 n9 :: .int .i64 (x + D) :: .pointer (some ⟨Bx, 2, none⟩) :: .int .i64 d9 :: .int .i64 u9 :: .int .i64 (x + D) :: .pointer (some ⟨Bx, 1, none⟩) :: .int .i64 a9 :: .int .i64 v9 :: .agg #[.int .i64 n9, .int .i64 u9, .int .i64 v9] :: .slice (some ⟨W.heap.size, 0, none⟩) 1 1 :: _ :: _ :: _ :: _ :: _ :: []), defers := [] } _
    refine wpAnyH_ready (rs := [17]) (by kernel_rfl) (by simp) ?_
    refine AllReadyH.cons rfl (fun K hK => ?_) AllReadyH.nil
    refine step_append_run9 rfl _ _ _ rfl _ _ rfl rfl hr ?_
    clear hHeld
    refine hK.out _ _ ⟨y0, y1, y2, y3, y4⟩ (fun hHeld => ?_)
    clear hK K
    change wpAnyH _ _ _ _ _ _ _ { tmps := List.toArray (_ :: _ :: _ :: _ :: _ :: .pointer (some ⟨w1.heap.size + 1, 0, none⟩) :: .pointer (some ⟨w1.heap.size + 1 + 1, 0, none⟩) :: _ :: .pointer (some ⟨Bx, 0, none⟩) :: _ :: _ :: _ :: _ :: _ :: _ :: _ :: _ :: _ :: _ :: _ :: _ :: _ :: _ :: _ :: _ :: _ :: _ :: _ :: _ :: _ :: _ :: _ :: _ :: _ :: _ :: _ :: _ :: _ :: .pointer (some ⟨w1.heap.size, 0, none⟩) :: .pointer (some ⟨w1.heap.size, 0, none⟩) :: .pointer (some ⟨w1.heap.size, 0, none⟩) :: .pointer (some ⟨w1.heap.size, 1, none⟩) :: .slice ao m cp :: .pointer (some ⟨Bx, 0, none⟩) :: .int .i64 n9 :: .int .i64 (x + D) :: .pointer (some ⟨Bx, 2, none⟩) :: .int .i64 d9 :: .int .i64 u9 :: .int .i64 (x + D) :: .pointer (some ⟨Bx, 1, none⟩) :: .int .i64 a9 :: .int .i64 v9 :: .agg #[.int .i64 n9, .int .i64 u9, .int .i64 v9] :: .slice (some ⟨W.heap.size, 0, none⟩) 1 1 :: .slice (some ⟨g, 0, none⟩) (m + 1) cap2 :: _ :: _ :: _ :: _ :: []), defers := [] } _
    refine wpAnyH_take (i := 18) (v := .pointer (some ⟨w1.heap.size, 0, none⟩)) rfl (by kernel_rfl) (by kernel_rfl) (by kernel_rfl) (fun _ _ _ h => h) (Or.inl ⟨by kernel_rfl, fun w hS => by go_simp⟩) hHeld ?_
    change wpAnyH _ _ _ _ _ _ _ { tmps := List.toArray (_ :: _ :: _ :: _ :: _ :: .pointer (some ⟨w1.heap.size + 1, 0, none⟩) :: .pointer (some ⟨w1.heap.size + 1 + 1, 0, none⟩) :: _ :: .pointer (some ⟨Bx, 0, none⟩) :: _ :: _ :: _ :: _ :: _ :: _ :: _ :: _ :: _ :: _ :: _ :: _ :: _ :: _ :: _ :: _ :: _ :: _ :: _ :: _ :: _ :: _ :: _ :: _ :: _ :: _ :: _ :: _ :: _ :: .pointer (some ⟨w1.heap.size, 0, none⟩) :: .pointer (some ⟨w1.heap.size, 0, none⟩) :: .pointer (some ⟨w1.heap.size, 0, none⟩) :: .pointer (some ⟨w1.heap.size, 1, none⟩) :: .slice ao m cp :: .pointer (some ⟨Bx, 0, none⟩) :: .int .i64 n9 :: .int .i64 (x + D) :: .pointer (some ⟨Bx, 2, none⟩) :: .int .i64 d9 :: .int .i64 u9 :: .int .i64 (x + D) :: .pointer (some ⟨Bx, 1, none⟩) :: .int .i64 a9 :: .int .i64 v9 :: .agg #[.int .i64 n9, .int .i64 u9, .int .i64 v9] :: .slice (some ⟨W.heap.size, 0, none⟩) 1 1 :: .slice (some ⟨g, 0, none⟩) (m + 1) cap2 :: .pointer (some ⟨w1.heap.size, 0, none⟩) :: _ :: _ :: _ :: []), defers := [] } _
    refine wpAnyH_take (i := 19) (v := .pointer (some ⟨w1.heap.size, 1, none⟩)) rfl (by kernel_rfl) (by kernel_rfl) (by kernel_rfl) (fun _ _ _ h => h) (Or.inl ⟨by kernel_rfl, fun w hS => by go_simp⟩) hHeld ?_
    change wpAnyH _ _ _ _ _ _ _ { tmps := List.toArray (_ :: _ :: _ :: _ :: _ :: .pointer (some ⟨w1.heap.size + 1, 0, none⟩) :: .pointer (some ⟨w1.heap.size + 1 + 1, 0, none⟩) :: _ :: .pointer (some ⟨Bx, 0, none⟩) :: _ :: _ :: _ :: _ :: _ :: _ :: _ :: _ :: _ :: _ :: _ :: _ :: _ :: _ :: _ :: _ :: _ :: _ :: _ :: _ :: _ :: _ :: _ :: _ :: _ :: _ :: _ :: _ :: _ :: .pointer (some ⟨w1.heap.size, 0, none⟩) :: .pointer (some ⟨w1.heap.size, 0, none⟩) :: .pointer (some ⟨w1.heap.size, 0, none⟩) :: .pointer (some ⟨w1.heap.size, 1, none⟩) :: .slice ao m cp :: .pointer (some ⟨Bx, 0, none⟩) :: .int .i64 n9 :: .int .i64 (x + D) :: .pointer (some ⟨Bx, 2, none⟩) :: .int .i64 d9 :: .int .i64 u9 :: .int .i64 (x + D) :: .pointer (some ⟨Bx, 1, none⟩) :: .int .i64 a9 :: .int .i64 v9 :: .agg #[.int .i64 n9, .int .i64 u9, .int .i64 v9] :: .slice (some ⟨W.heap.size, 0, none⟩) 1 1 :: .slice (some ⟨g, 0, none⟩) (m + 1) cap2 :: .pointer (some ⟨w1.heap.size, 0, none⟩) :: .pointer (some ⟨w1.heap.size, 1, none⟩) :: _ :: _ :: []), defers := [] } _
    refine wpAnyH_ready (rs := [20]) (by kernel_rfl) (by simp) ?_
    refine AllReadyH.cons rfl (fun K hK => ?_) AllReadyH.nil
    go_simp
    clear hHeld
    refine hK.out _ _ ⟨x0, x1, x2, x3, x4⟩ (fun hHeld => ?_)
    clear hK K
    refine wpAnyH_done (by kernel_rfl) ?_ _
    exact fin9
  case done =>
    rintro D' ys W1 hD rfl hH hK
    have bb := Bk_back (x + D) cs (fun k hk => by
      obtain ⟨-, ⟨q1, q2⟩, q3⟩ := call_parts (call_at hall hk)
      unfold backW backC
      rw [wrap_in _ (by omega) (by omega), wrap_in _ (by omega) (by omega)])
    rw [bb] at hH
    have hlm : (backL (x + D) cs).length ≤ 1048576 := by simp [backL]; omega
    obtain ⟨ao, cp, o⟩ := hH.out
    have e0 : W1.cell? ⟨w1.heap.size + 1, 0, none⟩ = some (.pointer (some ⟨w1.heap.size, 0, none⟩)) := blk_cell9 hH.ptr 0
    have hq2 : Hid (ifOk ⟨s, backL (x + D) cs⟩ = if tripB ⟨s, backL (x + D) cs⟩ = true then ⟨s, backL (x + D) cs⟩ else TripV.zero) := rfl
    have fin := btrans HB o.bel
    have K1 := blk_keep o.bel K0
    have hDl : D' < W1.heap.size := (Array.getElem?_eq_some_iff.1 hK).1
    generalize backL (x + D) cs = ms at *
    have C9 := cIfOk w1.heap.size s ao cp ms _ o.out (Halts.own o.own) hlm (own_cap o.own)
    clear bb hz hall K0 hc C CW hb A0 e3 z0 z1 hH H0 e2 c1 c2 wn
    cases hT : tripB ⟨s, ms⟩
    · have hq3 := hide (show backT ⟨s, cs⟩ x = TripV.zero by rw [hq.out, hq2.out, hT, if_neg (by simp)])
      rw [hT, if_neg (by simp)] at C9
      clear hq hq2 hT
      gi_wp2_with (refine ⟨trivial, ?_⟩; gi_at_call 28; refine (callsIn_wide.2 C9).mono ?_; rintro e w3 ⟨hb3, rfl⟩; have fin2 := btrans fin hb3; have K2 := blk_keep hb3 K1; have ho := own_keep o.own hb3; have hk3 := (hb3.block D' hDl).trans hK; obtain ⟨⟨y0, y1⟩, f0, f1⟩ := blk2 K2)
      have b5 : ((w3.setCell ⟨w.heap.size + 1, 0, none⟩ (.string ⟨#[]⟩)).setCell ⟨w.heap.size + 1, 1, none⟩ (.slice none 0 0)).heap[w.heap.size + 1]? = some (.cells #[.string ⟨#[]⟩, .slice none 0 0] 26 (0, 0)) := by
        simpa using blk_set (i := 1) (v := .slice none 0 0) (blk_set (i := 0) (v := .string ⟨#[]⟩) K2)
      have d5 : ((w3.setCell ⟨w.heap.size + 1, 0, none⟩ (.string ⟨#[]⟩)).setCell ⟨w.heap.size + 1, 1, none⟩ (.slice none 0 0)).heap[D']? = some (.deferred (some [])) := (Below.heap_setCell _ ⟨w.heap.size + 1, 1, none⟩ _ D' (fun e => by dsimp only at e; omega)).trans ((Below.heap_setCell _ ⟨w.heap.size + 1, 0, none⟩ _ D' (fun e => by dsimp only at e; omega)).trans hk3)
      have bel5 : Below w.heap.size w ((w3.setCell ⟨w.heap.size + 1, 0, none⟩ (.string ⟨#[]⟩)).setCell ⟨w.heap.size + 1, 1, none⟩ (.slice none 0 0)) := below_set (by omega) (below_set (by omega) fin2)
      generalize ((w3.setCell ⟨w.heap.size + 1, 0, none⟩ (.string ⟨#[]⟩)).setCell ⟨w.heap.size + 1, 1, none⟩ (.slice none 0 0)) = w5 at *
      have p5 := belowK_b (n₀ := W0.heap.size) (w := W0) (Nat.le_refl _) w5 D' _ (.deferred none) hD d5 rfl rfl
      have q5 := (p5.block (w.heap.size + 1) (by omega)).trans b5
      have c0 : (w5.putObj D' (.deferred none)).cell? ⟨w.heap.size + 1, 0, none⟩ = some (.string ⟨#[]⟩) := blk_cell9 q5 0
      have c1 : (w5.putObj D' (.deferred none)).cell? ⟨w.heap.size + 1, 1, none⟩ = some (.slice none 0 0) := blk_cell9 q5 1
      refine ⟨by simp, .inl ⟨_, _, rfl, run_takeDeferred d5, ?_⟩⟩
      refine ⟨.agg #[.string ⟨#[]⟩, .slice none 0 0], by simp [results, Tryd.results13, go_sem, c0, c1], ?_⟩
      rw [hq3.out]
      exact ⟨_, _, rfl, World.ownsRow_nil _ _ _ _, bel5.trans (belowK_b (w := w) (Nat.le_refl _) w5 D' _ _ (by omega) d5 rfl rfl)⟩
    · have hq3 := hide (show backT ⟨s, cs⟩ x = ⟨s, ms⟩ by rw [hq.out, hq2.out, hT, if_pos rfl])
      rw [hT, if_pos rfl] at C9
      clear hq hq2 hT
      gi_wp2_with (refine ⟨trivial, ?_⟩; gi_at_call 28; refine (callsIn_wide.2 C9).mono ?_; rintro e w3 ⟨hb3, rfl⟩; have fin2 := btrans fin hb3; have K2 := blk_keep hb3 K1; have ho := own_keep o.own hb3; have hk3 := (hb3.block D' hDl).trans hK; obtain ⟨⟨y0, y1⟩, f0, f1⟩ := blk2 K2)
      have b5 : ((w3.setCell ⟨w.heap.size + 1, 0, none⟩ (.string s)).setCell ⟨w.heap.size + 1, 1, none⟩ (.slice ao ms.length cp)).heap[w.heap.size + 1]? = some (.cells #[.string s, .slice ao ms.length cp] 26 (0, 0)) := by
        simpa using blk_set (i := 1) (v := .slice ao ms.length cp) (blk_set (i := 0) (v := .string s) K2)
      have d5 : ((w3.setCell ⟨w.heap.size + 1, 0, none⟩ (.string s)).setCell ⟨w.heap.size + 1, 1, none⟩ (.slice ao ms.length cp)).heap[D']? = some (.deferred (some [])) := (Below.heap_setCell _ ⟨w.heap.size + 1, 1, none⟩ _ D' (fun e => by dsimp only at e; omega)).trans ((Below.heap_setCell _ ⟨w.heap.size + 1, 0, none⟩ _ D' (fun e => by dsimp only at e; omega)).trans hk3)
      have bel5 : Below w.heap.size w ((w3.setCell ⟨w.heap.size + 1, 0, none⟩ (.string s)).setCell ⟨w.heap.size + 1, 1, none⟩ (.slice ao ms.length cp)) := below_set (by omega) (below_set (by omega) fin2)
      have hfr := own_from ho (Nat.le_refl _)
      have own5 : ((w3.setCell ⟨w.heap.size + 1, 0, none⟩ (.string s)).setCell ⟨w.heap.size + 1, 1, none⟩ (.slice ao ms.length cp)).ownsRow w.heap.size 36 3 (.slice ao ms.length cp) ms.length (flatHalts ms) := own_base (own_set (own_set ho (fun k hk => by have := hfr k hk; omega)) (fun k hk => by have := hfr k hk; omega)) (by omega)
      generalize ((w3.setCell ⟨w.heap.size + 1, 0, none⟩ (.string s)).setCell ⟨w.heap.size + 1, 1, none⟩ (.slice ao ms.length cp)) = w5 at *
      have p5 := belowK_b (n₀ := W0.heap.size) (w := W0) (Nat.le_refl _) w5 D' _ (.deferred none) hD d5 rfl rfl
      have q5 := (p5.block (w.heap.size + 1) (by omega)).trans b5
      have c0 : (w5.putObj D' (.deferred none)).cell? ⟨w.heap.size + 1, 0, none⟩ = some (.string s) := blk_cell9 q5 0
      have c1 : (w5.putObj D' (.deferred none)).cell? ⟨w.heap.size + 1, 1, none⟩ = some (.slice ao ms.length cp) := blk_cell9 q5 1
      refine ⟨by simp, .inl ⟨_, _, rfl, run_takeDeferred d5, ?_⟩⟩
      refine ⟨.agg #[.string s, .slice ao ms.length cp], by simp [results, Tryd.results13, go_sem, c0, c1], ?_⟩
      rw [hq3.out]
      exact ⟨_, _, rfl, ownsRow_putObj own5 _ d5 rfl, bel5.trans (belowK_b (w := w) (Nat.le_refl _) w5 D' _ _ (by omega) d5 rfl rfl)⟩
  case stop =>
    rintro D' c pre W1 _ _ h _
    exact h.elim
end Go.Proofs.YthlmaljgnhakfaaDoor
