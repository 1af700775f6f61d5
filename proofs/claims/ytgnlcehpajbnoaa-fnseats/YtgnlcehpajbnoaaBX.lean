/- All bookings of a train entered anew. -/
import Derived.Test.YtgnlcehpajbnoaaBW
import Derived.Deep.RegionHeld3
namespace Go.Proofs.Ytgnlcehpajbnoaa
open Go.RowKit Go.Lib
theorem infoPc : (Try.prog.info? 101).map (fun i => (i.zero, i.size, i.bytes)) = some (some (.agg (pcA fun _ => false)), 11, 11) := by kernel_rfl
theorem zero_at (j : Nat) (h : j < 11) : (pcA fun _ => false)[j]! = .bool false := by
  match j, h with
  | 0, _ | 1, _ | 2, _ | 3, _ | 4, _ | 5, _ | 6, _ | 7, _ | 8, _ | 9, _ | 10, _ => rfl
theorem zero_grid (N : Nat) : (Builtin.zeroCells (pcA fun _ => false) N).toList = gridL [] N := by
  have hz : (pcA fun _ => false).size = 11 := rfl
  apply grid_ext
  · simp [Builtin.zeroCells, hz]
  · intro s q hs hq
    simp only [Builtin.zeroCells, hz, Array.toList_map, List.getElem?_map, Array.toList_range, List.getElem?_range (show s * 11 + q < N * 11 by omega), Option.map_some]
    rw [zero_at _ (by omega)]
    rfl
theorem run_clear (w : World) (gs M : Nat) (ds : List BkV) (ty : TypeId) (hg : w.heap[gs]? = some (.cells (gridL ds (M + 1)).toArray 101 (0, 0))) :
    (Builtin.clear_ #[70] ty #[.slice (some ⟨gs, 0, none⟩) (M + 1) (M + 1)]).run Try.prog w = .ok (.tuple #[]) (w.setRow gs (gridL [] (M + 1)).toArray) := by
  obtain ⟨i0, hi, hz0, hz1, hz2⟩ := info_parts infoPc
  have hst := run_storeCells_at Try.prog gs 0 101 (gridL [] (M + 1)) 0 (gridL ds (M + 1)).toArray w hg (by simp [gridL_len]) (gridL_one _ _)
  have e : (gridL ds (M + 1)).toArray.toList.take (0 + 0) ++ gridL [] (M + 1) ++ (gridL ds (M + 1)).toArray.toList.drop (0 + 0 + (gridL [] (M + 1)).length) = gridL [] (M + 1) := by
    rw [List.drop_of_length_le (by simp [gridL_len])]; simp
  rw [e] at hst
  have hzc : (Builtin.zeroCells (Value.agg (pcA fun _ => false)).cells (M + 1)).toList = gridL [] (M + 1) := zero_grid (M + 1)
  simp [Builtin.clear_, run_underlying Try.underlying70, zeroValue, typeInfo, hi, hz0, hzc, hst]
theorem wpList_clear_run {P : Program} (w : World) {ops : Array Oper} {rest : List Oper} {o : Oper} {a : Act} {Q : Exit → Act → World → Prop} (hgd : o.guard = none) (d : Operand) (t : TypeId)
    (ho : o.op = .call { callee := .builtin .clear, args := #[d], argTypes := #[t] }) (v : Value) (hd : a.eval d = v) {v' : Value} {w' : World}
    (hr : (Builtin.clear_ #[t] o.type #[v]).run P w = .ok v' w') (h : wpList P ops Q rest (a.put o.dst v') w') : wpList P ops Q (o :: rest) a w := by
  refine wpList_plain hgd fun _ hK => ?_
  unfold Oper.wp execOp
  simp only [ho, resolve, invoke, builtin, Sem.run_bind, Sem.run_pure, Result.andThen_ok, List.map_toArray, List.map_cons, List.map_nil, hd, hr]
  exact hK _ _ h
theorem Bk.at {w : World} {B b : Nat} {N : Nat} {P : Int} {gh ch : Nat} {hs : List BkV} {gs : Nat} {ds : List BkV} (h : Bk w B b N P gh ch hs gs ds) {k : Nat} (hk : k < hs.length) :
    w.cell? ⟨gh, k * 4, none⟩ = some (.int .i64 (hs.getD k BkV.zero).i) ∧ w.cell? ⟨gh, k * 4 + 1, none⟩ = some (.int .i64 (hs.getD k BkV.zero).s) ∧ w.cell? ⟨gh, k * 4 + 2, none⟩ = some (.int .i64 (hs.getD k BkV.zero).n) ∧ w.cell? ⟨gh, k * 4 + 3, none⟩ = some (.int .i64 (hs.getD k BkV.zero).f) := by
  have hl := h.held.1
  rw [flatBks_len] at hl
  obtain ⟨f0, f1, f2, f3⟩ := flatBks_get hs k hk
  exact ⟨(h.held.cellAt _ (by omega)).trans f0, (h.held.cellAt _ (by omega)).trans f1, (h.held.cellAt _ (by omega)).trans f2, (h.held.cellAt _ (by omega)).trans f3⟩
theorem Bk.clear {w : World} {B b : Nat} {N : Nat} {P : Int} {gh ch : Nat} {hs : List BkV} {gs : Nat} {ds : List BkV} (h : Bk w B b N P gh ch hs gs ds) (es : List BkV) : Bk (w.setRow gs (gridL es N).toArray) B b N P gh ch hs gs es :=
  ⟨by rw [setRow_other _ _ _ _ h.ne]; exact h.blk, own_far h.held (grow_row1 _ _ _) (fun k hk e => by simp [Value.ownBlock] at hk; cases e; exact h.neh.1 hk), setRow_heap _ _ _ _ _ _ h.seats, h.bB, h.sB⟩
theorem Bk.far {w w1 : World} {B b : Nat} {N : Nat} {P : Int} {gh ch : Nat} {hs : List BkV} {gs : Nat} {ds : List BkV} (h : Bk w B b N P gh ch hs gs ds) (hg : Below w.heap.size w w1) : Bk w1 B b N P gh ch hs gs ds := h.below hg
theorem upTo_last {S P : Int} {hs : List BkV} {k : Nat} (hk : k ≤ hs.length) (h : upTo S P hs k) : 0 ≤ lastI (hs.take k) := by
  cases k with
  | zero => simp [lastI]
  | succ k =>
    have g := h k (by omega)
    rw [List.take_succ_eq_append_getElem (by omega), lastI_app]
    simp only [List.getD, show k < hs.length from hk, List.getElem?_eq_getElem, Option.getD_some, nextB, Bool.and_eq_true] at g
    have := (bkB_iff.1 g.1.1).1
    omega
def WriteP (w : World) (B b : Nat) (N : Nat) (P : Int) (gh ch : Nat) (hs : List BkV) (gs : Nat) (e : Ending) (w' : World) : Prop :=
  e = .returned (.bool (rtB N P hs)) ∧ w.grownBy w' (some gs) ∧ ∃ es, Bk w' B b N P gh ch hs gs es ∧ (rtB N P hs = true → es = hs)
theorem WriteP.no {w w' : World} {B b : Nat} {N : Nat} {P : Int} {gh ch : Nat} {hs : List BkV} {gs : Nat} {es : List BkV} (h : rtB N P hs = false) (hg : w.grownBy w' (some gs)) (hB : Bk w' B b N P gh ch hs gs es) : WriteP w B b N P gh ch hs gs (.returned (.bool false)) w' :=
  ⟨by rw [h], hg, es, hB, fun e => by rw [h] at e; cases e⟩
theorem WriteP.yes {w w' : World} {B b : Nat} {N : Nat} {P : Int} {gh ch : Nat} {hs : List BkV} {gs : Nat} (h : rtB N P hs = true) (hg : w.grownBy w' (some gs)) (hB : Bk w' B b N P gh ch hs gs hs) : WriteP w B b N P gh ch hs gs (.returned (.bool true)) w' :=
  ⟨by rw [h], hg, hs, hB, fun _ => rfl⟩

set_option maxRecDepth 20000 in
set_option maxHeartbeats 6400000 in
theorem cWrite (B b : Nat) (N : Nat) (P : Int) (gh ch : Nat) (hs : List BkV) (gs : Nat) (ds : List BkV) (w : World) (hB : Bk w B b N P gh ch hs gs ds) (h1 : 1 ≤ N) (h2 : N ≤ 60) (h3 : P ≤ 11) (hl : hs.length ≤ 200) :
    Calls Try.prog 75 #[.pointer (some ⟨b, 0, none⟩)] w (WriteP w B b N P gh ch hs gs) := by
  obtain ⟨c0, c1, c2, c3⟩ := hB.cells
  have hcl : ∀ ty, (Builtin.clear_ #[70] ty #[.slice (some ⟨gs, 0, none⟩) N N]).run Try.prog w = .ok (.tuple #[]) (w.setRow gs (gridL [] N).toArray) := fun ty => by
    obtain ⟨M, rfl⟩ : ∃ M, N = M + 1 := ⟨N - 1, by omega⟩
    exact run_clear w gs M ds ty hB.seats
  have HC := hB.clear []
  have hG0 := grow_row1 w gs (gridL [] N).toArray
  generalize w.setRow gs (gridL [] N).toArray = V at *
  obtain ⟨d0, d1, d2, d3⟩ := HC.cells
  clear c0 c1 c2
  go_enter Try.func75, Try.ntmps75
  go_wp2_with (at_builtin; refine wpList_clear_run _ rfl _ 70 rfl _ rfl (hcl _) ?_)
  clear hcl d0 d1 d2 d3 c3
  go_loopw [3, 16] (fun l i wr => ∃ k : Nat, i = .int .i64 k ∧ k ≤ hs.length ∧ l = .int .i64 (lastI (hs.take k)) ∧ Bk wr B b N P gh ch hs gs (hs.take k) ∧ w.grownBy wr (some gs) ∧ Hid (upTo N P hs k)) (fun _ i _ => hs.length - (intOf i).toNat)
  case atStart => exact ⟨0, rfl, Nat.zero_le _, rfl, by simpa using HC, hG0, hide (fun j hj => by omega)⟩
  case round =>
    obtain ⟨k, rfl, hk, rfl, HK, hG, hU⟩ := hrel
    clear HC hG0
    by_cases hlt : k < hs.length
    · obtain ⟨x0, x1, x2, x3⟩ := HK.at hlt
      have hget : hs.take (k + 1) = hs.take k ++ [hs.getD k BkV.zero] := by rw [List.take_succ_eq_append_getElem hlt]; simp [List.getD, hlt]
      have hbad := fun h => hide (rtB_bad (S := N) (P := P) hlt h)
      have hstep := fun h => hide (hU.out.step h)
      have h0 : 0 ≤ lastI (hs.take k) := upTo_last (Nat.le_of_lt hlt) hU.out
      have hnf := hide (next_fit (S := N) (P := P) (x := hs.getD k BkV.zero) h0)
      generalize hs.getD k BkV.zero = x at *
      obtain ⟨xi, xs, xn, xf⟩ := x
      dsimp only at *
      generalize lastI (hs.take k) = la at *
      have hgl : gh < wr.heap.size := cell_lt x0
      have hA := balloc wr (.cells #[.int .i64 xi, .int .i64 xs, .int .i64 xn, .int .i64 xf] 78)
      have k0 : (wr.alloc (.cells #[.int .i64 xi, .int .i64 xs, .int .i64 xn, .int .i64 xf] 78)).heap[wr.heap.size]? = some (.cells #[.int .i64 xi, .int .i64 xs, .int .i64 xn, .int .i64 xf] 78 (0, 0)) := heap_alloc_new wr _
      have HA := HK.below hA
      have HKs := HK.seats
      have hGA := gbelow hG hA
      by_cases hle : xi ≤ la
      · have hF : Hid (WriteP w B b N P gh ch hs gs (.returned (.bool false)) (wr.alloc (.cells #[.int .i64 xi, .int .i64 xs, .int .i64 xn, .int .i64 xf] 78))) := hide (WriteP.no (hbad (by rw [hnf.out, decide_eq_false (by omega)]; rfl)).out hGA HA)
        clear hB HK HA hG hGA hbad hstep hnf
        go_wp2
        go_ret
        exact hF.out
      · have hle' : la < xi := by omega
        go_wp2_with fail
        refine (cFit B b N P gh ch hs gs (hs.take k) ⟨xi, xs, xn, xf⟩ _ HA h2 h3).mono ?_
        rintro e w1 ⟨rfl, hb1⟩
        have H1 := HA.below hb1
        have hG1 := gbelow hGA hb1
        replace k0 := blk_keep hb1 k0
        clear HA hGA HK hG hb1 hA
        cases hfit : fitB N P (hs.take k) ⟨xi, xs, xn, xf⟩
        · have hF : Hid (WriteP w B b N P gh ch hs gs (.returned (.bool false)) w1) := hide (WriteP.no (hbad (by rw [hnf.out, hfit, Bool.and_false])).out hG1 H1)
          clear hB H1 hG1 hbad hstep hnf hfit
          go_wp2
          go_ret
          exact hF.out
        · have hU2 := hstep (by rw [hnf.out, hfit, decide_eq_true hle']; rfl)
          have hfit2 := hfit
          simp only [fitB, Bool.and_eq_true] at hfit2
          obtain ⟨⟨q1, q2⟩, _⟩ := hfit2
          obtain ⟨s0, s1⟩ := inB_true q1
          obtain ⟨a0, a1, a2⟩ := askB_iff.1 q2
          obtain ⟨s, rfl⟩ : ∃ s : Nat, xs = s := ⟨xs.toNat, by omega⟩
          obtain ⟨on, rfl⟩ : ∃ n : Nat, xn = n := ⟨xn.toNat, by omega⟩
          obtain ⟨off, rfl⟩ : ∃ n : Nat, xf = n := ⟨xf.toNat, by omega⟩
          have y0 : w1.cell? ⟨wr.heap.size, 0, none⟩ = some (.int .i64 xi) := Go.Joins.cell_of_block k0 0
          have y1 : w1.cell? ⟨wr.heap.size, 1, none⟩ = some (.int .i64 s) := Go.Joins.cell_of_block k0 1
          have y2 : w1.cell? ⟨wr.heap.size, 2, none⟩ = some (.int .i64 on) := Go.Joins.cell_of_block k0 2
          have y3 : w1.cell? ⟨wr.heap.size, 3, none⟩ = some (.int .i64 off) := Go.Joins.cell_of_block k0 3
          have hne : gs ≠ wr.heap.size := by have := lt_of_block HKs; omega
          clear hbad hstep hnf hfit q1 q2 x0 x1 x2 x3
          go_wp2_with fail
          refine (cHold B b N P gh ch hs gs (hs.take k) xi s on off _ H1 (by omega) (by omega) (by omega)).mono ?_
          rintro e w2 ⟨rfl, H2, hg2⟩
          have z0 : w2.cell? ⟨wr.heap.size, 0, none⟩ = some (.int .i64 xi) := Go.Joins.cell_of_block ((hg2.block _ (lt_of_block k0) (by simpa using hne.symm)).trans k0) 0
          have hG2 := gtrans hG1 hg2
          rw [← hget] at H2
          have hl2 : Hid (lastI (hs.take (k + 1)) = xi) := hide (by rw [hget, lastI_app])
          clear H1 hG1 hg2 k0 y0 y1 y2 y3 hB
          go_wp2
          go_roundw
          case rel => exact ⟨k + 1, by go_num, by omega, by rw [hl2.out], H2, hG2, hU2⟩
          case measure => simp [intOf]; omega
    · obtain rfl : k = hs.length := by omega
      have hF : Hid (WriteP w B b N P gh ch hs gs (.returned (.bool true)) wr) := hide (WriteP.yes (rtB_upTo.2 hU.out) hG (by simpa using HK))
      clear hB HK hG hU
      go_wp2
      go_ret
      exact hF.out
end Go.Proofs.Ytgnlcehpajbnoaa
