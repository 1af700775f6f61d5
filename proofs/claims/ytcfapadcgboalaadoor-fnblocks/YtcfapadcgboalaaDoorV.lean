/- Which blocks are taken: the model's list and the line's. -/
import Derived.Test.YtcfapadcgboalaaDoorU
namespace Go.Proofs.YtcfapadcgboalaaDoor
open Go.RowKit

/-- Does one of the first k trains lie on block b? -/
def onB (ts : List SpanV) (k : Nat) (b : Int) : Bool := (ts.take k).any fun t => inB b t.r t.f
def onAll (ts : List SpanV) (b : Nat) : Bool := onB ts ts.length b
theorem onB_zero (ts : List SpanV) (b : Int) : onB ts 0 b = false := rfl
theorem onB_succ {ts : List SpanV} {k : Nat} (hk : k < ts.length) (b : Int) : onB ts (k + 1) b = (onB ts k b || inB b (rAt ts k) (fAt ts k)) := by
  unfold onB
  rw [List.take_succ_eq_append_getElem hk, List.any_append]
  have e : ts.getD k SpanV.zero = ts[k] := by simp [List.getD, hk]
  simp only [rAt, fAt, e, List.any_cons, List.any_nil, Bool.or_false]
def takens (ts : List SpanV) (m : Nat) : List Bool := (List.range m).map (onAll ts)
theorem takens_len (ts : List SpanV) (m : Nat) : (takens ts m).length = m := by simp [takens]
theorem takens_succ (ts : List SpanV) (m : Nat) : takens ts (m + 1) = takens ts m ++ [onAll ts m] := by simp [takens, List.range_succ]
def takenL (n : Int) (ts : List SpanV) : List Bool := if trainsOk n ts = true then takens ts n.toNat else []
theorem takenL_no {n : Int} {ts : List SpanV} (h : trainsOk n ts = false) : takenL n ts = [] := by unfold takenL; rw [h]; rfl
theorem takenL_yes {n : Int} {ts : List SpanV} (h : trainsOk n ts = true) : takenL n ts = takens ts n.toNat := by unfold takenL; rw [h]; rfl
theorem takenL_len (n : Int) (ts : List SpanV) : (takenL n ts).length ≤ 100 := by
  cases h : trainsOk n ts
  · rw [takenL_no h]; simp
  · rw [takenL_yes h, takens_len]
    have := inB_true (trains_of h).1
    omega
/-- A row of bools by place. -/
def rowB (g : Nat → Bool) (n : Nat) : List Value := (List.range n).map fun b => Value.bool (g b)
theorem rowB_len (g : Nat → Bool) (n : Nat) : (rowB g n).length = n := by simp [rowB]
theorem rowB_get (g : Nat → Bool) (n j : Nat) (h : j < n) : (rowB g n)[j]? = some (.bool (g j)) := by simp [rowB, h]
theorem rowB_congr {g g' : Nat → Bool} {n : Nat} (h : ∀ b, b < n → g b = g' b) : rowB g n = rowB g' n := by
  unfold rowB
  apply List.map_congr_left
  intro b hb
  rw [h b (List.mem_range.1 hb)]
theorem rowB_set {g g' : Nat → Bool} {n m : Nat} (h : ∀ b, b < n → b ≠ m → g b = g' b) (hm : g' m = true) (hmn : m < n) : (rowB g n).set m (.bool true) = rowB g' n := by
  apply List.ext_getElem?
  intro j
  rw [List.getElem?_set]
  by_cases hj : j < n
  · rw [rowB_get _ _ _ hj, rowB_get _ _ _ hj]
    by_cases e : m = j
    · subst e
      rw [if_pos rfl, if_pos (by rw [rowB_len]; exact hj), hm]
    · rw [if_neg e, h j hj (fun x => e x.symm)]
  · have e1 : (rowB g n)[j]? = none := List.getElem?_eq_none (by rw [rowB_len]; omega)
    have e2 : (rowB g' n)[j]? = none := List.getElem?_eq_none (by rw [rowB_len]; omega)
    rw [e1, e2, if_neg (by omega)]
theorem rowB_all (ts : List SpanV) (n : Nat) : rowB (onAll ts) n = (takens ts n).map Value.bool := by simp [rowB, takens, Function.comp_def]
theorem rowB_false (n : Nat) : rowB (fun _ => false) n = List.replicate n (.bool false) := by
  apply List.ext_getElem?
  intro j
  by_cases hj : j < n
  · rw [rowB_get _ _ _ hj]; simp [hj]
  · rw [List.getElem?_eq_none (by rw [rowB_len]; omega), List.getElem?_eq_none (by simp; omega)]
theorem cell_set_far {w : World} {g i b o : Nat} {u : Value} (h : b ≠ g) : (w.setCell ⟨g, i, none⟩ u).cell? ⟨b, o, none⟩ = w.cell? ⟨b, o, none⟩ := World.cell?_of_block (Below.heap_setCell _ _ _ _ h)
theorem own_len {w : World} {B e sz n : Nat} {a : Option Addr} {c : Nat} {xs : List Value} (h : w.ownsRow B e sz (.slice a n c) n xs) : xs.length = n * sz := h.1

set_option maxRecDepth 20000 in
set_option maxHeartbeats 3200000 in
theorem cTaken (B b : Nat) (n : Int) (v : Value) (ts : List SpanV) (w : World) (hL : Line w B b n v ts) (hok : trainsOk n ts = true) :
    Calls Tryd.prog 25 #[.pointer (some ⟨b, 0, none⟩)] w fun e w' => e = .returned (.slice (some ⟨w.heap.size, 0, none⟩) n.toNat n.toNat) ∧
      w'.ownsRow w.heap.size 4 1 (.slice (some ⟨w.heap.size, 0, none⟩) n.toNat n.toNat) n.toNat (rowB (onAll ts) n.toNat) ∧ Below w.heap.size w w' := by
  obtain ⟨h1, h2, h3⟩ := trains_of hok
  obtain ⟨n1, n2⟩ := inB_true h1
  obtain ⟨N, rfl⟩ := Int.eq_ofNat_of_zero_le (show 0 ≤ n by omega)
  rw [Int.toNat_natCast]
  obtain ⟨a, c, rfl⟩ := own_form hL.own
  have hS : Spans w a ts := Spans.own hL.own
  obtain ⟨b0, b1⟩ := hL.cells
  have hO := fun k (hk : k < ts.length) b => onB_succ hk b
  have hO0 := onB_zero ts
  have hEnd : ∀ m, onAll ts m = onB ts ts.length m := fun m => rfl
  have hin : ∀ k, k < ts.length → 0 ≤ rAt ts k ∧ rAt ts k ≤ fAt ts k ∧ fAt ts k < N := fun k hk => by
    have h := h3 k hk
    have h0 := free_pos (n := (N : Int)) k (fun j hj => h3 j (by omega))
    simp only [tOk, decide_eq_true_eq] at h
    omega
  generalize onAll ts = OA at *
  generalize onB ts = OB at *
  clear h3 hok h1
  obtain ⟨i0, hi, hz0, hz1, hz2⟩ := info_parts infoBools
  go_enter Tryd.func25, Tryd.ntmps25
  go_wp2_with (at_make; refine wpList_make_full _ rfl _ _ 29 rfl w.heap.size 4 i0 (.bool false) 1 Tryd.underlying29 hi hz0 hz1 _ _ _ _ N rfl rfl rfl rfl (by rw [hz2]; omega) (by unfold maxLen; omega) (Nat.le_refl _) ?_; intro w1 hown hgrow; have hbel : Below w.heap.size w w1 := (Below.refl _ _).grown hgrow (Nat.le_refl _) (fun k hk => by cases hk); have b1' := ble hbel b1)
  have hown' : w1.ownsRow w.heap.size 4 1 (.slice (some ⟨w.heap.size, 0, none⟩) N N) N (rowB (fun m => OB 0 m) N) := by
    rw [rowB_congr (g' := fun _ => false) (fun b _ => hO0 b), rowB_false]
    simpa [toList_madeCells_one, Value.cells] using hown
  clear hown hgrow b0 b1 b1' hL
  go_loopw [5, 6, 17] (fun _ _ i wr => ∃ k : Nat, k ≤ ts.length ∧ i = .int .i64 k ∧ wr.ownsRow w.heap.size 4 1 (.slice (some ⟨w.heap.size, 0, none⟩) N N) N (rowB (fun m => OB k m) N) ∧ Below w.heap.size w wr) (fun _ _ i _ => ts.length - (intOf i).toNat)
  case atStart => exact ⟨0, Nat.zero_le _, rfl, hown', hbel⟩
  case round =>
    obtain ⟨k, hk, rfl, hown, hb⟩ := hrel
    clear hown' hbel
    obtain ⟨wo, rfl⟩ : ∃ wo, wo = wr := ⟨wr, rfl⟩
    by_cases hlt : k < ts.length
    · have hOk := hO k hlt
      have hink := hin k hlt
      clear hO hin hEnd hO0
      rcases hS with hS | ⟨bb, off, rfl, hc⟩
      · simp [hS] at hlt
      obtain ⟨q0, q1⟩ := hc k hlt
      have p0 : wo.cell? ⟨bb, off + k * 2, none⟩ = some (.int .i64 (rAt ts k)) := ble hb q0
      have p1 : wo.cell? ⟨bb, off + k * 2 + 1, none⟩ = some (.int .i64 (fAt ts k)) := ble hb q1
      clear hc q0 q1
      generalize rAt ts k = x at *
      generalize fAt ts k = y at *
      obtain ⟨x, rfl⟩ := Int.eq_ofNat_of_zero_le hink.1
      obtain ⟨y, rfl⟩ := Int.eq_ofNat_of_zero_le (show 0 ≤ y by omega)
      obtain ⟨hx0, hxy, hyN⟩ := hink
      have hs := hb.size
      have hwl := owns_lt hown
      have hown1 := own_keep hown (balloc wo (.cells #[.int .i64 (x : Int), .int .i64 (y : Int)] 34))
      have hb1 := btrans hb (balloc wo (.cells #[.int .i64 (x : Int), .int .i64 (y : Int)] 34))
      have hB1 : (wo.alloc (.cells #[.int .i64 (x : Int), .int .i64 (y : Int)] 34)).cell? ⟨wo.heap.size, 1, none⟩ = some (.int .i64 (y : Int)) := by simp
      have hrow0 : rowB (fun m => OB k m) N = rowB (fun m => OB k m || decide (x ≤ m ∧ m < x)) N := rowB_congr (fun b _ => by
        rw [decide_eq_false (by omega)]; simp)
      rw [hrow0] at hown1
      clear hown hb hrow0
      go_wp2
      go_loopw [6] (fun i wi => ∃ m : Nat, x ≤ m ∧ m ≤ y + 1 ∧ i = .int .i64 m ∧ wi.ownsRow w.heap.size 4 1 (.slice (some ⟨w.heap.size, 0, none⟩) N N) N (rowB (fun q => OB k q || decide (x ≤ q ∧ q < m)) N) ∧ wi.cell? ⟨wo.heap.size, 1, none⟩ = some (.int .i64 (y : Int)) ∧ Below w.heap.size w wi) (fun i _ => y + 1 - (intOf i).toNat)
      case atStart => exact ⟨x, Nat.le_refl _, by omega, rfl, hown1, hB1, hb1⟩
      case round =>
        obtain ⟨m, hm1, hm2, rfl, hown, hB, hb⟩ := hrel
        clear hown1 hB1 hb1
        by_cases hmy : m ≤ y
        · have hfr := hown.frozenAt m
          have hcw := (hown.cellAt m (by omega)).trans (rowB_get _ _ m (by omega))
          obtain ⟨hown2, -⟩ := hown.stored m (.bool true)
          rw [rowB_set (g' := fun q => OB k q || decide (x ≤ q ∧ q < m + 1)) (fun q _ hne => by
            show (_ || _) = (_ || _)
            rw [show decide (x ≤ q ∧ q < m + 1) = decide (x ≤ q ∧ q < m) from decide_eq_decide.2 (by omega)]) (by
            show (_ || _) = true
            rw [decide_eq_true (by omega)]; simp) (by omega)] at hown2
          have hb2 : Below w.heap.size w (wr.setCell ⟨w.heap.size, m, none⟩ (.bool true)) := hb.setCell (Nat.le_refl _) _
          have hB2 : (wr.setCell ⟨w.heap.size, m, none⟩ (.bool true)).cell? ⟨wo.heap.size, 1, none⟩ = some (.int .i64 (y : Int)) := (cell_set_far (by omega)).trans hB
          have hmy' : (m : Int) ≤ (y : Int) := by omega
          generalize (OB k m || decide (x ≤ m ∧ m < m)) = old at hcw
          clear hown hb
          go_wp2
          go_roundw
          case rel => exact ⟨m + 1, by omega, by omega, by go_num, hown2, hB2, hb2⟩
          case measure => simp [intOf]; omega
        · obtain rfl : m = y + 1 := by omega
          have hrow1 : rowB (fun q => OB k q || decide (x ≤ q ∧ q < y + 1)) N = rowB (fun q => OB (k + 1) q) N := rowB_congr (fun q _ => by
            rw [hOk q]
            congr 1
            unfold inB
            exact decide_eq_decide.2 (by omega))
          rw [hrow1] at hown
          have hmy' : ¬ (((y + 1 : Nat) : Int) ≤ (y : Int)) := by omega
          clear hrow1 hOk
          go_wp2
          go_roundw
          case rel => exact ⟨k + 1, by omega, by go_num, hown, hb⟩
          case measure => simp [intOf]; omega
    · obtain rfl : k = ts.length := by omega
      have hown2 : wo.ownsRow w.heap.size 4 1 (.slice (some ⟨w.heap.size, 0, none⟩) N N) N (rowB OA N) := by
        rw [rowB_congr (fun m _ => hEnd m)]; exact hown
      clear hown hO hin hEnd hO0
      go_wp2
      go_ret
      exact ⟨rfl, hown2, hb⟩
end Go.Proofs.YtcfapadcgboalaaDoor
