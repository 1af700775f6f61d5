/- Edges written one behind the other; copies of nets. -/
import Derived.Test.YtengfldiiceieaaD
namespace Go.Proofs.Ytengfldiiceieaa
open Go.RowKit

def EdgeV.vs (e : EdgeV) : List Value := [.int .i64 e.a, .int .i64 e.b, .int .i64 e.l, .int .i64 e.m]
def flat (es : List EdgeV) : List Value := es.flatMap EdgeV.vs

theorem flat_cons (e : EdgeV) (es : List EdgeV) : flat (e :: es) = .int .i64 e.a :: .int .i64 e.b :: .int .i64 e.l :: .int .i64 e.m :: flat es := rfl
theorem flat_len (es : List EdgeV) : (flat es).length = es.length * 4 := by
  induction es with
  | nil => rfl
  | cons e es ih => rw [flat_cons]; simp only [List.length_cons, ih]; omega
theorem flat_app (xs ys : List EdgeV) : flat (xs ++ ys) = flat xs ++ flat ys := by simp [flat]
theorem flat_get (es : List EdgeV) : ∀ i, i < es.length → (flat es)[i * 4]? = some (.int .i64 (es.getD i EdgeV.zero).a) ∧ (flat es)[i * 4 + 1]? = some (.int .i64 (es.getD i EdgeV.zero).b) ∧
    (flat es)[i * 4 + 2]? = some (.int .i64 (es.getD i EdgeV.zero).l) ∧ (flat es)[i * 4 + 3]? = some (.int .i64 (es.getD i EdgeV.zero).m) := by
  induction es with
  | nil => intro i hi; simp at hi
  | cons e es ih =>
    intro i hi
    rw [flat_cons]
    cases i with
    | zero => simp
    | succ i =>
      have h := ih i (by simpa using hi)
      have e1 : (i + 1) * 4 = i * 4 + 1 + 1 + 1 + 1 := by omega
      rw [e1]
      simpa using h

theorem Edges.of_owns {w : World} {base g n cap : Nat} {es : List EdgeV} (h : w.ownsRow base 41 4 (.slice (some ⟨g, 0, none⟩) n cap) n (flat es)) : Edges w (some ⟨g, 0, none⟩) es := by
  refine .inr ⟨g, 0, rfl, fun i hi => ?_⟩
  have hl := h.1
  rw [flat_len] at hl
  obtain ⟨f0, f1, f2, f3⟩ := flat_get es i hi
  refine ⟨?_, ?_, ?_, ?_⟩
  · rw [Nat.zero_add, h.cellAt _ (by omega)]; exact f0
  · rw [Nat.zero_add, h.cellAt _ (by omega)]; exact f1
  · rw [Nat.zero_add, h.cellAt _ (by omega)]; exact f2
  · rw [Nat.zero_add, h.cellAt _ (by omega)]; exact f3

theorem owns_below {w w' : World} {base e sz g n cap : Nat} {xs : List Value} (h : w.ownsRow base e sz (.slice (some ⟨g, 0, none⟩) n cap) n xs) (hb : Below w.heap.size w w') : w'.ownsRow base e sz (.slice (some ⟨g, 0, none⟩) n cap) n xs := by
  obtain ⟨h1, h2⟩ := h
  refine ⟨h1, ?_⟩
  rcases h2 with h2 | ⟨g', cap', cur, hv, hg, hh, r⟩
  · exact .inl h2
  · have hlt : g' < w.heap.size := by
      by_cases hx : g' < w.heap.size
      · exact hx
      · rw [Array.getElem?_eq_none (Nat.le_of_not_lt hx)] at hh; cases hh
    exact .inr ⟨g', cap', cur, hv, hg, (hb.block g' hlt).trans hh, r⟩

theorem info41 : (Try.prog.info? 41).map (fun i => (i.zero, i.size, i.bytes)) = some (some (.agg #[.int .i64 0, .int .i64 0, .int .i64 0, .int .i64 0]), 4, 32) := by kernel_rfl

theorem made4 (n : Nat) : (madeCells (Value.agg #[.int .i64 0, .int .i64 0, .int .i64 0, .int .i64 0]).cells (n * 4)).toList = List.replicate (n * 4) (Value.int .i64 0) := by
  apply List.ext_getElem?
  intro j
  by_cases hj : j < n * 4
  · have h4 : j % 4 < 4 := Nat.mod_lt _ (by omega)
    simp only [madeCells, Value.cells]
    generalize hq : j % 4 = q at h4
    match q, h4 with
    | 0, _ => simp [hj, hq]
    | 1, _ => simp [hj, hq]
    | 2, _ => simp [hj, hq]
    | 3, _ => simp [hj, hq]
  · simp [madeCells, hj]

theorem flat_set_step (es : List EdgeV) (k : Nat) (hk : k < es.length) :
    ((((flat (es.take k) ++ List.replicate ((es.length - k) * 4) (Value.int .i64 0)).set (k * 4) (.int .i64 es[k].a)).set (k * 4 + 1) (.int .i64 es[k].b)).set (k * 4 + 2) (.int .i64 es[k].l)).set (k * 4 + 3) (.int .i64 es[k].m) =
      flat (es.take (k + 1)) ++ List.replicate ((es.length - (k + 1)) * 4) (Value.int .i64 0) := by
  have e1 : (es.length - k) * 4 = (es.length - (k + 1)) * 4 + 1 + 1 + 1 + 1 := by omega
  have e2 : (flat (es.take k)).length = k * 4 := by rw [flat_len]; simp; omega
  rw [List.set_append_right _ _ (by omega), List.set_append_right _ _ (by omega), List.set_append_right _ _ (by omega), List.set_append_right _ _ (by omega), e2, e1,
    List.replicate_succ, List.replicate_succ, List.replicate_succ, List.replicate_succ, List.take_succ_eq_append_getElem hk, flat_app]
  have a0 : k * 4 - k * 4 = 0 := by omega
  have a1 : k * 4 + 1 - k * 4 = 1 := by omega
  have a2 : k * 4 + 2 - k * 4 = 2 := by omega
  have a3 : k * 4 + 3 - k * 4 = 3 := by omega
  rw [a0, a1, a2, a3]
  simp [flat, EdgeV.vs]

set_option maxHeartbeats 800000 in
theorem c58 (a : Option Addr) (cap : Nat) (es : List EdgeV) (w : World) (he : Edges w a es) (hl : es.length ≤ 1048576) :
    Calls Try.prog 58 #[.slice a es.length cap] w fun e w' => ∃ g, e = .returned (.slice (some ⟨g, 0, none⟩) es.length es.length) ∧
      w'.ownsRow w.heap.size 41 4 (.slice (some ⟨g, 0, none⟩) es.length es.length) es.length (flat es) ∧ g = w.heap.size ∧ Below w.heap.size w w' := by
  obtain ⟨i0, hi, hz0, hz1, hz2⟩ := info_parts info41
  go_enter Try.func58, Try.ntmps58
  go_wp2_with (at_make; refine wpList_make_full _ rfl _ _ 24 rfl w.heap.size 41 i0 (.agg #[.int .i64 0, .int .i64 0, .int .i64 0, .int .i64 0]) 4 Try.underlying24 hi hz0 hz1 _ _ _ _ es.length rfl rfl rfl rfl (by rw [hz2]; omega) (by unfold maxLen; omega) (Nat.le_refl _) ?_; intro w1 hown hgrow)
  have hown' : w1.ownsRow w.heap.size 41 4 (.slice (some ⟨w.heap.size, 0, none⟩) es.length es.length) es.length (flat (es.take 0) ++ List.replicate ((es.length - 0) * 4) (Value.int .i64 0)) := by
    rw [made4] at hown
    simpa [flat] using hown
  have hbel : Below w.heap.size w w1 := (Below.refl _ _).grown hgrow (Nat.le_refl _) (fun k hk => by cases hk)
  clear hown hgrow
  go_loopw [4] (fun i wr => ∃ k : Nat, k ≤ es.length ∧ i = .int .i64 k ∧ wr.ownsRow w.heap.size 41 4 (.slice (some ⟨w.heap.size, 0, none⟩) es.length es.length) es.length (flat (es.take k) ++ List.replicate ((es.length - k) * 4) (Value.int .i64 0)) ∧ Below w.heap.size w wr) (fun i _ => es.length - (intOf i).toNat)
  case atStart => exact ⟨0, Nat.zero_le _, rfl, hown', hbel⟩
  case round =>
    obtain ⟨k, hk, rfl, hown, hb⟩ := hrel
    by_cases hlt : k < es.length
    · rcases he with he | ⟨b, off, rfl, hc⟩
      · simp [he] at hlt
      obtain ⟨q0, q1, q2, q3⟩ := hc k hlt
      have p0 := ble hb q0
      have p1 := ble hb q1
      have p2 := ble hb q2
      have p3 := ble hb q3
      have hbs := cell_lt q0
      clear hc q0 q1 q2 q3 hbel hown'
      go_wp2_with fail
      refine (c72 es[k] _).mono ?_
      rintro e w1 ⟨rfl, hb1⟩
      have HB1 := btrans hb hb1
      have O1 := owns_below hown hb1
      have f0 := O1.frozenAt (k * 4)
      have f1 := O1.frozenAt (k * 4 + 1)
      have f2 := O1.frozenAt (k * 4 + 2)
      have f3 := O1.frozenAt (k * 4 + 3)
      have z : ∀ j, j < 4 → w1.cell? ⟨w.heap.size, k * 4 + j, none⟩ = some (.int .i64 0) := by
        intro j hj
        rw [O1.cellAt _ (by omega), List.getElem?_append_right (by rw [flat_len]; simp; omega)]
        simp [List.getElem?_replicate, flat_len]
        omega
      have z0 := z 0 (by omega)
      have z1 := z 1 (by omega)
      have z2 := z 2 (by omega)
      have z3 := z 3 (by omega)
      have O2 := ((((((O1.stored (k * 4) (.int .i64 es[k].a)).1).stored (k * 4 + 1) (.int .i64 es[k].b)).1).stored (k * 4 + 2) (.int .i64 es[k].l)).1.stored (k * 4 + 3) (.int .i64 es[k].m)).1
      rw [flat_set_step es k hlt] at O2
      have HB2 := (((HB1.setCell (p := ⟨w.heap.size, k * 4, none⟩) (Nat.le_refl _) (.int .i64 es[k].a)).setCell (p := ⟨w.heap.size, k * 4 + 1, none⟩) (Nat.le_refl _) (.int .i64 es[k].b)).setCell (p := ⟨w.heap.size, k * 4 + 2, none⟩) (Nat.le_refl _) (.int .i64 es[k].l)).setCell (p := ⟨w.heap.size, k * 4 + 3, none⟩) (Nat.le_refl _) (.int .i64 es[k].m)
      clear z O1 hown hb1 hb HB1
      rw [Nat.add_zero] at z0
      unfold EdgeV.val
      go_wp2
      go_roundw
      case rel => exact ⟨k + 1, by omega, by go_num, O2, HB2⟩
      case measure => simp [intOf]; omega
    · have hkk : k = es.length := by omega
      subst hkk
      have hown2 : wr.ownsRow w.heap.size 41 4 (.slice (some ⟨w.heap.size, 0, none⟩) es.length es.length) es.length (flat es) := by simpa [flat] using hown
      clear hown hown' hbel he
      go_wp2
      go_ret
      exact ⟨_, rfl, hown2, rfl, hb⟩
end Go.Proofs.Ytengfldiiceieaa
