/- Cars in memory: copied, compared. -/
import Derived.Test.YtcadgafenbmihaaC
import Derived.Deep.RegionWith
namespace Go.Proofs.Ytcadgafenbmihaa
open Go.RowKit Fl

attribute [local go_sem] run_store_float

def CarV.zero : CarV := ⟨0, 0, 0, 0⟩
/-- The cells behind a slice's address hold the edges es, four cells each. -/
def Cars (w : World) (a : Option Addr) (es : List CarV) : Prop :=
  es = [] ∨ ∃ b off, a = some ⟨b, off, none⟩ ∧ ∀ i, i < es.length → w.cell? ⟨b, off + i * 4, none⟩ = some (.float .f64 (es.getD i CarV.zero).m) ∧
    w.cell? ⟨b, off + i * 4 + 1, none⟩ = some (.float .f64 (es.getD i CarV.zero).a) ∧ w.cell? ⟨b, off + i * 4 + 2, none⟩ = some (.float .f64 (es.getD i CarV.zero).b) ∧ w.cell? ⟨b, off + i * 4 + 3, none⟩ = some (.float .f64 (es.getD i CarV.zero).c)

theorem Cars.below {w w' : World} {a : Option Addr} {es : List CarV} (h : Cars w a es) (hb : Below w.heap.size w w') : Cars w' a es := by
  rcases h with h | ⟨b, off, ha, hc⟩
  · exact .inl h
  · exact .inr ⟨b, off, ha, fun i hi => ⟨ble hb (hc i hi).1, ble hb (hc i hi).2.1, ble hb (hc i hi).2.2.1, ble hb (hc i hi).2.2.2⟩⟩

def CarV.vs (e : CarV) : List Value := [.float .f64 e.m, .float .f64 e.a, .float .f64 e.b, .float .f64 e.c]
def flat (es : List CarV) : List Value := es.flatMap CarV.vs

theorem flat_cons (e : CarV) (es : List CarV) : flat (e :: es) = .float .f64 e.m :: .float .f64 e.a :: .float .f64 e.b :: .float .f64 e.c :: flat es := rfl
theorem flat_len (es : List CarV) : (flat es).length = es.length * 4 := by
  induction es with
  | nil => rfl
  | cons e es ih => rw [flat_cons]; simp only [List.length_cons, ih]; omega
theorem flat_app (xs ys : List CarV) : flat (xs ++ ys) = flat xs ++ flat ys := by simp [flat]
theorem flat_get (es : List CarV) : ∀ i, i < es.length → (flat es)[i * 4]? = some (.float .f64 (es.getD i CarV.zero).m) ∧ (flat es)[i * 4 + 1]? = some (.float .f64 (es.getD i CarV.zero).a) ∧
    (flat es)[i * 4 + 2]? = some (.float .f64 (es.getD i CarV.zero).b) ∧ (flat es)[i * 4 + 3]? = some (.float .f64 (es.getD i CarV.zero).c) := by
  induction es with
  | nil => intro i hi; simp at hi
  | cons e es ih =>
    intro i hi
    rw [flat_cons]
    cases i with
    | zero => simp
    | succ i =>
      have h := ih i (by simpa using hi)
      have e1 : (i + 1) * 4 = i * 4 + 1 + 1 + 1 + 1 := by omega
      rw [e1]
      simpa using h

theorem Cars.of_owns {w : World} {base g n cap : Nat} {es : List CarV} (h : w.ownsRow base 27 4 (.slice (some ⟨g, 0, none⟩) n cap) n (flat es)) : Cars w (some ⟨g, 0, none⟩) es := by
  refine .inr ⟨g, 0, rfl, fun i hi => ?_⟩
  have hl := h.1
  rw [flat_len] at hl
  obtain ⟨f0, f1, f2, f3⟩ := flat_get es i hi
  refine ⟨?_, ?_, ?_, ?_⟩
  · rw [Nat.zero_add, h.cellAt _ (by omega)]; exact f0
  · rw [Nat.zero_add, h.cellAt _ (by omega)]; exact f1
  · rw [Nat.zero_add, h.cellAt _ (by omega)]; exact f2
  · rw [Nat.zero_add, h.cellAt _ (by omega)]; exact f3

theorem owns_below {w w' : World} {base e sz g n cap : Nat} {xs : List Value} (h : w.ownsRow base e sz (.slice (some ⟨g, 0, none⟩) n cap) n xs) (hb : Below w.heap.size w w') : w'.ownsRow base e sz (.slice (some ⟨g, 0, none⟩) n cap) n xs := by
  obtain ⟨h1, h2⟩ := h
  refine ⟨h1, ?_⟩
  rcases h2 with h2 | ⟨g', cap', cur, hv, hg, hh, r⟩
  · exact .inl h2
  · have hlt : g' < w.heap.size := by
      by_cases hx : g' < w.heap.size
      · exact hx
      · rw [Array.getElem?_eq_none (Nat.le_of_not_lt hx)] at hh; cases hh
    exact .inr ⟨g', cap', cur, hv, hg, (hb.block g' hlt).trans hh, r⟩

theorem info27 : (Try.prog.info? 27).map (fun i => (i.zero, i.size, i.bytes)) = some (some (.agg #[.float .f64 0, .float .f64 0, .float .f64 0, .float .f64 0]), 4, 32) := by kernel_rfl

theorem made4 (n : Nat) : (madeCells (Value.agg #[.float .f64 0, .float .f64 0, .float .f64 0, .float .f64 0]).cells (n * 4)).toList = List.replicate (n * 4) (Value.float .f64 0) := by
  apply List.ext_getElem?
  intro j
  by_cases hj : j < n * 4
  · have h4 : j % 4 < 4 := Nat.mod_lt _ (by omega)
    simp only [madeCells, Value.cells]
    generalize hq : j % 4 = q at h4
    match q, h4 with
    | 0, _ => simp [hj, hq]
    | 1, _ => simp [hj, hq]
    | 2, _ => simp [hj, hq]
    | 3, _ => simp [hj, hq]
  · simp [madeCells, hj]

theorem flat_set_step (es : List CarV) (k : Nat) (hk : k < es.length) :
    ((((flat (es.take k) ++ List.replicate ((es.length - k) * 4) (Value.float .f64 0)).set (k * 4) (.float .f64 es[k].m)).set (k * 4 + 1) (.float .f64 es[k].a)).set (k * 4 + 2) (.float .f64 es[k].b)).set (k * 4 + 3) (.float .f64 es[k].c) =
      flat (es.take (k + 1)) ++ List.replicate ((es.length - (k + 1)) * 4) (Value.float .f64 0) := by
  have e1 : (es.length - k) * 4 = (es.length - (k + 1)) * 4 + 1 + 1 + 1 + 1 := by omega
  have e2 : (flat (es.take k)).length = k * 4 := by rw [flat_len]; simp; omega
  rw [List.set_append_right _ _ (by omega), List.set_append_right _ _ (by omega), List.set_append_right _ _ (by omega), List.set_append_right _ _ (by omega), e2, e1,
    List.replicate_succ, List.replicate_succ, List.replicate_succ, List.replicate_succ, List.take_succ_eq_append_getElem hk, flat_app]
  have a0 : k * 4 - k * 4 = 0 := by omega
  have a1 : k * 4 + 1 - k * 4 = 1 := by omega
  have a2 : k * 4 + 2 - k * 4 = 2 := by omega
  have a3 : k * 4 + 3 - k * 4 = 3 := by omega
  rw [a0, a1, a2, a3]
  simp [flat, CarV.vs]

set_option maxHeartbeats 800000 in
theorem c30 (a : Option Addr) (cap : Nat) (es : List CarV) (w : World) (he : Cars w a es) (hl : es.length ≤ 1048576) :
    Calls Try.prog 30 #[.slice a es.length cap] w fun e w' => ∃ g, e = .returned (.slice (some ⟨g, 0, none⟩) es.length es.length) ∧
      w'.ownsRow w.heap.size 27 4 (.slice (some ⟨g, 0, none⟩) es.length es.length) es.length (flat es) ∧ g = w.heap.size ∧ Below w.heap.size w w' := by
  obtain ⟨i0, hi, hz0, hz1, hz2⟩ := info_parts info27
  go_enter Try.func30, Try.ntmps30
  go_wp2_with (at_make; refine wpList_make_full _ rfl _ _ 44 rfl w.heap.size 27 i0 (.agg #[.float .f64 0, .float .f64 0, .float .f64 0, .float .f64 0]) 4 Try.underlying44 hi hz0 hz1 _ _ _ _ es.length rfl rfl rfl rfl (by rw [hz2]; omega) (by unfold maxLen; omega) (Nat.le_refl _) ?_; intro w1 hown hgrow)
  have hown' : w1.ownsRow w.heap.size 27 4 (.slice (some ⟨w.heap.size, 0, none⟩) es.length es.length) es.length (flat (es.take 0) ++ List.replicate ((es.length - 0) * 4) (Value.float .f64 0)) := by
    rw [made4] at hown
    simpa [flat] using hown
  have hbel : Below w.heap.size w w1 := (Below.refl _ _).grown hgrow (Nat.le_refl _) (fun k hk => by cases hk)
  clear hown hgrow
  go_loopw [4] (fun i wr => ∃ k : Nat, k ≤ es.length ∧ i = .int .i64 k ∧ wr.ownsRow w.heap.size 27 4 (.slice (some ⟨w.heap.size, 0, none⟩) es.length es.length) es.length (flat (es.take k) ++ List.replicate ((es.length - k) * 4) (Value.float .f64 0)) ∧ Below w.heap.size w wr) (fun i _ => es.length - (intOf i).toNat)
  case atStart => exact ⟨0, Nat.zero_le _, rfl, hown', hbel⟩
  case round =>
    obtain ⟨k, hk, rfl, hown, hb⟩ := hrel
    by_cases hlt : k < es.length
    · rcases he with he | ⟨b, off, rfl, hc⟩
      · simp [he] at hlt
      obtain ⟨q0, q1, q2, q3⟩ := hc k hlt
      have p0 := ble hb q0
      have p1 := ble hb q1
      have p2 := ble hb q2
      have p3 := ble hb q3
      have hbs := cell_lt q0
      clear hc q0 q1 q2 q3 hbel hown'
      go_wp2_with fail
      refine (c18 es[k] _).mono ?_
      rintro e w1 ⟨rfl, hb1⟩
      have HB1 := btrans hb hb1
      have O1 := owns_below hown hb1
      have f0 := O1.frozenAt (k * 4)
      have f1 := O1.frozenAt (k * 4 + 1)
      have f2 := O1.frozenAt (k * 4 + 2)
      have f3 := O1.frozenAt (k * 4 + 3)
      have z : ∀ j, j < 4 → w1.cell? ⟨w.heap.size, k * 4 + j, none⟩ = some (.float .f64 0) := by
        intro j hj
        rw [O1.cellAt _ (by omega), List.getElem?_append_right (by rw [flat_len]; simp; omega)]
        simp [List.getElem?_replicate, flat_len]
        omega
      have z0 := z 0 (by omega)
      have z1 := z 1 (by omega)
      have z2 := z 2 (by omega)
      have z3 := z 3 (by omega)
      have O2 := ((((((O1.stored (k * 4) (.float .f64 es[k].m)).1).stored (k * 4 + 1) (.float .f64 es[k].a)).1).stored (k * 4 + 2) (.float .f64 es[k].b)).1.stored (k * 4 + 3) (.float .f64 es[k].c)).1
      rw [flat_set_step es k hlt] at O2
      have HB2 := (((HB1.setCell (p := ⟨w.heap.size, k * 4, none⟩) (Nat.le_refl _) (.float .f64 es[k].m)).setCell (p := ⟨w.heap.size, k * 4 + 1, none⟩) (Nat.le_refl _) (.float .f64 es[k].a)).setCell (p := ⟨w.heap.size, k * 4 + 2, none⟩) (Nat.le_refl _) (.float .f64 es[k].b)).setCell (p := ⟨w.heap.size, k * 4 + 3, none⟩) (Nat.le_refl _) (.float .f64 es[k].c)
      clear z O1 hown hb1 hb HB1
      rw [Nat.add_zero] at z0
      unfold CarV.val
      go_wp2
      go_roundw
      case rel => exact ⟨k + 1, by omega, by go_num, O2, HB2⟩
      case measure => simp [intOf]; omega
    · have hkk : k = es.length := by omega
      subst hkk
      have hown2 : wr.ownsRow w.heap.size 27 4 (.slice (some ⟨w.heap.size, 0, none⟩) es.length es.length) es.length (flat es) := by simpa [flat] using hown
      clear hown hown' hbel he
      go_wp2
      go_ret
      exact ⟨_, rfl, hown2, rfl, hb⟩
set_option maxHeartbeats 400000 in
theorem c28 (a : Option Addr) (n cap : Nat) (left : Int) (w : World) (h0 : 0 ≤ left) (h1 : left ≤ 1048576) (hn : n ≤ maxLen) :
    Calls Try.prog 28 #[.slice a n cap, .int .i64 left] w fun e w' => ∃ r, e = .returned (.int .i64 r) ∧ (r = -1 ∨ (r = left - n ∧ 0 ≤ r)) ∧ w' = w := by
  unfold maxLen at hn
  by_cases hl : left - n < 0
  · go_enter Try.func28, Try.ntmps28
    go_wp2
    go_ret
    exact ⟨_, rfl, .inl rfl, rfl⟩
  · go_enter Try.func28, Try.ntmps28
    go_wp2
    go_ret
    exact ⟨_, rfl, .inr ⟨rfl, by omega⟩, rfl⟩


set_option maxHeartbeats 1600000 in
theorem c57 (q : CarV) (w : World) : Calls Try.prog 57 #[CarV.val q, CarV.val q] w fun r w' => r = .returned (.bool true) ∧ Below w.heap.size w w' := by
  obtain ⟨m, a, b, c⟩ := q
  unfold CarV.val
  have hW := btrans (balloc w (.cells #[.float .f64 m, .float .f64 a, .float .f64 b, .float .f64 c] 27)) (balloc _ (.cells #[.float .f64 m, .float .f64 a, .float .f64 b, .float .f64 c] 27))
  go_enter Try.func57, Try.ntmps57
  go_wp2_with fail
  refine (c25 _ _).mono ?_
  rintro e w1 ⟨rfl, hw⟩
  subst hw
  go_wp2_with fail
  refine (c25 _ _).mono ?_
  rintro e w1 ⟨rfl, hw⟩
  subst hw
  go_wp2_with fail
  refine (c25 _ _).mono ?_
  rintro e w1 ⟨rfl, hw⟩
  subst hw
  go_wp2_with fail
  refine (c25 _ _).mono ?_
  rintro e w1 ⟨rfl, hw⟩
  subst hw
  go_wp2
  go_ret
  exact ⟨rfl, hW⟩

set_option maxHeartbeats 1600000 in
theorem c32 (a1 a2 : Option Addr) (p1 p2 : Nat) (es : List CarV) (w : World) (h1 : Cars w a1 es) (h2 : Cars w a2 es) (hl : es.length ≤ 1048576) :
    Calls Try.prog 32 #[.slice a1 es.length p1, .slice a2 es.length p2] w fun e w' => e = .returned (.bool true) ∧ Below w.heap.size w w' := by
  go_enter Try.func32, Try.ntmps32
  go_wp2
  go_loopw [5] (fun i wr => ∃ k : Nat, k ≤ es.length ∧ i = .int .i64 k ∧ Below w.heap.size w wr) (fun i _ => es.length - (intOf i).toNat)
  case atStart => exact ⟨0, Nat.zero_le _, rfl, Below.refl _ _⟩
  case round =>
    obtain ⟨k, hk, rfl, hb⟩ := hrel
    by_cases hlt : k < es.length
    · rcases h1 with h1 | ⟨b1, o1, rfl, hc1⟩
      · simp [h1] at hlt
      rcases h2 with h2 | ⟨b2, o2, rfl, hc2⟩
      · simp [h2] at hlt
      obtain ⟨q0, q1, q2, q3⟩ := hc1 k hlt
      obtain ⟨r0, r1, r2, r3⟩ := hc2 k hlt
      have p0 := ble hb q0
      have p1 := ble hb q1
      have p2 := ble hb q2
      have p3 := ble hb q3
      have s0 := ble hb r0
      have s1 := ble hb r1
      have s2 := ble hb r2
      have s3 := ble hb r3
      clear hc1 hc2 q0 q1 q2 q3 r0 r1 r2 r3
      go_wp2_with fail
      go_region_with (go_at_call 57; refine (c57 es[k] _).mono ?_; rintro e w6 ⟨rfl, hb6⟩; have HB6 := btrans hb (undrew hb6))
      all_goals go_wp2
      all_goals go_roundw
      case rel => exact ⟨k + 1, by omega, by go_num, HB6⟩
      case measure => simp [intOf]; omega
      case rel => exact ⟨k + 1, by omega, by go_num, HB6⟩
      case measure => simp [intOf]; omega
    · go_wp2
      go_ret
      exact ⟨rfl, hb⟩


end Go.Proofs.Ytcadgafenbmihaa
