/- Slices of runs: copied, compared, marked. -/
import Derived.Test.YthfknkmabjgklaaA
import Derived.Deep.RegionWith
namespace Go.Proofs.Ythfknkmabjgklaa
open Go.RowKit
structure RunV where
  t : Int
  l : Int
  f : Int
  o : Int
  deriving DecidableEq
def RunV.zero : RunV := ⟨0, 0, 0, 0⟩
def RunV.val (e : RunV) : Value := .agg #[.int .i64 e.t, .int .i64 e.l, .int .i64 e.f, .int .i64 e.o]
def RunV.vs (e : RunV) : List Value := [.int .i64 e.t, .int .i64 e.l, .int .i64 e.f, .int .i64 e.o]
def flatRuns (es : List RunV) : List Value := es.flatMap RunV.vs
theorem flatRuns_cons (e : RunV) (es : List RunV) : flatRuns (e :: es) = .int .i64 e.t :: .int .i64 e.l :: .int .i64 e.f :: .int .i64 e.o :: flatRuns es := rfl
theorem flatRuns_len (es : List RunV) : (flatRuns es).length = es.length * 4 := by
  induction es with
  | nil => rfl
  | cons e es ih => rw [flatRuns_cons]; simp only [List.length_cons, ih]; omega
theorem flatRuns_app (xs ys : List RunV) : flatRuns (xs ++ ys) = flatRuns xs ++ flatRuns ys := by simp [flatRuns]
theorem flatRuns_get (es : List RunV) : ∀ i, i < es.length → (flatRuns es)[i * 4]? = some (.int .i64 (es.getD i RunV.zero).t) ∧ (flatRuns es)[i * 4 + 1]? = some (.int .i64 (es.getD i RunV.zero).l) ∧ (flatRuns es)[i * 4 + 2]? = some (.int .i64 (es.getD i RunV.zero).f) ∧ (flatRuns es)[i * 4 + 3]? = some (.int .i64 (es.getD i RunV.zero).o) := by
  induction es with
  | nil => intro i hi; simp at hi
  | cons e es ih =>
    intro i hi
    rw [flatRuns_cons]
    cases i with
    | zero => simp
    | succ i =>
      have h := ih i (by simpa using hi)
      have e1 : (i + 1) * 4 = i * 4 + 1 + 1 + 1 + 1 := by omega
      rw [e1]
      simpa using h
/-- The cells behind a slice's address hold the structs es. -/
def Runs (w : World) (a : Option Addr) (es : List RunV) : Prop :=
  es = [] ∨ ∃ b off, a = some ⟨b, off, none⟩ ∧ ∀ i, i < es.length → w.cell? ⟨b, off + i * 4, none⟩ = some (.int .i64 (es.getD i RunV.zero).t) ∧ w.cell? ⟨b, off + i * 4 + 1, none⟩ = some (.int .i64 (es.getD i RunV.zero).l) ∧ w.cell? ⟨b, off + i * 4 + 2, none⟩ = some (.int .i64 (es.getD i RunV.zero).f) ∧ w.cell? ⟨b, off + i * 4 + 3, none⟩ = some (.int .i64 (es.getD i RunV.zero).o)
theorem Runs.below {w w' : World} {a : Option Addr} {es : List RunV} (h : Runs w a es) (hb : Below w.heap.size w w') : Runs w' a es := by
  rcases h with h | ⟨b, off, ha, hc⟩
  · exact .inl h
  · exact .inr ⟨b, off, ha, fun i hi => ⟨ble hb (hc i hi).1, ble hb (hc i hi).2.1, ble hb (hc i hi).2.2.1, ble hb (hc i hi).2.2.2⟩⟩
theorem Runs.of_owns {w : World} {base g n cap : Nat} {es : List RunV} (h : w.ownsRow base 72 4 (.slice (some ⟨g, 0, none⟩) n cap) n (flatRuns es)) : Runs w (some ⟨g, 0, none⟩) es := by
  refine .inr ⟨g, 0, rfl, fun i hi => ?_⟩
  have hl := h.1
  rw [flatRuns_len] at hl
  obtain ⟨f0, f1, f2, f3⟩ := flatRuns_get es i hi
  refine ⟨?_, ?_, ?_, ?_⟩
  · rw [Nat.zero_add, h.cellAt _ (by omega)]; exact f0
  · rw [Nat.zero_add, h.cellAt _ (by omega)]; exact f1
  · rw [Nat.zero_add, h.cellAt _ (by omega)]; exact f2
  · rw [Nat.zero_add, h.cellAt _ (by omega)]; exact f3
theorem Runs.own {w : World} {base n c : Nat} {a : Option Addr} {es : List RunV} (h : w.ownsRow base 72 4 (.slice a n c) n (flatRuns es)) : Runs w a es := by
  rcases h.2 with ⟨_, h0⟩ | ⟨g, cap', cur, he, _⟩
  · left
    have hl := h.1
    rw [flatRuns_len, h0] at hl
    exact List.length_eq_zero_iff.1 (by omega)
  · simp only [Value.slice.injEq] at he
    obtain ⟨rfl, _, rfl⟩ := he
    exact Runs.of_owns h
theorem Runs.rw {w : World} {base n c : Nat} {a : Option Addr} {es : List RunV} (h : Rw w base 72 4 (.slice a n c) n (flatRuns es)) : Runs w a es := by
  rcases h with h | ⟨h0, h1, _⟩
  · exact Runs.own h
  · left
    have := flatRuns_len es
    rw [h1] at this
    simp at this
    exact List.length_eq_zero_iff.1 (by omega)
theorem lenRuns {w : World} {base n : Nat} {v : Value} {es : List RunV} (h : Rw w base 72 4 v n (flatRuns es)) : es.length = n := by
  have := h.len
  rw [flatRuns_len] at this
  omega
theorem infoRuns : (Try.prog.info? 72).map (fun i => (i.zero, i.size, i.bytes)) = some (some (.agg #[.int .i64 0, .int .i64 0, .int .i64 0, .int .i64 0]), 4, 32) := by kernel_rfl
theorem madeRuns (n : Nat) : (madeCells (Value.agg #[.int .i64 0, .int .i64 0, .int .i64 0, .int .i64 0]).cells (n * 4)).toList = List.replicate (n * 4) (Value.int .i64 0) := by
  apply List.ext_getElem?
  intro j
  by_cases hj : j < n * 4
  · have h4 : j % 4 < 4 := Nat.mod_lt _ (by omega)
    simp only [madeCells, Value.cells]
    generalize hq : j % 4 = q at h4
    match q, h4 with
    | 0, _ => simp [hj, hq]
    | 1, _ => simp [hj, hq]
    | 2, _ => simp [hj, hq]
    | 3, _ => simp [hj, hq]
  · simp [madeCells, hj]
theorem stepRuns (es : List RunV) (k : Nat) (hk : k < es.length) :
    ((((flatRuns (es.take k) ++ List.replicate ((es.length - k) * 4) (Value.int .i64 0)).set (k * 4) (.int .i64 es[k].t)).set (k * 4 + 1) (.int .i64 es[k].l)).set (k * 4 + 2) (.int .i64 es[k].f)).set (k * 4 + 3) (.int .i64 es[k].o) =
      flatRuns (es.take (k + 1)) ++ List.replicate ((es.length - (k + 1)) * 4) (Value.int .i64 0) := by
  have e1 : (es.length - k) * 4 = (es.length - (k + 1)) * 4 + 1 + 1 + 1 + 1 := by omega
  have e2 : (flatRuns (es.take k)).length = k * 4 := by rw [flatRuns_len]; simp; omega
  rw [List.set_append_right _ _ (by omega), List.set_append_right _ _ (by omega), List.set_append_right _ _ (by omega), List.set_append_right _ _ (by omega), e2, e1,
    List.replicate_succ, List.replicate_succ, List.replicate_succ, List.replicate_succ, List.take_succ_eq_append_getElem hk, flatRuns_app]
  have a0 : k * 4 - k * 4 = 0 := by omega
  have a1 : k * 4 + 1 - k * 4 = 1 := by omega
  have a2 : k * 4 + 2 - k * 4 = 2 := by omega
  have a3 : k * 4 + 3 - k * 4 = 3 := by omega
  rw [a0, a1, a2, a3]
  simp [flatRuns, RunV.vs]
theorem set_flatRuns (xs ys : List RunV) (e : RunV) (x0 x1 x2 x3 : Int) (q : Nat) (hq : q = xs.length) :
    ((((flatRuns (xs ++ e :: ys)).set (q * 4) (.int .i64 x0)).set (q * 4 + 1) (.int .i64 x1)).set (q * 4 + 2) (.int .i64 x2)).set (q * 4 + 3) (.int .i64 x3) = flatRuns (xs ++ ⟨x0, x1, x2, x3⟩ :: ys) := by
  have e2 : (flatRuns xs).length = q * 4 := by rw [flatRuns_len, hq]
  rw [flatRuns_app, flatRuns_app, flatRuns_cons, flatRuns_cons, List.set_append_right _ _ (by omega), List.set_append_right _ _ (by omega), List.set_append_right _ _ (by omega), List.set_append_right _ _ (by omega), e2]
  have a0 : q * 4 - q * 4 = 0 := by omega
  have a1 : q * 4 + 1 - q * 4 = 1 := by omega
  have a2 : q * 4 + 2 - q * 4 = 2 := by omega
  have a3 : q * 4 + 3 - q * 4 = 3 := by omega
  rw [a0, a1, a2, a3]
  simp

set_option maxHeartbeats 400000 in
theorem cSzRuns (a : Option Addr) (n cap : Nat) (left : Int) (w : World) (h0 : 0 ≤ left) (h1 : left ≤ 1048576) (hn : n ≤ maxLen) :
    Calls Try.prog 23 #[.slice a n cap, .int .i64 left] w fun e w' => ∃ r, e = .returned (.int .i64 r) ∧ (r = -1 ∨ (r = left - n ∧ 0 ≤ r)) ∧ w' = w := by
  unfold maxLen at hn
  by_cases hl : left - n < 0
  · go_enter Try.func23, Try.ntmps23
    go_wp2
    go_ret
    exact ⟨_, rfl, .inl rfl, rfl⟩
  · go_enter Try.func23, Try.ntmps23
    go_wp2
    go_ret
    exact ⟨_, rfl, .inr ⟨rfl, by omega⟩, rfl⟩

set_option maxHeartbeats 800000 in
theorem cToRunV (e : RunV) (w : World) : Calls Try.prog 47 #[e.val] w fun r w' => r = .returned e.val ∧ Below w.heap.size w w' := by
  obtain ⟨x0, x1, x2, x3⟩ := e
  unfold RunV.val
  go_enter Try.func47, Try.ntmps47
  go_wp2
  refine bodyPost_ret (v := .agg #[.int .i64 x0, .int .i64 x1, .int .i64 x2, .int .i64 x3]) (by simp [results, Try.results47, go_sem]) rfl ⟨rfl, ?_⟩
  exact btrans (btrans (balloc _ _) (balloc _ _)) (balloc _ _)

set_option maxHeartbeats 800000 in
theorem cToRuns (a : Option Addr) (cap : Nat) (es : List RunV) (w : World) (he : Runs w a es) (hl : es.length ≤ 1048576) :
    Calls Try.prog 25 #[.slice a es.length cap] w fun e w' => ∃ g, e = .returned (.slice (some ⟨g, 0, none⟩) es.length es.length) ∧
      w'.ownsRow w.heap.size 72 4 (.slice (some ⟨g, 0, none⟩) es.length es.length) es.length (flatRuns es) ∧ g = w.heap.size ∧ Below w.heap.size w w' := by
  obtain ⟨i0, hi, hz0, hz1, hz2⟩ := info_parts infoRuns
  go_enter Try.func25, Try.ntmps25
  go_wp2_with (at_make; refine wpList_make_full _ rfl _ _ 41 rfl w.heap.size 72 i0 (.agg #[.int .i64 0, .int .i64 0, .int .i64 0, .int .i64 0]) 4 Try.underlying41 hi hz0 hz1 _ _ _ _ es.length rfl rfl rfl rfl (by rw [hz2]; omega) (by unfold maxLen; omega) (Nat.le_refl _) ?_; intro w1 hown hgrow)
  have hown' : w1.ownsRow w.heap.size 72 4 (.slice (some ⟨w.heap.size, 0, none⟩) es.length es.length) es.length (flatRuns (es.take 0) ++ List.replicate ((es.length - 0) * 4) (Value.int .i64 0)) := by
    rw [madeRuns] at hown
    simpa [flatRuns] using hown
  have hbel : Below w.heap.size w w1 := (Below.refl _ _).grown hgrow (Nat.le_refl _) (fun k hk => by cases hk)
  clear hown hgrow
  go_loopw [4] (fun i wr => ∃ k : Nat, k ≤ es.length ∧ i = .int .i64 k ∧ wr.ownsRow w.heap.size 72 4 (.slice (some ⟨w.heap.size, 0, none⟩) es.length es.length) es.length (flatRuns (es.take k) ++ List.replicate ((es.length - k) * 4) (Value.int .i64 0)) ∧ Below w.heap.size w wr) (fun i _ => es.length - (intOf i).toNat)
  case atStart => exact ⟨0, Nat.zero_le _, rfl, hown', hbel⟩
  case round =>
    obtain ⟨k, hk, rfl, hown, hb⟩ := hrel
    by_cases hlt : k < es.length
    · rcases he with he | ⟨b, off, rfl, hc⟩
      · simp [he] at hlt
      obtain ⟨q0, q1, q2, q3⟩ := hc k hlt
      have p0 := ble hb q0
      have p1 := ble hb q1
      have p2 := ble hb q2
      have p3 := ble hb q3
      have hbs := cell_lt q0
      clear hc q0 q1 q2 q3 hbel hown'
      go_wp2_with fail
      refine (cToRunV es[k] _).mono ?_
      rintro e w1 ⟨rfl, hb1⟩
      have HB1 := btrans hb hb1
      have O1 := own_keep hown hb1
      have f0 := O1.frozenAt (k * 4)
      have f1 := O1.frozenAt (k * 4 + 1)
      have f2 := O1.frozenAt (k * 4 + 2)
      have f3 := O1.frozenAt (k * 4 + 3)
      have z : ∀ j, j < 4 → w1.cell? ⟨w.heap.size, k * 4 + j, none⟩ = some (.int .i64 0) := by
        intro j hj
        rw [O1.cellAt _ (by omega), List.getElem?_append_right (by rw [flatRuns_len]; simp; omega)]
        simp [List.getElem?_replicate, flatRuns_len]
        omega
      have z0 := z 0 (by omega)
      have z1 := z 1 (by omega)
      have z2 := z 2 (by omega)
      have z3 := z 3 (by omega)
      have O2 := ((((O1.stored (k * 4) (.int .i64 es[k].t)).1.stored (k * 4 + 1) (.int .i64 es[k].l)).1.stored (k * 4 + 2) (.int .i64 es[k].f)).1.stored (k * 4 + 3) (.int .i64 es[k].o)).1
      rw [stepRuns es k hlt] at O2
      have HB2 := ((((HB1.setCell (p := ⟨w.heap.size, k * 4, none⟩) (Nat.le_refl _) (.int .i64 es[k].t)).setCell (p := ⟨w.heap.size, k * 4 + 1, none⟩) (Nat.le_refl _) (.int .i64 es[k].l)).setCell (p := ⟨w.heap.size, k * 4 + 2, none⟩) (Nat.le_refl _) (.int .i64 es[k].f)).setCell (p := ⟨w.heap.size, k * 4 + 3, none⟩) (Nat.le_refl _) (.int .i64 es[k].o))
      clear z O1 hown hb1 hb HB1
      rw [Nat.add_zero] at z0
      unfold RunV.val
      go_wp2
      go_roundw
      case rel => exact ⟨k + 1, by omega, by go_num, O2, HB2⟩
      case measure => simp [intOf]; omega
    · have hkk : k = es.length := by omega
      subst hkk
      have hown2 : wr.ownsRow w.heap.size 72 4 (.slice (some ⟨w.heap.size, 0, none⟩) es.length es.length) es.length (flatRuns es) := by simpa [flatRuns] using hown
      clear hown hown' hbel he
      go_wp2
      go_ret
      exact ⟨_, rfl, hown2, rfl, hb⟩

set_option maxHeartbeats 800000 in
theorem cEqRunV (e : RunV) (w : World) : Calls Try.prog 42 #[e.val, e.val] w fun r w' => r = .returned (.bool true) ∧ Below w.heap.size w w' := by
  obtain ⟨x0, x1, x2, x3⟩ := e
  unfold RunV.val
  have hW := btrans (balloc w (.cells #[.int .i64 x0, .int .i64 x1, .int .i64 x2, .int .i64 x3] 72)) (balloc _ (.cells #[.int .i64 x0, .int .i64 x1, .int .i64 x2, .int .i64 x3] 72))
  go_enter Try.func42, Try.ntmps42
  go_wp2
  go_ret
  exact ⟨rfl, hW⟩

set_option maxHeartbeats 1600000 in
theorem cEqRuns (a1 a2 : Option Addr) (p1 p2 : Nat) (es : List RunV) (w : World) (h1 : Runs w a1 es) (h2 : Runs w a2 es) (hl : es.length ≤ 1048576) :
    Calls Try.prog 18 #[.slice a1 es.length p1, .slice a2 es.length p2] w fun e w' => e = .returned (.bool true) ∧ Below w.heap.size w w' := by
  go_enter Try.func18, Try.ntmps18
  go_wp2
  go_loopw [5] (fun i wr => ∃ k : Nat, k ≤ es.length ∧ i = .int .i64 k ∧ Below w.heap.size w wr) (fun i _ => es.length - (intOf i).toNat)
  case atStart => exact ⟨0, Nat.zero_le _, rfl, Below.refl _ _⟩
  case round =>
    obtain ⟨k, hk, rfl, hb⟩ := hrel
    by_cases hlt : k < es.length
    · rcases h1 with h1 | ⟨b1, o1, rfl, hc1⟩
      · simp [h1] at hlt
      rcases h2 with h2 | ⟨b2, o2, rfl, hc2⟩
      · simp [h2] at hlt
      obtain ⟨q0, q1, q2, q3⟩ := hc1 k hlt
      obtain ⟨r0, r1, r2, r3⟩ := hc2 k hlt
      have p0 := ble hb q0
      have s0 := ble hb r0
      have p1 := ble hb q1
      have s1 := ble hb r1
      have p2 := ble hb q2
      have s2 := ble hb r2
      have p3 := ble hb q3
      have s3 := ble hb r3
      clear hc1 hc2 q0 q1 q2 q3 r0 r1 r2 r3
      go_wp2_with fail
      go_region_with (go_at_call 42; refine (cEqRunV es[k] _).mono ?_; rintro e w6 ⟨rfl, hb6⟩; have HB6 := btrans hb (undrew hb6))
      all_goals go_wp2
      all_goals go_roundw
      case rel => exact ⟨k + 1, by omega, by go_num, HB6⟩
      case measure => simp [intOf]; omega
      case rel => exact ⟨k + 1, by omega, by go_num, HB6⟩
      case measure => simp [intOf]; omega
    · go_wp2
      go_ret
      exact ⟨rfl, hb⟩
theorem cEqRunsn (n : Nat) (B1 B2 : Nat) (v1 v2 : Value) (es : List RunV) (w : World) (h1 : Rw w B1 72 4 v1 n (flatRuns es)) (h2 : Rw w B2 72 4 v2 n (flatRuns es)) (hl : n ≤ 1048576) :
    Calls Try.prog 18 #[v1, v2] w fun e w' => e = .returned (.bool true) ∧ Below w.heap.size w w' := by
  obtain ⟨a1, c1, rfl⟩ := h1.form
  obtain ⟨a2, c2, rfl⟩ := h2.form
  have hn := lenRuns h1
  subst hn
  exact cEqRuns a1 a2 c1 c2 es w (Runs.rw h1) (Runs.rw h2) hl

def markRunV (k : Int) (i : Nat) : RunV := ⟨k + 4 * i, k + 4 * i + 1, k + 4 * i + 2, k + 4 * i + 3⟩
def marksRuns (k : Int) (n : Nat) : List RunV := (List.range n).map (markRunV k)
theorem marksRuns_len (k : Int) (n : Nat) : (marksRuns k n).length = n := by simp [marksRuns]
theorem marksRuns_succ (k : Int) (n : Nat) : marksRuns k (n + 1) = marksRuns k n ++ [markRunV k n] := by simp [marksRuns, List.range_succ]
theorem marksRuns_get (k : Int) (n i : Nat) (h : i < n) : (marksRuns k n).getD i RunV.zero = markRunV k i := by simp [marksRuns, List.getD, h]
theorem markRuns_step (es : List RunV) (k : Int) (i : Nat) (hi : i < es.length) :
    ((((flatRuns (marksRuns k i ++ es.drop i)).set (i * 4) (.int .i64 (k + 4 * i))).set (i * 4 + 1) (.int .i64 (k + 4 * i + 1))).set (i * 4 + 2) (.int .i64 (k + 4 * i + 2))).set (i * 4 + 3) (.int .i64 (k + 4 * i + 3)) = flatRuns (marksRuns k (i + 1) ++ es.drop (i + 1)) := by
  rw [List.drop_eq_getElem_cons hi, set_flatRuns _ _ _ _ _ _ _ i (marksRuns_len k i).symm, marksRuns_succ, List.append_assoc]
  rfl

set_option maxHeartbeats 3200000 in
theorem cMarkRunsg (B g cap : Nat) (es : List RunV) (k : Int) (w : World) (ho : w.ownsRow B 72 4 (.slice (some ⟨g, 0, none⟩) es.length cap) es.length (flatRuns es)) (hl : es.length ≤ 1048576) (hk0 : 0 ≤ k) (hk1 : k ≤ 10000000) :
    Calls Try.prog 21 #[.slice (some ⟨g, 0, none⟩) es.length cap, .int .i64 k] w fun e w' => e = .returned (.int .i64 (k + 4 * es.length)) ∧
      w'.ownsRow B 72 4 (.slice (some ⟨g, 0, none⟩) es.length cap) es.length (flatRuns (marksRuns k es.length)) ∧ w.grownBy w' (some g) := by
  go_enter Try.func21, Try.ntmps21
  go_wp2
  go_loopw [1, 5] (fun kk i wr => ∃ j : Nat, j ≤ es.length ∧ i = .int .i64 j ∧ kk = .int .i64 (k + 4 * j) ∧ wr.ownsRow B 72 4 (.slice (some ⟨g, 0, none⟩) es.length cap) es.length (flatRuns (marksRuns k j ++ es.drop j)) ∧ w.grownBy wr (some g)) (fun _ i _ => es.length - (intOf i).toNat)
  case atStart => exact ⟨0, Nat.zero_le _, rfl, by simp, by simpa [marksRuns] using ho, World.grownBy.refl _ _⟩
  case round =>
    obtain ⟨j, hj, rfl, rfl, hown, hg⟩ := hrel
    by_cases hlt : j < es.length
    · have hlen : (marksRuns k j ++ es.drop j).length = es.length := by rw [List.length_append, marksRuns_len, List.length_drop]; omega
      obtain ⟨y0, y1, y2, y3⟩ := flatRuns_get (marksRuns k j ++ es.drop j) j (by omega)
      have f0 := hown.frozenAt (j * 4)
      have z0 := (hown.cellAt (j * 4) (by omega)).trans y0
      have f1 := hown.frozenAt (j * 4 + 1)
      have z1 := (hown.cellAt (j * 4 + 1) (by omega)).trans y1
      have f2 := hown.frozenAt (j * 4 + 2)
      have z2 := (hown.cellAt (j * 4 + 2) (by omega)).trans y2
      have f3 := hown.frozenAt (j * 4 + 3)
      have z3 := (hown.cellAt (j * 4 + 3) (by omega)).trans y3
      generalize (marksRuns k j ++ es.drop j).getD j RunV.zero = E at z0 z1 z2 z3
      clear y0 y1 y2 y3
      obtain ⟨s1, t1⟩ := hown.stored (j * 4) (.int .i64 (k + 4 * j))
      obtain ⟨s2, t2⟩ := s1.stored (j * 4 + 1) (.int .i64 (k + 4 * j + 1))
      obtain ⟨s3, t3⟩ := s2.stored (j * 4 + 2) (.int .i64 (k + 4 * j + 2))
      obtain ⟨s4, t4⟩ := s3.stored (j * 4 + 3) (.int .i64 (k + 4 * j + 3))
      rw [markRuns_step es k j hlt] at s4
      have hg' := gtrans hg (gtrans t1 (gtrans t2 (gtrans t3 (t4))))
      have w1 : IntKind.i64.wrap (k + 4 * (j : Int) + 1) = k + 4 * (j : Int) + 1 := (wrap_in _ (by omega) (by omega)).trans (by omega)
      have w2 : IntKind.i64.wrap (k + 4 * (j : Int) + 1 + 1) = k + 4 * (j : Int) + 2 := (wrap_in _ (by omega) (by omega)).trans (by omega)
      have w3 : IntKind.i64.wrap (k + 4 * (j : Int) + 2 + 1) = k + 4 * (j : Int) + 3 := (wrap_in _ (by omega) (by omega)).trans (by omega)
      have w4 : IntKind.i64.wrap (k + 4 * (j : Int) + 3 + 1) = k + 4 * ((j : Int) + 1) := (wrap_in _ (by omega) (by omega)).trans (by omega)
      clear hown s1 s2 s3 t1 t2 t3 t4 hg hlen
      go_wp2
      exact ⟨⟨j + 1, by omega, by go_num, by go_num, s4, hg'⟩, by simp [intOf]; omega⟩
    · have hjj : j = es.length := by omega
      subst hjj
      have hown2 : wr.ownsRow B 72 4 (.slice (some ⟨g, 0, none⟩) es.length cap) es.length (flatRuns (marksRuns k es.length)) := by simpa using hown
      clear hown
      go_wp2
      go_ret
      exact ⟨rfl, hown2, hg⟩

set_option maxHeartbeats 800000 in
/-- A mark on a row that is owned, or is nothing: it grows by a block of the row, if at all. -/
theorem cMarkRuns (B n : Nat) (v : Value) (es : List RunV) (k : Int) (w : World) (ho : Rw w B 72 4 v n (flatRuns es)) (hl : n ≤ 1048576) (hk0 : 0 ≤ k) (hk1 : k ≤ 10000000) :
    Calls Try.prog 21 #[v, .int .i64 k] w fun e w' => e = .returned (.int .i64 (k + 4 * n)) ∧
      Rw w' B 72 4 v n (flatRuns (marksRuns k n)) ∧ ∃ r, w.grownBy w' r ∧ ∀ j, r = some j → B ≤ j ∧ v.ownBlock = some j := by
  have hn := lenRuns ho
  subst hn
  by_cases h0 : es.length = 0
  · obtain ⟨a, c, rfl⟩ := ho.form
    have hx : es = [] := List.length_eq_zero_iff.1 h0
    subst hx
    clear h0
    go_enter Try.func21, Try.ntmps21
    go_wp2
    go_loop [1, 5] (fun kk i => i = .int .i64 0 ∧ kk = .int .i64 k) (fun _ _ => 0)
    case atStart => exact ⟨rfl, rfl⟩
    case round =>
      obtain ⟨rfl, rfl⟩ := hrel
      go_wp2
      go_ret
      exact ⟨by simp, by simpa [marksRuns] using ho, none, World.grownBy.refl _ _, fun j h => by cases h⟩
  · rcases ho with ho | ⟨h1, _⟩
    · rcases ho.2 with ⟨_, h1⟩ | ⟨g, cap, cur, rfl, hB, _⟩
      · omega
      · refine (cMarkRunsg B g cap es k w ho hl hk0 hk1).mono ?_
        rintro e w' ⟨rfl, h2, h3⟩
        exact ⟨rfl, .inl h2, some g, h3, fun j h => by cases h; exact ⟨hB, rfl⟩⟩
    · omega

set_option maxHeartbeats 3200000 in
theorem cHeldRunsa (ao : Option Addr) (n cap : Nat) (k : Int) (w : World) (he : Runs w ao (marksRuns k n)) (hl : n ≤ 1048576) (hk0 : 0 ≤ k) (hk1 : k ≤ 10000000) :
    Calls Try.prog 22 #[.slice ao n cap, .int .i64 k] w fun e w' => e = .returned (.int .i64 (k + 4 * n)) ∧ w' = w := by
  go_enter Try.func22, Try.ntmps22
  go_wp2
  go_loop [1, 5] (fun kk i => ∃ j : Nat, j ≤ n ∧ i = .int .i64 j ∧ kk = .int .i64 (k + 4 * j)) (fun _ i => n - (intOf i).toNat)
  case atStart => exact ⟨0, Nat.zero_le _, rfl, by simp⟩
  case round =>
    obtain ⟨j, hj, rfl, rfl⟩ := hrel
    by_cases hlt : j < n
    · rcases he with he | ⟨b, off, rfl, hc⟩
      · have := marksRuns_len k n; rw [he] at this; simp at this; omega
      obtain ⟨p0, p1, p2, p3⟩ := hc j (by rw [marksRuns_len]; exact hlt)
      rw [marksRuns_get k n j hlt] at p0 p1 p2 p3
      simp only [markRunV] at p0 p1 p2 p3
      have w1 : IntKind.i64.wrap (k + 4 * (j : Int) + 1) = k + 4 * (j : Int) + 1 := (wrap_in _ (by omega) (by omega)).trans (by omega)
      have w2 : IntKind.i64.wrap (k + 4 * (j : Int) + 1 + 1) = k + 4 * (j : Int) + 2 := (wrap_in _ (by omega) (by omega)).trans (by omega)
      have w3 : IntKind.i64.wrap (k + 4 * (j : Int) + 2 + 1) = k + 4 * (j : Int) + 3 := (wrap_in _ (by omega) (by omega)).trans (by omega)
      have w4 : IntKind.i64.wrap (k + 4 * (j : Int) + 3 + 1) = k + 4 * ((j : Int) + 1) := (wrap_in _ (by omega) (by omega)).trans (by omega)
      clear hc
      go_wp2
      exact ⟨⟨j + 1, by omega, by go_num, by go_num⟩, by simp [intOf]; omega⟩
    · have hjj : j = n := by omega
      subst hjj
      clear he
      go_wp2
      go_ret
      exact ⟨rfl, rfl⟩
theorem cHeldRuns (B n : Nat) (v : Value) (k : Int) (w : World) (ho : Rw w B 72 4 v n (flatRuns (marksRuns k n))) (hl : n ≤ 1048576) (hk0 : 0 ≤ k) (hk1 : k ≤ 10000000) :
    Calls Try.prog 22 #[v, .int .i64 k] w fun e w' => e = .returned (.int .i64 (k + 4 * n)) ∧ w' = w := by
  obtain ⟨a, c, rfl⟩ := ho.form
  exact cHeldRunsa a n c k w (Runs.rw ho) hl hk0 hk1
end Go.Proofs.Ythfknkmabjgklaa
