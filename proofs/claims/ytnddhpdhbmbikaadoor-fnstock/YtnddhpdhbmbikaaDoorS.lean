/- Slices of units: copied, compared, marked. -/
import Derived.Test.YtnddhpdhbmbikaaDoorA
import Derived.Deep.RegionWith
namespace Go.Proofs.YtnddhpdhbmbikaaDoor
open Go.RowKit
structure UV where
  i : Int
  c : Int
  m : Int
  b : Bool
  deriving DecidableEq
def UV.zero : UV := ⟨0, 0, 0, false⟩
def UV.val (e : UV) : Value := .agg #[.int .i64 e.i, .int .i64 e.c, .int .i64 e.m, .bool e.b]
def UV.vs (e : UV) : List Value := [.int .i64 e.i, .int .i64 e.c, .int .i64 e.m, .bool e.b]
def flatUs (es : List UV) : List Value := es.flatMap UV.vs
theorem flatUs_cons (e : UV) (es : List UV) : flatUs (e :: es) = .int .i64 e.i :: .int .i64 e.c :: .int .i64 e.m :: .bool e.b :: flatUs es := rfl
theorem flatUs_len (es : List UV) : (flatUs es).length = es.length * 4 := by
  induction es with
  | nil => rfl
  | cons e es ih => rw [flatUs_cons]; simp only [List.length_cons, ih]; omega
theorem flatUs_app (xs ys : List UV) : flatUs (xs ++ ys) = flatUs xs ++ flatUs ys := by simp [flatUs]
theorem flatUs_get (es : List UV) : ∀ i, i < es.length → (flatUs es)[i * 4]? = some (.int .i64 (es.getD i UV.zero).i) ∧ (flatUs es)[i * 4 + 1]? = some (.int .i64 (es.getD i UV.zero).c) ∧ (flatUs es)[i * 4 + 2]? = some (.int .i64 (es.getD i UV.zero).m) ∧ (flatUs es)[i * 4 + 3]? = some (.bool (es.getD i UV.zero).b) := by
  induction es with
  | nil => intro i hi; simp at hi
  | cons e es ih =>
    intro i hi
    rw [flatUs_cons]
    cases i with
    | zero => simp
    | succ i =>
      have h := ih i (by simpa using hi)
      have e1 : (i + 1) * 4 = i * 4 + 1 + 1 + 1 + 1 := by omega
      rw [e1]
      simpa using h
/-- The cells behind a slice's address hold the structs es. -/
def Us (w : World) (a : Option Addr) (es : List UV) : Prop :=
  es = [] ∨ ∃ b off, a = some ⟨b, off, none⟩ ∧ ∀ i, i < es.length → w.cell? ⟨b, off + i * 4, none⟩ = some (.int .i64 (es.getD i UV.zero).i) ∧ w.cell? ⟨b, off + i * 4 + 1, none⟩ = some (.int .i64 (es.getD i UV.zero).c) ∧ w.cell? ⟨b, off + i * 4 + 2, none⟩ = some (.int .i64 (es.getD i UV.zero).m) ∧ w.cell? ⟨b, off + i * 4 + 3, none⟩ = some (.bool (es.getD i UV.zero).b)
theorem Us.below {w w' : World} {a : Option Addr} {es : List UV} (h : Us w a es) (hb : Below w.heap.size w w') : Us w' a es := by
  rcases h with h | ⟨b, off, ha, hc⟩
  · exact .inl h
  · exact .inr ⟨b, off, ha, fun i hi => ⟨ble hb (hc i hi).1, ble hb (hc i hi).2.1, ble hb (hc i hi).2.2.1, ble hb (hc i hi).2.2.2⟩⟩
theorem Us.of_owns {w : World} {base g n cap : Nat} {es : List UV} (h : w.ownsRow base 34 4 (.slice (some ⟨g, 0, none⟩) n cap) n (flatUs es)) : Us w (some ⟨g, 0, none⟩) es := by
  refine .inr ⟨g, 0, rfl, fun i hi => ?_⟩
  have hl := h.1
  rw [flatUs_len] at hl
  obtain ⟨f0, f1, f2, f3⟩ := flatUs_get es i hi
  refine ⟨?_, ?_, ?_, ?_⟩
  · rw [Nat.zero_add, h.cellAt _ (by omega)]; exact f0
  · rw [Nat.zero_add, h.cellAt _ (by omega)]; exact f1
  · rw [Nat.zero_add, h.cellAt _ (by omega)]; exact f2
  · rw [Nat.zero_add, h.cellAt _ (by omega)]; exact f3
theorem Us.own {w : World} {base n c : Nat} {a : Option Addr} {es : List UV} (h : w.ownsRow base 34 4 (.slice a n c) n (flatUs es)) : Us w a es := by
  rcases h.2 with ⟨_, h0⟩ | ⟨g, cap', cur, he, _⟩
  · left
    have hl := h.1
    rw [flatUs_len, h0] at hl
    exact List.length_eq_zero_iff.1 (by omega)
  · simp only [Value.slice.injEq] at he
    obtain ⟨rfl, _, rfl⟩ := he
    exact Us.of_owns h
theorem Us.rw {w : World} {base n c : Nat} {a : Option Addr} {es : List UV} (h : Rw w base 34 4 (.slice a n c) n (flatUs es)) : Us w a es := by
  rcases h with h | ⟨h0, h1, _⟩
  · exact Us.own h
  · left
    have := flatUs_len es
    rw [h1] at this
    simp at this
    exact List.length_eq_zero_iff.1 (by omega)
theorem lenUs {w : World} {base n : Nat} {v : Value} {es : List UV} (h : Rw w base 34 4 v n (flatUs es)) : es.length = n := by
  have := h.len
  rw [flatUs_len] at this
  omega
theorem infoUs : (Tryd.prog.info? 34).map (fun i => (i.zero, i.size, i.bytes)) = some (some (.agg #[.int .i64 0, .int .i64 0, .int .i64 0, .bool false]), 4, 32) := by kernel_rfl
theorem madeUs (n : Nat) : (madeCells (Value.agg #[.int .i64 0, .int .i64 0, .int .i64 0, .bool false]).cells (n * 4)).toList = flatUs (List.replicate n UV.zero) := by
  apply List.ext_getElem?
  intro j
  by_cases hj : j < n * 4
  · obtain ⟨i, q, hq, rfl⟩ : ∃ i q, q < 4 ∧ j = i * 4 + q := ⟨j / 4, j % 4, Nat.mod_lt _ (by omega), by omega⟩
    have h := flatUs_get (List.replicate n UV.zero) i (by simp; omega)
    have ez : (List.replicate n UV.zero).getD i UV.zero = UV.zero := by
      by_cases hi : i < n <;> simp [List.getD, hi]
    rw [ez] at h
    simp only [madeCells, Value.cells]
    match q, hq with
    | 0, _ => first | (rw [h.1]; simp [hj, UV.zero]; done) | (have h := h.1; simp only [Nat.add_zero] at h hj ⊢; rw [h]; simp [hj, UV.zero])
    | 1, _ => first | (rw [h.2.1]; simp [hj, UV.zero]; done) | (have h := h.2.1; simp only [Nat.add_zero] at h hj ⊢; rw [h]; simp [hj, UV.zero])
    | 2, _ => first | (rw [h.2.2.1]; simp [hj, UV.zero]; done) | (have h := h.2.2.1; simp only [Nat.add_zero] at h hj ⊢; rw [h]; simp [hj, UV.zero])
    | 3, _ => first | (rw [h.2.2.2]; simp [hj, UV.zero]; done) | (have h := h.2.2.2; simp only [Nat.add_zero] at h hj ⊢; rw [h]; simp [hj, UV.zero])
  · have hl := flatUs_len (List.replicate n UV.zero)
    rw [List.length_replicate] at hl
    rw [List.getElem?_eq_none (l := flatUs _) (by omega)]
    simp [madeCells, hj]
theorem set_flatUs (xs ys : List UV) (e : UV) (x0 : Int) (x1 : Int) (x2 : Int) (x3 : Bool) (q : Nat) (hq : q = xs.length) :
    ((((flatUs (xs ++ e :: ys)).set (q * 4) (.int .i64 x0)).set (q * 4 + 1) (.int .i64 x1)).set (q * 4 + 2) (.int .i64 x2)).set (q * 4 + 3) (.bool x3) = flatUs (xs ++ ⟨x0, x1, x2, x3⟩ :: ys) := by
  have e2 : (flatUs xs).length = q * 4 := by rw [flatUs_len, hq]
  rw [flatUs_app, flatUs_app, flatUs_cons, flatUs_cons, List.set_append_right _ _ (by omega), List.set_append_right _ _ (by omega), List.set_append_right _ _ (by omega), List.set_append_right _ _ (by omega), e2]
  have a0 : q * 4 - q * 4 = 0 := by omega
  have a1 : q * 4 + 1 - q * 4 = 1 := by omega
  have a2 : q * 4 + 2 - q * 4 = 2 := by omega
  have a3 : q * 4 + 3 - q * 4 = 3 := by omega
  rw [a0, a1, a2, a3]
  simp
theorem nextUs (es : List UV) (k : Nat) (hk : k < es.length) : (es.take k ++ List.replicate (es.length - k) UV.zero).getD k UV.zero = UV.zero := by
  have e : k - (es.take k).length = 0 := by simp; omega
  have e1 : es.length - k = (es.length - (k + 1)) + 1 := by omega
  rw [List.getD, List.getElem?_append_right (by simp; omega), e, e1, List.replicate_succ]
  rfl
theorem stepUs (es : List UV) (k : Nat) (hk : k < es.length) :
    ((((flatUs (es.take k ++ List.replicate (es.length - k) UV.zero)).set (k * 4) (.int .i64 es[k].i)).set (k * 4 + 1) (.int .i64 es[k].c)).set (k * 4 + 2) (.int .i64 es[k].m)).set (k * 4 + 3) (.bool es[k].b) = flatUs (es.take (k + 1) ++ List.replicate (es.length - (k + 1)) UV.zero) := by
  have e1 : es.length - k = (es.length - (k + 1)) + 1 := by omega
  rw [e1, List.replicate_succ, set_flatUs _ _ _ _ _ _ _ k (by simp; omega), List.take_succ_eq_append_getElem hk, List.append_assoc]
  rfl

set_option maxHeartbeats 800000 in
theorem cEqUV (e : UV) (w : World) : Calls Tryd.prog 41 #[e.val, e.val] w fun r w' => r = .returned (.bool true) ∧ Below w.heap.size w w' := by
  obtain ⟨x0, x1, x2, x3⟩ := e
  unfold UV.val
  have hW := btrans (balloc w (.cells #[.int .i64 x0, .int .i64 x1, .int .i64 x2, .bool x3] 34)) (balloc _ (.cells #[.int .i64 x0, .int .i64 x1, .int .i64 x2, .bool x3] 34))
  go_enter Tryd.func41, Tryd.ntmps41
  go_wp2
  go_ret
  exact ⟨rfl, hW⟩

set_option maxHeartbeats 1600000 in
theorem cEqUs (a1 a2 : Option Addr) (p1 p2 : Nat) (es : List UV) (w : World) (h1 : Us w a1 es) (h2 : Us w a2 es) (hl : es.length ≤ 1048576) :
    Calls Tryd.prog 18 #[.slice a1 es.length p1, .slice a2 es.length p2] w fun e w' => e = .returned (.bool true) ∧ Below w.heap.size w w' := by
  go_enter Tryd.func18, Tryd.ntmps18
  go_wp2
  go_loopw [5] (fun i wr => ∃ k : Nat, k ≤ es.length ∧ i = .int .i64 k ∧ Below w.heap.size w wr) (fun i _ => es.length - (intOf i).toNat)
  case atStart => exact ⟨0, Nat.zero_le _, rfl, Below.refl _ _⟩
  case round =>
    obtain ⟨k, hk, rfl, hb⟩ := hrel
    by_cases hlt : k < es.length
    · rcases h1 with h1 | ⟨b1, o1, rfl, hc1⟩
      · simp [h1] at hlt
      rcases h2 with h2 | ⟨b2, o2, rfl, hc2⟩
      · simp [h2] at hlt
      obtain ⟨q0, q1, q2, q3⟩ := hc1 k hlt
      obtain ⟨r0, r1, r2, r3⟩ := hc2 k hlt
      have p0 := ble hb q0
      have s0 := ble hb r0
      have p1 := ble hb q1
      have s1 := ble hb r1
      have p2 := ble hb q2
      have s2 := ble hb r2
      have p3 := ble hb q3
      have s3 := ble hb r3
      clear hc1 hc2 q0 q1 q2 q3 r0 r1 r2 r3
      go_wp2_with fail
      go_region_with (go_at_call 41; refine (cEqUV es[k] _).mono ?_; rintro e w6 ⟨rfl, hb6⟩; have HB6 := btrans hb (undrew hb6))
      all_goals go_wp2
      all_goals go_roundw
      case rel => exact ⟨k + 1, by omega, by go_num, HB6⟩
      case measure => simp [intOf]; omega
      case rel => exact ⟨k + 1, by omega, by go_num, HB6⟩
      case measure => simp [intOf]; omega
    · go_wp2
      go_ret
      exact ⟨rfl, hb⟩
theorem cEqUsn (n : Nat) (B1 B2 : Nat) (v1 v2 : Value) (es : List UV) (w : World) (h1 : Rw w B1 34 4 v1 n (flatUs es)) (h2 : Rw w B2 34 4 v2 n (flatUs es)) (hl : n ≤ 1048576) :
    Calls Tryd.prog 18 #[v1, v2] w fun e w' => e = .returned (.bool true) ∧ Below w.heap.size w w' := by
  obtain ⟨a1, c1, rfl⟩ := h1.form
  obtain ⟨a2, c2, rfl⟩ := h2.form
  have hn := lenUs h1
  subst hn
  exact cEqUs a1 a2 c1 c2 es w (Us.rw h1) (Us.rw h2) hl

def markUV (k : Int) (i : Nat) : UV := ⟨k + 4 * (i : Int), k + 4 * (i : Int) + 1, k + 4 * (i : Int) + 2, ((k + 4 * (i : Int)) % 3 == 0)⟩
def marksUs (k : Int) (n : Nat) : List UV := (List.range n).map (markUV k)
theorem marksUs_len (k : Int) (n : Nat) : (marksUs k n).length = n := by simp [marksUs]
theorem marksUs_succ (k : Int) (n : Nat) : marksUs k (n + 1) = marksUs k n ++ [markUV k n] := by simp [marksUs, List.range_succ]
theorem marksUs_get (k : Int) (n i : Nat) (h : i < n) : (marksUs k n).getD i UV.zero = markUV k i := by simp [marksUs, List.getD, h]
theorem markUs_step (es : List UV) (k : Int) (i : Nat) (hi : i < es.length) :
    ((((flatUs (marksUs k i ++ es.drop i)).set (i * 4) (.int .i64 (k + 4 * (i : Int)))).set (i * 4 + 1) (.int .i64 (k + 4 * (i : Int) + 1))).set (i * 4 + 2) (.int .i64 (k + 4 * (i : Int) + 2))).set (i * 4 + 3) (.bool (((k + 4 * (i : Int)) % 3 == 0))) = flatUs (marksUs k (i + 1) ++ es.drop (i + 1)) := by
  rw [List.drop_eq_getElem_cons hi, set_flatUs _ _ _ _ _ _ _ i (marksUs_len k i).symm, marksUs_succ, List.append_assoc]
  rfl

set_option maxHeartbeats 3200000 in
theorem cMarkUsg (B g cap : Nat) (es : List UV) (k : Int) (w : World) (ho : w.ownsRow B 34 4 (.slice (some ⟨g, 0, none⟩) es.length cap) es.length (flatUs es)) (hl : es.length ≤ 1048576) (hk0 : 0 ≤ k) (hk1 : k ≤ 10000000) :
    Calls Tryd.prog 19 #[.slice (some ⟨g, 0, none⟩) es.length cap, .int .i64 k] w fun e w' => e = .returned (.int .i64 (k + 4 * es.length)) ∧
      w'.ownsRow B 34 4 (.slice (some ⟨g, 0, none⟩) es.length cap) es.length (flatUs (marksUs k es.length)) ∧ w.grownBy w' (some g) := by
  go_enter Tryd.func19, Tryd.ntmps19
  go_wp2
  go_loopw [1, 5] (fun kk i wr => ∃ j : Nat, j ≤ es.length ∧ i = .int .i64 j ∧ kk = .int .i64 (k + 4 * j) ∧ wr.ownsRow B 34 4 (.slice (some ⟨g, 0, none⟩) es.length cap) es.length (flatUs (marksUs k j ++ es.drop j)) ∧ w.grownBy wr (some g)) (fun _ i _ => es.length - (intOf i).toNat)
  case atStart => exact ⟨0, Nat.zero_le _, rfl, by simp, by simpa [marksUs] using ho, World.grownBy.refl _ _⟩
  case round =>
    obtain ⟨j, hj, rfl, rfl, hown, hg⟩ := hrel
    by_cases hlt : j < es.length
    · have hlen : (marksUs k j ++ es.drop j).length = es.length := by rw [List.length_append, marksUs_len, List.length_drop]; omega
      obtain ⟨y0, y1, y2, y3⟩ := flatUs_get (marksUs k j ++ es.drop j) j (by omega)
      have f0 := hown.frozenAt (j * 4)
      have z0 := (hown.cellAt (j * 4) (by omega)).trans y0
      have f1 := hown.frozenAt (j * 4 + 1)
      have z1 := (hown.cellAt (j * 4 + 1) (by omega)).trans y1
      have f2 := hown.frozenAt (j * 4 + 2)
      have z2 := (hown.cellAt (j * 4 + 2) (by omega)).trans y2
      have f3 := hown.frozenAt (j * 4 + 3)
      have z3 := (hown.cellAt (j * 4 + 3) (by omega)).trans y3
      generalize (marksUs k j ++ es.drop j).getD j UV.zero = E at z0 z1 z2 z3
      clear y0 y1 y2 y3
      obtain ⟨s1, t1⟩ := hown.stored (j * 4) (.int .i64 (k + 4 * (j : Int)))
      obtain ⟨s2, t2⟩ := s1.stored (j * 4 + 1) (.int .i64 (k + 4 * (j : Int) + 1))
      obtain ⟨s3, t3⟩ := s2.stored (j * 4 + 2) (.int .i64 (k + 4 * (j : Int) + 2))
      obtain ⟨s4, t4⟩ := s3.stored (j * 4 + 3) (.bool (((k + 4 * (j : Int)) % 3 == 0)))
      rw [markUs_step es k j hlt] at s4
      have hg' := gtrans hg (gtrans t1 (gtrans t2 (gtrans t3 (t4))))
      have w1 : IntKind.i64.wrap (k + 4 * (j : Int) + 1) = k + 4 * (j : Int) + 1 := (wrap_in _ (by omega) (by omega)).trans (by omega)
      have w2 : IntKind.i64.wrap (k + 4 * (j : Int) + 1 + 1) = k + 4 * (j : Int) + 2 := (wrap_in _ (by omega) (by omega)).trans (by omega)
      have w3 : IntKind.i64.wrap (k + 4 * (j : Int) + 2 + 1) = k + 4 * (j : Int) + 3 := (wrap_in _ (by omega) (by omega)).trans (by omega)
      have w4 : IntKind.i64.wrap (k + 4 * (j : Int) + 3 + 1) = k + 4 * ((j : Int) + 1) := (wrap_in _ (by omega) (by omega)).trans (by omega)
      clear hown s1 s2 s3 t1 t2 t3 t4 hg hlen
      go_wp2
      exact ⟨⟨j + 1, by omega, by go_num, by go_num, s4, hg'⟩, by simp [intOf]; omega⟩
    · have hjj : j = es.length := by omega
      subst hjj
      have hown2 : wr.ownsRow B 34 4 (.slice (some ⟨g, 0, none⟩) es.length cap) es.length (flatUs (marksUs k es.length)) := by simpa using hown
      clear hown
      go_wp2
      go_ret
      exact ⟨rfl, hown2, hg⟩

set_option maxHeartbeats 800000 in
/-- A mark on a row that is owned, or is nothing: it grows by a block of the row, if at all. -/
theorem cMarkUs (B n : Nat) (v : Value) (es : List UV) (k : Int) (w : World) (ho : Rw w B 34 4 v n (flatUs es)) (hl : n ≤ 1048576) (hk0 : 0 ≤ k) (hk1 : k ≤ 10000000) :
    Calls Tryd.prog 19 #[v, .int .i64 k] w fun e w' => e = .returned (.int .i64 (k + 4 * n)) ∧
      Rw w' B 34 4 v n (flatUs (marksUs k n)) ∧ ∃ r, w.grownBy w' r ∧ ∀ j, r = some j → B ≤ j ∧ v.ownBlock = some j := by
  have hn := lenUs ho
  subst hn
  by_cases h0 : es.length = 0
  · obtain ⟨a, c, rfl⟩ := ho.form
    have hx : es = [] := List.length_eq_zero_iff.1 h0
    subst hx
    clear h0
    go_enter Tryd.func19, Tryd.ntmps19
    go_wp2
    go_loop [1, 5] (fun kk i => i = .int .i64 0 ∧ kk = .int .i64 k) (fun _ _ => 0)
    case atStart => exact ⟨rfl, rfl⟩
    case round =>
      obtain ⟨rfl, rfl⟩ := hrel
      go_wp2
      go_ret
      exact ⟨by simp, by simpa [marksUs] using ho, none, World.grownBy.refl _ _, fun j h => by cases h⟩
  · rcases ho with ho | ⟨h1, _⟩
    · rcases ho.2 with ⟨_, h1⟩ | ⟨g, cap, cur, rfl, hB, _⟩
      · omega
      · refine (cMarkUsg B g cap es k w ho hl hk0 hk1).mono ?_
        rintro e w' ⟨rfl, h2, h3⟩
        exact ⟨rfl, .inl h2, some g, h3, fun j h => by cases h; exact ⟨hB, rfl⟩⟩
    · omega

set_option maxHeartbeats 3200000 in
theorem cHeldUsa (ao : Option Addr) (n cap : Nat) (k : Int) (w : World) (he : Us w ao (marksUs k n)) (hl : n ≤ 1048576) (hk0 : 0 ≤ k) (hk1 : k ≤ 10000000) :
    Calls Tryd.prog 20 #[.slice ao n cap, .int .i64 k] w fun e w' => e = .returned (.int .i64 (k + 4 * n)) ∧ w' = w := by
  go_enter Tryd.func20, Tryd.ntmps20
  go_wp2
  go_loop [1, 5] (fun kk i => ∃ j : Nat, j ≤ n ∧ i = .int .i64 j ∧ kk = .int .i64 (k + 4 * j)) (fun _ i => n - (intOf i).toNat)
  case atStart => exact ⟨0, Nat.zero_le _, rfl, by simp⟩
  case round =>
    obtain ⟨j, hj, rfl, rfl⟩ := hrel
    by_cases hlt : j < n
    · rcases he with he | ⟨b, off, rfl, hc⟩
      · have := marksUs_len k n; rw [he] at this; simp at this; omega
      obtain ⟨p0, p1, p2, p3⟩ := hc j (by rw [marksUs_len]; exact hlt)
      rw [marksUs_get k n j hlt] at p0 p1 p2 p3
      simp only [markUV] at p0 p1 p2 p3
      have w1 : IntKind.i64.wrap (k + 4 * (j : Int) + 1) = k + 4 * (j : Int) + 1 := (wrap_in _ (by omega) (by omega)).trans (by omega)
      have w2 : IntKind.i64.wrap (k + 4 * (j : Int) + 1 + 1) = k + 4 * (j : Int) + 2 := (wrap_in _ (by omega) (by omega)).trans (by omega)
      have w3 : IntKind.i64.wrap (k + 4 * (j : Int) + 2 + 1) = k + 4 * (j : Int) + 3 := (wrap_in _ (by omega) (by omega)).trans (by omega)
      have w4 : IntKind.i64.wrap (k + 4 * (j : Int) + 3 + 1) = k + 4 * ((j : Int) + 1) := (wrap_in _ (by omega) (by omega)).trans (by omega)
      clear hc
      go_wp2
      exact ⟨⟨j + 1, by omega, by go_num, by go_num⟩, by simp [intOf]; omega⟩
    · have hjj : j = n := by omega
      subst hjj
      clear he
      go_wp2
      go_ret
      exact ⟨rfl, rfl⟩
theorem cHeldUs (B n : Nat) (v : Value) (k : Int) (w : World) (ho : Rw w B 34 4 v n (flatUs (marksUs k n))) (hl : n ≤ 1048576) (hk0 : 0 ≤ k) (hk1 : k ≤ 10000000) :
    Calls Tryd.prog 20 #[v, .int .i64 k] w fun e w' => e = .returned (.int .i64 (k + 4 * n)) ∧ w' = w := by
  obtain ⟨a, c, rfl⟩ := ho.form
  exact cHeldUsa a n c k w (Us.rw ho) hl hk0 hk1
end Go.Proofs.YtnddhpdhbmbikaaDoor
