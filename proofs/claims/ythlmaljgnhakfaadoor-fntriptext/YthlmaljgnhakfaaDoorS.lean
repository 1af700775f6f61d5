/- Slices of calls: copied, compared, marked. -/
import Derived.Test.YthlmaljgnhakfaaDoorA
import Derived.Deep.RegionWith
namespace Go.Proofs.YthlmaljgnhakfaaDoor
open Go.RowKit
structure HaltV where
  n : Int
  a : Int
  d : Int
  deriving DecidableEq
def HaltV.zero : HaltV := ⟨0, 0, 0⟩
def HaltV.val (e : HaltV) : Value := .agg #[.int .i64 e.n, .int .i64 e.a, .int .i64 e.d]
def HaltV.vs (e : HaltV) : List Value := [.int .i64 e.n, .int .i64 e.a, .int .i64 e.d]
def flatHalts (es : List HaltV) : List Value := es.flatMap HaltV.vs
theorem flatHalts_cons (e : HaltV) (es : List HaltV) : flatHalts (e :: es) = .int .i64 e.n :: .int .i64 e.a :: .int .i64 e.d :: flatHalts es := rfl
theorem flatHalts_len (es : List HaltV) : (flatHalts es).length = es.length * 3 := by
  induction es with
  | nil => rfl
  | cons e es ih => rw [flatHalts_cons]; simp only [List.length_cons, ih]; omega
theorem flatHalts_app (xs ys : List HaltV) : flatHalts (xs ++ ys) = flatHalts xs ++ flatHalts ys := by simp [flatHalts]
theorem flatHalts_get (es : List HaltV) : ∀ i, i < es.length → (flatHalts es)[i * 3]? = some (.int .i64 (es.getD i HaltV.zero).n) ∧ (flatHalts es)[i * 3 + 1]? = some (.int .i64 (es.getD i HaltV.zero).a) ∧ (flatHalts es)[i * 3 + 2]? = some (.int .i64 (es.getD i HaltV.zero).d) := by
  induction es with
  | nil => intro i hi; simp at hi
  | cons e es ih =>
    intro i hi
    rw [flatHalts_cons]
    cases i with
    | zero => simp
    | succ i =>
      have h := ih i (by simpa using hi)
      have e1 : (i + 1) * 3 = i * 3 + 1 + 1 + 1 := by omega
      rw [e1]
      simpa using h
/-- The cells behind a slice's address hold the structs es. -/
def Halts (w : World) (a : Option Addr) (es : List HaltV) : Prop :=
  es = [] ∨ ∃ b off, a = some ⟨b, off, none⟩ ∧ ∀ i, i < es.length → w.cell? ⟨b, off + i * 3, none⟩ = some (.int .i64 (es.getD i HaltV.zero).n) ∧ w.cell? ⟨b, off + i * 3 + 1, none⟩ = some (.int .i64 (es.getD i HaltV.zero).a) ∧ w.cell? ⟨b, off + i * 3 + 2, none⟩ = some (.int .i64 (es.getD i HaltV.zero).d)
theorem Halts.below {w w' : World} {a : Option Addr} {es : List HaltV} (h : Halts w a es) (hb : Below w.heap.size w w') : Halts w' a es := by
  rcases h with h | ⟨b, off, ha, hc⟩
  · exact .inl h
  · exact .inr ⟨b, off, ha, fun i hi => ⟨ble hb (hc i hi).1, ble hb (hc i hi).2.1, ble hb (hc i hi).2.2⟩⟩
theorem Halts.of_owns {w : World} {base g n cap : Nat} {es : List HaltV} (h : w.ownsRow base 36 3 (.slice (some ⟨g, 0, none⟩) n cap) n (flatHalts es)) : Halts w (some ⟨g, 0, none⟩) es := by
  refine .inr ⟨g, 0, rfl, fun i hi => ?_⟩
  have hl := h.1
  rw [flatHalts_len] at hl
  obtain ⟨f0, f1, f2⟩ := flatHalts_get es i hi
  refine ⟨?_, ?_, ?_⟩
  · rw [Nat.zero_add, h.cellAt _ (by omega)]; exact f0
  · rw [Nat.zero_add, h.cellAt _ (by omega)]; exact f1
  · rw [Nat.zero_add, h.cellAt _ (by omega)]; exact f2
theorem Halts.own {w : World} {base n c : Nat} {a : Option Addr} {es : List HaltV} (h : w.ownsRow base 36 3 (.slice a n c) n (flatHalts es)) : Halts w a es := by
  rcases h.2 with ⟨_, h0⟩ | ⟨g, cap', cur, he, _⟩
  · left
    have hl := h.1
    rw [flatHalts_len, h0] at hl
    exact List.length_eq_zero_iff.1 (by omega)
  · simp only [Value.slice.injEq] at he
    obtain ⟨rfl, _, rfl⟩ := he
    exact Halts.of_owns h
theorem Halts.rw {w : World} {base n c : Nat} {a : Option Addr} {es : List HaltV} (h : Rw w base 36 3 (.slice a n c) n (flatHalts es)) : Halts w a es := by
  rcases h with h | ⟨h0, h1, _⟩
  · exact Halts.own h
  · left
    have := flatHalts_len es
    rw [h1] at this
    simp at this
    exact List.length_eq_zero_iff.1 (by omega)
theorem lenHalts {w : World} {base n : Nat} {v : Value} {es : List HaltV} (h : Rw w base 36 3 v n (flatHalts es)) : es.length = n := by
  have := h.len
  rw [flatHalts_len] at this
  omega
theorem infoHalts : (Tryd.prog.info? 36).map (fun i => (i.zero, i.size, i.bytes)) = some (some (.agg #[.int .i64 0, .int .i64 0, .int .i64 0]), 3, 24) := by kernel_rfl
theorem madeHalts (n : Nat) : (madeCells (Value.agg #[.int .i64 0, .int .i64 0, .int .i64 0]).cells (n * 3)).toList = List.replicate (n * 3) (Value.int .i64 0) := by
  apply List.ext_getElem?
  intro j
  by_cases hj : j < n * 3
  · have h4 : j % 3 < 3 := Nat.mod_lt _ (by omega)
    simp only [madeCells, Value.cells]
    generalize hq : j % 3 = q at h4
    match q, h4 with
    | 0, _ => simp [hj, hq]
    | 1, _ => simp [hj, hq]
    | 2, _ => simp [hj, hq]
  · simp [madeCells, hj]
theorem stepHalts (es : List HaltV) (k : Nat) (hk : k < es.length) :
    (((flatHalts (es.take k) ++ List.replicate ((es.length - k) * 3) (Value.int .i64 0)).set (k * 3) (.int .i64 es[k].n)).set (k * 3 + 1) (.int .i64 es[k].a)).set (k * 3 + 2) (.int .i64 es[k].d) =
      flatHalts (es.take (k + 1)) ++ List.replicate ((es.length - (k + 1)) * 3) (Value.int .i64 0) := by
  have e1 : (es.length - k) * 3 = (es.length - (k + 1)) * 3 + 1 + 1 + 1 := by omega
  have e2 : (flatHalts (es.take k)).length = k * 3 := by rw [flatHalts_len]; simp; omega
  rw [List.set_append_right _ _ (by omega), List.set_append_right _ _ (by omega), List.set_append_right _ _ (by omega), e2, e1,
    List.replicate_succ, List.replicate_succ, List.replicate_succ, List.take_succ_eq_append_getElem hk, flatHalts_app]
  have a0 : k * 3 - k * 3 = 0 := by omega
  have a1 : k * 3 + 1 - k * 3 = 1 := by omega
  have a2 : k * 3 + 2 - k * 3 = 2 := by omega
  rw [a0, a1, a2]
  simp [flatHalts, HaltV.vs]
theorem set_flatHalts (xs ys : List HaltV) (e : HaltV) (x0 x1 x2 : Int) (q : Nat) (hq : q = xs.length) :
    (((flatHalts (xs ++ e :: ys)).set (q * 3) (.int .i64 x0)).set (q * 3 + 1) (.int .i64 x1)).set (q * 3 + 2) (.int .i64 x2) = flatHalts (xs ++ ⟨x0, x1, x2⟩ :: ys) := by
  have e2 : (flatHalts xs).length = q * 3 := by rw [flatHalts_len, hq]
  rw [flatHalts_app, flatHalts_app, flatHalts_cons, flatHalts_cons, List.set_append_right _ _ (by omega), List.set_append_right _ _ (by omega), List.set_append_right _ _ (by omega), e2]
  have a0 : q * 3 - q * 3 = 0 := by omega
  have a1 : q * 3 + 1 - q * 3 = 1 := by omega
  have a2 : q * 3 + 2 - q * 3 = 2 := by omega
  rw [a0, a1, a2]
  simp

set_option maxHeartbeats 800000 in
theorem cEqHaltV (e : HaltV) (w : World) : Calls Tryd.prog 56 #[e.val, e.val] w fun r w' => r = .returned (.bool true) ∧ Below w.heap.size w w' := by
  obtain ⟨x0, x1, x2⟩ := e
  unfold HaltV.val
  have hW := btrans (balloc w (.cells #[.int .i64 x0, .int .i64 x1, .int .i64 x2] 36)) (balloc _ (.cells #[.int .i64 x0, .int .i64 x1, .int .i64 x2] 36))
  go_enter Tryd.func56, Tryd.ntmps56
  go_wp2
  go_ret
  exact ⟨rfl, hW⟩

set_option maxHeartbeats 1600000 in
theorem cEqHalts (a1 a2 : Option Addr) (p1 p2 : Nat) (es : List HaltV) (w : World) (h1 : Halts w a1 es) (h2 : Halts w a2 es) (hl : es.length ≤ 1048576) :
    Calls Tryd.prog 35 #[.slice a1 es.length p1, .slice a2 es.length p2] w fun e w' => e = .returned (.bool true) ∧ Below w.heap.size w w' := by
  go_enter Tryd.func35, Tryd.ntmps35
  go_wp2
  go_loopw [5] (fun i wr => ∃ k : Nat, k ≤ es.length ∧ i = .int .i64 k ∧ Below w.heap.size w wr) (fun i _ => es.length - (intOf i).toNat)
  case atStart => exact ⟨0, Nat.zero_le _, rfl, Below.refl _ _⟩
  case round =>
    obtain ⟨k, hk, rfl, hb⟩ := hrel
    by_cases hlt : k < es.length
    · rcases h1 with h1 | ⟨b1, o1, rfl, hc1⟩
      · simp [h1] at hlt
      rcases h2 with h2 | ⟨b2, o2, rfl, hc2⟩
      · simp [h2] at hlt
      obtain ⟨q0, q1, q2⟩ := hc1 k hlt
      obtain ⟨r0, r1, r2⟩ := hc2 k hlt
      have p0 := ble hb q0
      have s0 := ble hb r0
      have p1 := ble hb q1
      have s1 := ble hb r1
      have p2 := ble hb q2
      have s2 := ble hb r2
      clear hc1 hc2 q0 q1 q2 r0 r1 r2
      go_wp2_with fail
      go_region_with (go_at_call 56; refine (cEqHaltV es[k] _).mono ?_; rintro e w6 ⟨rfl, hb6⟩; have HB6 := btrans hb (undrew hb6))
      all_goals go_wp2
      all_goals go_roundw
      case rel => exact ⟨k + 1, by omega, by go_num, HB6⟩
      case measure => simp [intOf]; omega
      case rel => exact ⟨k + 1, by omega, by go_num, HB6⟩
      case measure => simp [intOf]; omega
    · go_wp2
      go_ret
      exact ⟨rfl, hb⟩
theorem cEqHaltsn (n : Nat) (B1 B2 : Nat) (v1 v2 : Value) (es : List HaltV) (w : World) (h1 : Rw w B1 36 3 v1 n (flatHalts es)) (h2 : Rw w B2 36 3 v2 n (flatHalts es)) (hl : n ≤ 1048576) :
    Calls Tryd.prog 35 #[v1, v2] w fun e w' => e = .returned (.bool true) ∧ Below w.heap.size w w' := by
  obtain ⟨a1, c1, rfl⟩ := h1.form
  obtain ⟨a2, c2, rfl⟩ := h2.form
  have hn := lenHalts h1
  subst hn
  exact cEqHalts a1 a2 c1 c2 es w (Halts.rw h1) (Halts.rw h2) hl

def markHaltV (k : Int) (i : Nat) : HaltV := ⟨k + 3 * i, k + 3 * i + 1, k + 3 * i + 2⟩
def marksHalts (k : Int) (n : Nat) : List HaltV := (List.range n).map (markHaltV k)
theorem marksHalts_len (k : Int) (n : Nat) : (marksHalts k n).length = n := by simp [marksHalts]
theorem marksHalts_succ (k : Int) (n : Nat) : marksHalts k (n + 1) = marksHalts k n ++ [markHaltV k n] := by simp [marksHalts, List.range_succ]
theorem marksHalts_get (k : Int) (n i : Nat) (h : i < n) : (marksHalts k n).getD i HaltV.zero = markHaltV k i := by simp [marksHalts, List.getD, h]
theorem markHalts_step (es : List HaltV) (k : Int) (i : Nat) (hi : i < es.length) :
    (((flatHalts (marksHalts k i ++ es.drop i)).set (i * 3) (.int .i64 (k + 3 * i))).set (i * 3 + 1) (.int .i64 (k + 3 * i + 1))).set (i * 3 + 2) (.int .i64 (k + 3 * i + 2)) = flatHalts (marksHalts k (i + 1) ++ es.drop (i + 1)) := by
  rw [List.drop_eq_getElem_cons hi, set_flatHalts _ _ _ _ _ _ i (marksHalts_len k i).symm, marksHalts_succ, List.append_assoc]
  rfl

set_option maxHeartbeats 3200000 in
theorem cMarkHaltsg (B g cap : Nat) (es : List HaltV) (k : Int) (w : World) (ho : w.ownsRow B 36 3 (.slice (some ⟨g, 0, none⟩) es.length cap) es.length (flatHalts es)) (hl : es.length ≤ 1048576) (hk0 : 0 ≤ k) (hk1 : k ≤ 10000000) :
    Calls Tryd.prog 36 #[.slice (some ⟨g, 0, none⟩) es.length cap, .int .i64 k] w fun e w' => e = .returned (.int .i64 (k + 3 * es.length)) ∧
      w'.ownsRow B 36 3 (.slice (some ⟨g, 0, none⟩) es.length cap) es.length (flatHalts (marksHalts k es.length)) ∧ w.grownBy w' (some g) := by
  go_enter Tryd.func36, Tryd.ntmps36
  go_wp2
  go_loopw [1, 5] (fun kk i wr => ∃ j : Nat, j ≤ es.length ∧ i = .int .i64 j ∧ kk = .int .i64 (k + 3 * j) ∧ wr.ownsRow B 36 3 (.slice (some ⟨g, 0, none⟩) es.length cap) es.length (flatHalts (marksHalts k j ++ es.drop j)) ∧ w.grownBy wr (some g)) (fun _ i _ => es.length - (intOf i).toNat)
  case atStart => exact ⟨0, Nat.zero_le _, rfl, by simp, by simpa [marksHalts] using ho, World.grownBy.refl _ _⟩
  case round =>
    obtain ⟨j, hj, rfl, rfl, hown, hg⟩ := hrel
    by_cases hlt : j < es.length
    · have hlen : (marksHalts k j ++ es.drop j).length = es.length := by rw [List.length_append, marksHalts_len, List.length_drop]; omega
      obtain ⟨y0, y1, y2⟩ := flatHalts_get (marksHalts k j ++ es.drop j) j (by omega)
      have f0 := hown.frozenAt (j * 3)
      have z0 := (hown.cellAt (j * 3) (by omega)).trans y0
      have f1 := hown.frozenAt (j * 3 + 1)
      have z1 := (hown.cellAt (j * 3 + 1) (by omega)).trans y1
      have f2 := hown.frozenAt (j * 3 + 2)
      have z2 := (hown.cellAt (j * 3 + 2) (by omega)).trans y2
      generalize (marksHalts k j ++ es.drop j).getD j HaltV.zero = E at z0 z1 z2
      clear y0 y1 y2
      obtain ⟨s1, t1⟩ := hown.stored (j * 3) (.int .i64 (k + 3 * j))
      obtain ⟨s2, t2⟩ := s1.stored (j * 3 + 1) (.int .i64 (k + 3 * j + 1))
      obtain ⟨s3, t3⟩ := s2.stored (j * 3 + 2) (.int .i64 (k + 3 * j + 2))
      rw [markHalts_step es k j hlt] at s3
      have hg' := gtrans hg (gtrans t1 (gtrans t2 (t3)))
      have w1 : IntKind.i64.wrap (k + 3 * (j : Int) + 1) = k + 3 * (j : Int) + 1 := (wrap_in _ (by omega) (by omega)).trans (by omega)
      have w2 : IntKind.i64.wrap (k + 3 * (j : Int) + 1 + 1) = k + 3 * (j : Int) + 2 := (wrap_in _ (by omega) (by omega)).trans (by omega)
      have w3 : IntKind.i64.wrap (k + 3 * (j : Int) + 2 + 1) = k + 3 * ((j : Int) + 1) := (wrap_in _ (by omega) (by omega)).trans (by omega)
      clear hown s1 s2 t1 t2 t3 hg hlen
      go_wp2
      exact ⟨⟨j + 1, by omega, by go_num, by go_num, s3, hg'⟩, by simp [intOf]; omega⟩
    · have hjj : j = es.length := by omega
      subst hjj
      have hown2 : wr.ownsRow B 36 3 (.slice (some ⟨g, 0, none⟩) es.length cap) es.length (flatHalts (marksHalts k es.length)) := by simpa using hown
      clear hown
      go_wp2
      go_ret
      exact ⟨rfl, hown2, hg⟩

set_option maxHeartbeats 800000 in
/-- A mark on a row that is owned, or is nothing: it grows by a block of the row, if at all. -/
theorem cMarkHalts (B n : Nat) (v : Value) (es : List HaltV) (k : Int) (w : World) (ho : Rw w B 36 3 v n (flatHalts es)) (hl : n ≤ 1048576) (hk0 : 0 ≤ k) (hk1 : k ≤ 10000000) :
    Calls Tryd.prog 36 #[v, .int .i64 k] w fun e w' => e = .returned (.int .i64 (k + 3 * n)) ∧
      Rw w' B 36 3 v n (flatHalts (marksHalts k n)) ∧ ∃ r, w.grownBy w' r ∧ ∀ j, r = some j → B ≤ j ∧ v.ownBlock = some j := by
  have hn := lenHalts ho
  subst hn
  by_cases h0 : es.length = 0
  · obtain ⟨a, c, rfl⟩ := ho.form
    have hx : es = [] := List.length_eq_zero_iff.1 h0
    subst hx
    clear h0
    go_enter Tryd.func36, Tryd.ntmps36
    go_wp2
    go_loop [1, 5] (fun kk i => i = .int .i64 0 ∧ kk = .int .i64 k) (fun _ _ => 0)
    case atStart => exact ⟨rfl, rfl⟩
    case round =>
      obtain ⟨rfl, rfl⟩ := hrel
      go_wp2
      go_ret
      exact ⟨by simp, by simpa [marksHalts] using ho, none, World.grownBy.refl _ _, fun j h => by cases h⟩
  · rcases ho with ho | ⟨h1, _⟩
    · rcases ho.2 with ⟨_, h1⟩ | ⟨g, cap, cur, rfl, hB, _⟩
      · omega
      · refine (cMarkHaltsg B g cap es k w ho hl hk0 hk1).mono ?_
        rintro e w' ⟨rfl, h2, h3⟩
        exact ⟨rfl, .inl h2, some g, h3, fun j h => by cases h; exact ⟨hB, rfl⟩⟩
    · omega

set_option maxHeartbeats 3200000 in
theorem cHeldHaltsa (ao : Option Addr) (n cap : Nat) (k : Int) (w : World) (he : Halts w ao (marksHalts k n)) (hl : n ≤ 1048576) (hk0 : 0 ≤ k) (hk1 : k ≤ 10000000) :
    Calls Tryd.prog 37 #[.slice ao n cap, .int .i64 k] w fun e w' => e = .returned (.int .i64 (k + 3 * n)) ∧ w' = w := by
  go_enter Tryd.func37, Tryd.ntmps37
  go_wp2
  go_loop [1, 5] (fun kk i => ∃ j : Nat, j ≤ n ∧ i = .int .i64 j ∧ kk = .int .i64 (k + 3 * j)) (fun _ i => n - (intOf i).toNat)
  case atStart => exact ⟨0, Nat.zero_le _, rfl, by simp⟩
  case round =>
    obtain ⟨j, hj, rfl, rfl⟩ := hrel
    by_cases hlt : j < n
    · rcases he with he | ⟨b, off, rfl, hc⟩
      · have := marksHalts_len k n; rw [he] at this; simp at this; omega
      obtain ⟨p0, p1, p2⟩ := hc j (by rw [marksHalts_len]; exact hlt)
      rw [marksHalts_get k n j hlt] at p0 p1 p2
      simp only [markHaltV] at p0 p1 p2
      have w1 : IntKind.i64.wrap (k + 3 * (j : Int) + 1) = k + 3 * (j : Int) + 1 := (wrap_in _ (by omega) (by omega)).trans (by omega)
      have w2 : IntKind.i64.wrap (k + 3 * (j : Int) + 1 + 1) = k + 3 * (j : Int) + 2 := (wrap_in _ (by omega) (by omega)).trans (by omega)
      have w3 : IntKind.i64.wrap (k + 3 * (j : Int) + 2 + 1) = k + 3 * ((j : Int) + 1) := (wrap_in _ (by omega) (by omega)).trans (by omega)
      clear hc
      go_wp2
      exact ⟨⟨j + 1, by omega, by go_num, by go_num⟩, by simp [intOf]; omega⟩
    · have hjj : j = n := by omega
      subst hjj
      clear he
      go_wp2
      go_ret
      exact ⟨rfl, rfl⟩
theorem cHeldHalts (B n : Nat) (v : Value) (k : Int) (w : World) (ho : Rw w B 36 3 v n (flatHalts (marksHalts k n))) (hl : n ≤ 1048576) (hk0 : 0 ≤ k) (hk1 : k ≤ 10000000) :
    Calls Tryd.prog 37 #[v, .int .i64 k] w fun e w' => e = .returned (.int .i64 (k + 3 * n)) ∧ w' = w := by
  obtain ⟨a, c, rfl⟩ := ho.form
  exact cHeldHaltsa a n c k w (Halts.rw ho) hl hk0 hk1
end Go.Proofs.YthlmaljgnhakfaaDoor
