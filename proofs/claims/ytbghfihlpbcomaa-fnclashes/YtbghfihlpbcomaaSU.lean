/- Slices of uses: copied, compared, marked. -/
import Derived.Test.YtbghfihlpbcomaaA
import Derived.Deep.RegionWith
namespace Go.Proofs.Ytbghfihlpbcomaa
open Go.RowKit
structure RideV where
  e : Int
  d : Int
  f : Int
  t : Int
  p : Int
  deriving DecidableEq
def RideV.zero : RideV := ⟨0, 0, 0, 0, 0⟩
def RideV.val (e : RideV) : Value := .agg #[.int .i64 e.e, .int .i64 e.d, .int .i64 e.f, .int .i64 e.t, .int .i64 e.p]
def RideV.vs (e : RideV) : List Value := [.int .i64 e.e, .int .i64 e.d, .int .i64 e.f, .int .i64 e.t, .int .i64 e.p]
def flatRides (es : List RideV) : List Value := es.flatMap RideV.vs
theorem flatRides_cons (e : RideV) (es : List RideV) : flatRides (e :: es) = .int .i64 e.e :: .int .i64 e.d :: .int .i64 e.f :: .int .i64 e.t :: .int .i64 e.p :: flatRides es := rfl
theorem flatRides_len (es : List RideV) : (flatRides es).length = es.length * 5 := by
  induction es with
  | nil => rfl
  | cons e es ih => rw [flatRides_cons]; simp only [List.length_cons, ih]; omega
theorem flatRides_app (xs ys : List RideV) : flatRides (xs ++ ys) = flatRides xs ++ flatRides ys := by simp [flatRides]
theorem flatRides_get (es : List RideV) : ∀ i, i < es.length → (flatRides es)[i * 5]? = some (.int .i64 (es.getD i RideV.zero).e) ∧ (flatRides es)[i * 5 + 1]? = some (.int .i64 (es.getD i RideV.zero).d) ∧ (flatRides es)[i * 5 + 2]? = some (.int .i64 (es.getD i RideV.zero).f) ∧ (flatRides es)[i * 5 + 3]? = some (.int .i64 (es.getD i RideV.zero).t) ∧ (flatRides es)[i * 5 + 4]? = some (.int .i64 (es.getD i RideV.zero).p) := by
  induction es with
  | nil => intro i hi; simp at hi
  | cons e es ih =>
    intro i hi
    rw [flatRides_cons]
    cases i with
    | zero => simp
    | succ i =>
      have h := ih i (by simpa using hi)
      have e1 : (i + 1) * 5 = i * 5 + 1 + 1 + 1 + 1 + 1 := by omega
      rw [e1]
      simpa using h
/-- The cells behind a slice's address hold the structs es. -/
def Rides (w : World) (a : Option Addr) (es : List RideV) : Prop :=
  es = [] ∨ ∃ b off, a = some ⟨b, off, none⟩ ∧ ∀ i, i < es.length → w.cell? ⟨b, off + i * 5, none⟩ = some (.int .i64 (es.getD i RideV.zero).e) ∧ w.cell? ⟨b, off + i * 5 + 1, none⟩ = some (.int .i64 (es.getD i RideV.zero).d) ∧ w.cell? ⟨b, off + i * 5 + 2, none⟩ = some (.int .i64 (es.getD i RideV.zero).f) ∧ w.cell? ⟨b, off + i * 5 + 3, none⟩ = some (.int .i64 (es.getD i RideV.zero).t) ∧ w.cell? ⟨b, off + i * 5 + 4, none⟩ = some (.int .i64 (es.getD i RideV.zero).p)
theorem Rides.below {w w' : World} {a : Option Addr} {es : List RideV} (h : Rides w a es) (hb : Below w.heap.size w w') : Rides w' a es := by
  rcases h with h | ⟨b, off, ha, hc⟩
  · exact .inl h
  · exact .inr ⟨b, off, ha, fun i hi => ⟨ble hb (hc i hi).1, ble hb (hc i hi).2.1, ble hb (hc i hi).2.2.1, ble hb (hc i hi).2.2.2.1, ble hb (hc i hi).2.2.2.2⟩⟩
theorem Rides.of_owns {w : World} {base g n cap : Nat} {es : List RideV} (h : w.ownsRow base 41 5 (.slice (some ⟨g, 0, none⟩) n cap) n (flatRides es)) : Rides w (some ⟨g, 0, none⟩) es := by
  refine .inr ⟨g, 0, rfl, fun i hi => ?_⟩
  have hl := h.1
  rw [flatRides_len] at hl
  obtain ⟨f0, f1, f2, f3, f4⟩ := flatRides_get es i hi
  refine ⟨?_, ?_, ?_, ?_, ?_⟩
  · rw [Nat.zero_add, h.cellAt _ (by omega)]; exact f0
  · rw [Nat.zero_add, h.cellAt _ (by omega)]; exact f1
  · rw [Nat.zero_add, h.cellAt _ (by omega)]; exact f2
  · rw [Nat.zero_add, h.cellAt _ (by omega)]; exact f3
  · rw [Nat.zero_add, h.cellAt _ (by omega)]; exact f4
theorem Rides.own {w : World} {base n c : Nat} {a : Option Addr} {es : List RideV} (h : w.ownsRow base 41 5 (.slice a n c) n (flatRides es)) : Rides w a es := by
  rcases h.2 with ⟨_, h0⟩ | ⟨g, cap', cur, he, _⟩
  · left
    have hl := h.1
    rw [flatRides_len, h0] at hl
    exact List.length_eq_zero_iff.1 (by omega)
  · simp only [Value.slice.injEq] at he
    obtain ⟨rfl, _, rfl⟩ := he
    exact Rides.of_owns h
theorem Rides.rw {w : World} {base n c : Nat} {a : Option Addr} {es : List RideV} (h : Rw w base 41 5 (.slice a n c) n (flatRides es)) : Rides w a es := by
  rcases h with h | ⟨h0, h1, _⟩
  · exact Rides.own h
  · left
    have := flatRides_len es
    rw [h1] at this
    simp at this
    exact List.length_eq_zero_iff.1 (by omega)
theorem lenRides {w : World} {base n : Nat} {v : Value} {es : List RideV} (h : Rw w base 41 5 v n (flatRides es)) : es.length = n := by
  have := h.len
  rw [flatRides_len] at this
  omega
theorem infoRides : (Try.prog.info? 41).map (fun i => (i.zero, i.size, i.bytes)) = some (some (.agg #[.int .i64 0, .int .i64 0, .int .i64 0, .int .i64 0, .int .i64 0]), 5, 40) := by kernel_rfl
theorem madeRides (n : Nat) : (madeCells (Value.agg #[.int .i64 0, .int .i64 0, .int .i64 0, .int .i64 0, .int .i64 0]).cells (n * 5)).toList = List.replicate (n * 5) (Value.int .i64 0) := by
  apply List.ext_getElem?
  intro j
  by_cases hj : j < n * 5
  · have h4 : j % 5 < 5 := Nat.mod_lt _ (by omega)
    simp only [madeCells, Value.cells]
    generalize hq : j % 5 = q at h4
    match q, h4 with
    | 0, _ => simp [hj, hq]
    | 1, _ => simp [hj, hq]
    | 2, _ => simp [hj, hq]
    | 3, _ => simp [hj, hq]
    | 4, _ => simp [hj, hq]
  · simp [madeCells, hj]
theorem stepRides (es : List RideV) (k : Nat) (hk : k < es.length) :
    (((((flatRides (es.take k) ++ List.replicate ((es.length - k) * 5) (Value.int .i64 0)).set (k * 5) (.int .i64 es[k].e)).set (k * 5 + 1) (.int .i64 es[k].d)).set (k * 5 + 2) (.int .i64 es[k].f)).set (k * 5 + 3) (.int .i64 es[k].t)).set (k * 5 + 4) (.int .i64 es[k].p) =
      flatRides (es.take (k + 1)) ++ List.replicate ((es.length - (k + 1)) * 5) (Value.int .i64 0) := by
  have e1 : (es.length - k) * 5 = (es.length - (k + 1)) * 5 + 1 + 1 + 1 + 1 + 1 := by omega
  have e2 : (flatRides (es.take k)).length = k * 5 := by rw [flatRides_len]; simp; omega
  rw [List.set_append_right _ _ (by omega), List.set_append_right _ _ (by omega), List.set_append_right _ _ (by omega), List.set_append_right _ _ (by omega), List.set_append_right _ _ (by omega), e2, e1,
    List.replicate_succ, List.replicate_succ, List.replicate_succ, List.replicate_succ, List.replicate_succ, List.take_succ_eq_append_getElem hk, flatRides_app]
  have a0 : k * 5 - k * 5 = 0 := by omega
  have a1 : k * 5 + 1 - k * 5 = 1 := by omega
  have a2 : k * 5 + 2 - k * 5 = 2 := by omega
  have a3 : k * 5 + 3 - k * 5 = 3 := by omega
  have a4 : k * 5 + 4 - k * 5 = 4 := by omega
  rw [a0, a1, a2, a3, a4]
  simp [flatRides, RideV.vs]
theorem set_flatRides (xs ys : List RideV) (e : RideV) (x0 x1 x2 x3 x4 : Int) (q : Nat) (hq : q = xs.length) :
    (((((flatRides (xs ++ e :: ys)).set (q * 5) (.int .i64 x0)).set (q * 5 + 1) (.int .i64 x1)).set (q * 5 + 2) (.int .i64 x2)).set (q * 5 + 3) (.int .i64 x3)).set (q * 5 + 4) (.int .i64 x4) = flatRides (xs ++ ⟨x0, x1, x2, x3, x4⟩ :: ys) := by
  have e2 : (flatRides xs).length = q * 5 := by rw [flatRides_len, hq]
  rw [flatRides_app, flatRides_app, flatRides_cons, flatRides_cons, List.set_append_right _ _ (by omega), List.set_append_right _ _ (by omega), List.set_append_right _ _ (by omega), List.set_append_right _ _ (by omega), List.set_append_right _ _ (by omega), e2]
  have a0 : q * 5 - q * 5 = 0 := by omega
  have a1 : q * 5 + 1 - q * 5 = 1 := by omega
  have a2 : q * 5 + 2 - q * 5 = 2 := by omega
  have a3 : q * 5 + 3 - q * 5 = 3 := by omega
  have a4 : q * 5 + 4 - q * 5 = 4 := by omega
  rw [a0, a1, a2, a3, a4]
  simp

set_option maxHeartbeats 400000 in
theorem cSzRides (a : Option Addr) (n cap : Nat) (left : Int) (w : World) (h0 : 0 ≤ left) (h1 : left ≤ 1048576) (hn : n ≤ maxLen) :
    Calls Try.prog 36 #[.slice a n cap, .int .i64 left] w fun e w' => ∃ r, e = .returned (.int .i64 r) ∧ (r = -1 ∨ (r = left - n ∧ 0 ≤ r)) ∧ w' = w := by
  unfold maxLen at hn
  by_cases hl : left - n < 0
  · go_enter Try.func36, Try.ntmps36
    go_wp2
    go_ret
    exact ⟨_, rfl, .inl rfl, rfl⟩
  · go_enter Try.func36, Try.ntmps36
    go_wp2
    go_ret
    exact ⟨_, rfl, .inr ⟨rfl, by omega⟩, rfl⟩

set_option maxHeartbeats 800000 in
theorem cToRideV (e : RideV) (w : World) : Calls Try.prog 21 #[e.val] w fun r w' => r = .returned e.val ∧ Below w.heap.size w w' := by
  obtain ⟨x0, x1, x2, x3, x4⟩ := e
  unfold RideV.val
  go_enter Try.func21, Try.ntmps21
  go_wp2
  refine bodyPost_ret (v := .agg #[.int .i64 x0, .int .i64 x1, .int .i64 x2, .int .i64 x3, .int .i64 x4]) (by simp [results, Try.results21, go_sem]) rfl ⟨rfl, ?_⟩
  exact btrans (btrans (balloc _ _) (balloc _ _)) (balloc _ _)

set_option maxHeartbeats 800000 in
theorem cToRides (a : Option Addr) (cap : Nat) (es : List RideV) (w : World) (he : Rides w a es) (hl : es.length ≤ 1048576) :
    Calls Try.prog 38 #[.slice a es.length cap] w fun e w' => ∃ g, e = .returned (.slice (some ⟨g, 0, none⟩) es.length es.length) ∧
      w'.ownsRow w.heap.size 41 5 (.slice (some ⟨g, 0, none⟩) es.length es.length) es.length (flatRides es) ∧ g = w.heap.size ∧ Below w.heap.size w w' := by
  obtain ⟨i0, hi, hz0, hz1, hz2⟩ := info_parts infoRides
  go_enter Try.func38, Try.ntmps38
  go_wp2_with (at_make; refine wpList_make_full _ rfl _ _ 31 rfl w.heap.size 41 i0 (.agg #[.int .i64 0, .int .i64 0, .int .i64 0, .int .i64 0, .int .i64 0]) 5 Try.underlying31 hi hz0 hz1 _ _ _ _ es.length rfl rfl rfl rfl (by rw [hz2]; omega) (by unfold maxLen; omega) (Nat.le_refl _) ?_; intro w1 hown hgrow)
  have hown' : w1.ownsRow w.heap.size 41 5 (.slice (some ⟨w.heap.size, 0, none⟩) es.length es.length) es.length (flatRides (es.take 0) ++ List.replicate ((es.length - 0) * 5) (Value.int .i64 0)) := by
    rw [madeRides] at hown
    simpa [flatRides] using hown
  have hbel : Below w.heap.size w w1 := (Below.refl _ _).grown hgrow (Nat.le_refl _) (fun k hk => by cases hk)
  clear hown hgrow
  go_loopw [4] (fun i wr => ∃ k : Nat, k ≤ es.length ∧ i = .int .i64 k ∧ wr.ownsRow w.heap.size 41 5 (.slice (some ⟨w.heap.size, 0, none⟩) es.length es.length) es.length (flatRides (es.take k) ++ List.replicate ((es.length - k) * 5) (Value.int .i64 0)) ∧ Below w.heap.size w wr) (fun i _ => es.length - (intOf i).toNat)
  case atStart => exact ⟨0, Nat.zero_le _, rfl, hown', hbel⟩
  case round =>
    obtain ⟨k, hk, rfl, hown, hb⟩ := hrel
    by_cases hlt : k < es.length
    · rcases he with he | ⟨b, off, rfl, hc⟩
      · simp [he] at hlt
      obtain ⟨q0, q1, q2, q3, q4⟩ := hc k hlt
      have p0 := ble hb q0
      have p1 := ble hb q1
      have p2 := ble hb q2
      have p3 := ble hb q3
      have p4 := ble hb q4
      have hbs := cell_lt q0
      clear hc q0 q1 q2 q3 q4 hbel hown'
      go_wp2_with fail
      refine (cToRideV es[k] _).mono ?_
      rintro e w1 ⟨rfl, hb1⟩
      have HB1 := btrans hb hb1
      have O1 := own_keep hown hb1
      have f0 := O1.frozenAt (k * 5)
      have f1 := O1.frozenAt (k * 5 + 1)
      have f2 := O1.frozenAt (k * 5 + 2)
      have f3 := O1.frozenAt (k * 5 + 3)
      have f4 := O1.frozenAt (k * 5 + 4)
      have z : ∀ j, j < 5 → w1.cell? ⟨w.heap.size, k * 5 + j, none⟩ = some (.int .i64 0) := by
        intro j hj
        rw [O1.cellAt _ (by omega), List.getElem?_append_right (by rw [flatRides_len]; simp; omega)]
        simp [List.getElem?_replicate, flatRides_len]
        omega
      have z0 := z 0 (by omega)
      have z1 := z 1 (by omega)
      have z2 := z 2 (by omega)
      have z3 := z 3 (by omega)
      have z4 := z 4 (by omega)
      have O2 := (((((O1.stored (k * 5) (.int .i64 es[k].e)).1.stored (k * 5 + 1) (.int .i64 es[k].d)).1.stored (k * 5 + 2) (.int .i64 es[k].f)).1.stored (k * 5 + 3) (.int .i64 es[k].t)).1.stored (k * 5 + 4) (.int .i64 es[k].p)).1
      rw [stepRides es k hlt] at O2
      have HB2 := (((((HB1.setCell (p := ⟨w.heap.size, k * 5, none⟩) (Nat.le_refl _) (.int .i64 es[k].e)).setCell (p := ⟨w.heap.size, k * 5 + 1, none⟩) (Nat.le_refl _) (.int .i64 es[k].d)).setCell (p := ⟨w.heap.size, k * 5 + 2, none⟩) (Nat.le_refl _) (.int .i64 es[k].f)).setCell (p := ⟨w.heap.size, k * 5 + 3, none⟩) (Nat.le_refl _) (.int .i64 es[k].t)).setCell (p := ⟨w.heap.size, k * 5 + 4, none⟩) (Nat.le_refl _) (.int .i64 es[k].p))
      clear z O1 hown hb1 hb HB1
      rw [Nat.add_zero] at z0
      unfold RideV.val
      go_wp2
      go_roundw
      case rel => exact ⟨k + 1, by omega, by go_num, O2, HB2⟩
      case measure => simp [intOf]; omega
    · have hkk : k = es.length := by omega
      subst hkk
      have hown2 : wr.ownsRow w.heap.size 41 5 (.slice (some ⟨w.heap.size, 0, none⟩) es.length es.length) es.length (flatRides es) := by simpa [flatRides] using hown
      clear hown hown' hbel he
      go_wp2
      go_ret
      exact ⟨_, rfl, hown2, rfl, hb⟩

set_option maxHeartbeats 800000 in
theorem cEqRideV (e : RideV) (w : World) : Calls Try.prog 60 #[e.val, e.val] w fun r w' => r = .returned (.bool true) ∧ Below w.heap.size w w' := by
  obtain ⟨x0, x1, x2, x3, x4⟩ := e
  unfold RideV.val
  have hW := btrans (balloc w (.cells #[.int .i64 x0, .int .i64 x1, .int .i64 x2, .int .i64 x3, .int .i64 x4] 41)) (balloc _ (.cells #[.int .i64 x0, .int .i64 x1, .int .i64 x2, .int .i64 x3, .int .i64 x4] 41))
  go_enter Try.func60, Try.ntmps60
  go_wp2
  go_ret
  exact ⟨rfl, hW⟩

set_option maxHeartbeats 1600000 in
theorem cEqRides (a1 a2 : Option Addr) (p1 p2 : Nat) (es : List RideV) (w : World) (h1 : Rides w a1 es) (h2 : Rides w a2 es) (hl : es.length ≤ 1048576) :
    Calls Try.prog 31 #[.slice a1 es.length p1, .slice a2 es.length p2] w fun e w' => e = .returned (.bool true) ∧ Below w.heap.size w w' := by
  go_enter Try.func31, Try.ntmps31
  go_wp2
  go_loopw [5] (fun i wr => ∃ k : Nat, k ≤ es.length ∧ i = .int .i64 k ∧ Below w.heap.size w wr) (fun i _ => es.length - (intOf i).toNat)
  case atStart => exact ⟨0, Nat.zero_le _, rfl, Below.refl _ _⟩
  case round =>
    obtain ⟨k, hk, rfl, hb⟩ := hrel
    by_cases hlt : k < es.length
    · rcases h1 with h1 | ⟨b1, o1, rfl, hc1⟩
      · simp [h1] at hlt
      rcases h2 with h2 | ⟨b2, o2, rfl, hc2⟩
      · simp [h2] at hlt
      obtain ⟨q0, q1, q2, q3, q4⟩ := hc1 k hlt
      obtain ⟨r0, r1, r2, r3, r4⟩ := hc2 k hlt
      have p0 := ble hb q0
      have s0 := ble hb r0
      have p1 := ble hb q1
      have s1 := ble hb r1
      have p2 := ble hb q2
      have s2 := ble hb r2
      have p3 := ble hb q3
      have s3 := ble hb r3
      have p4 := ble hb q4
      have s4 := ble hb r4
      clear hc1 hc2 q0 q1 q2 q3 q4 r0 r1 r2 r3 r4
      go_wp2_with fail
      go_region_with (go_at_call 60; refine (cEqRideV es[k] _).mono ?_; rintro e w6 ⟨rfl, hb6⟩; have HB6 := btrans hb (undrew hb6))
      all_goals go_wp2
      all_goals go_roundw
      case rel => exact ⟨k + 1, by omega, by go_num, HB6⟩
      case measure => simp [intOf]; omega
      case rel => exact ⟨k + 1, by omega, by go_num, HB6⟩
      case measure => simp [intOf]; omega
    · go_wp2
      go_ret
      exact ⟨rfl, hb⟩
theorem cEqRidesn (n : Nat) (B1 B2 : Nat) (v1 v2 : Value) (es : List RideV) (w : World) (h1 : Rw w B1 41 5 v1 n (flatRides es)) (h2 : Rw w B2 41 5 v2 n (flatRides es)) (hl : n ≤ 1048576) :
    Calls Try.prog 31 #[v1, v2] w fun e w' => e = .returned (.bool true) ∧ Below w.heap.size w w' := by
  obtain ⟨a1, c1, rfl⟩ := h1.form
  obtain ⟨a2, c2, rfl⟩ := h2.form
  have hn := lenRides h1
  subst hn
  exact cEqRides a1 a2 c1 c2 es w (Rides.rw h1) (Rides.rw h2) hl

def markRideV (k : Int) (i : Nat) : RideV := ⟨k + 5 * i, k + 5 * i + 1, k + 5 * i + 2, k + 5 * i + 3, k + 5 * i + 4⟩
def marksRides (k : Int) (n : Nat) : List RideV := (List.range n).map (markRideV k)
theorem marksRides_len (k : Int) (n : Nat) : (marksRides k n).length = n := by simp [marksRides]
theorem marksRides_succ (k : Int) (n : Nat) : marksRides k (n + 1) = marksRides k n ++ [markRideV k n] := by simp [marksRides, List.range_succ]
theorem marksRides_get (k : Int) (n i : Nat) (h : i < n) : (marksRides k n).getD i RideV.zero = markRideV k i := by simp [marksRides, List.getD, h]
theorem markRides_step (es : List RideV) (k : Int) (i : Nat) (hi : i < es.length) :
    (((((flatRides (marksRides k i ++ es.drop i)).set (i * 5) (.int .i64 (k + 5 * i))).set (i * 5 + 1) (.int .i64 (k + 5 * i + 1))).set (i * 5 + 2) (.int .i64 (k + 5 * i + 2))).set (i * 5 + 3) (.int .i64 (k + 5 * i + 3))).set (i * 5 + 4) (.int .i64 (k + 5 * i + 4)) = flatRides (marksRides k (i + 1) ++ es.drop (i + 1)) := by
  rw [List.drop_eq_getElem_cons hi, set_flatRides _ _ _ _ _ _ _ _ i (marksRides_len k i).symm, marksRides_succ, List.append_assoc]
  rfl

set_option maxHeartbeats 3200000 in
theorem cMarkRidesg (B g cap : Nat) (es : List RideV) (k : Int) (w : World) (ho : w.ownsRow B 41 5 (.slice (some ⟨g, 0, none⟩) es.length cap) es.length (flatRides es)) (hl : es.length ≤ 1048576) (hk0 : 0 ≤ k) (hk1 : k ≤ 10000000) :
    Calls Try.prog 34 #[.slice (some ⟨g, 0, none⟩) es.length cap, .int .i64 k] w fun e w' => e = .returned (.int .i64 (k + 5 * es.length)) ∧
      w'.ownsRow B 41 5 (.slice (some ⟨g, 0, none⟩) es.length cap) es.length (flatRides (marksRides k es.length)) ∧ w.grownBy w' (some g) := by
  go_enter Try.func34, Try.ntmps34
  go_wp2
  go_loopw [1, 5] (fun kk i wr => ∃ j : Nat, j ≤ es.length ∧ i = .int .i64 j ∧ kk = .int .i64 (k + 5 * j) ∧ wr.ownsRow B 41 5 (.slice (some ⟨g, 0, none⟩) es.length cap) es.length (flatRides (marksRides k j ++ es.drop j)) ∧ w.grownBy wr (some g)) (fun _ i _ => es.length - (intOf i).toNat)
  case atStart => exact ⟨0, Nat.zero_le _, rfl, by simp, by simpa [marksRides] using ho, World.grownBy.refl _ _⟩
  case round =>
    obtain ⟨j, hj, rfl, rfl, hown, hg⟩ := hrel
    by_cases hlt : j < es.length
    · have hlen : (marksRides k j ++ es.drop j).length = es.length := by rw [List.length_append, marksRides_len, List.length_drop]; omega
      obtain ⟨y0, y1, y2, y3, y4⟩ := flatRides_get (marksRides k j ++ es.drop j) j (by omega)
      have f0 := hown.frozenAt (j * 5)
      have z0 := (hown.cellAt (j * 5) (by omega)).trans y0
      have f1 := hown.frozenAt (j * 5 + 1)
      have z1 := (hown.cellAt (j * 5 + 1) (by omega)).trans y1
      have f2 := hown.frozenAt (j * 5 + 2)
      have z2 := (hown.cellAt (j * 5 + 2) (by omega)).trans y2
      have f3 := hown.frozenAt (j * 5 + 3)
      have z3 := (hown.cellAt (j * 5 + 3) (by omega)).trans y3
      have f4 := hown.frozenAt (j * 5 + 4)
      have z4 := (hown.cellAt (j * 5 + 4) (by omega)).trans y4
      generalize (marksRides k j ++ es.drop j).getD j RideV.zero = E at z0 z1 z2 z3 z4
      clear y0 y1 y2 y3 y4
      obtain ⟨s1, t1⟩ := hown.stored (j * 5) (.int .i64 (k + 5 * j))
      obtain ⟨s2, t2⟩ := s1.stored (j * 5 + 1) (.int .i64 (k + 5 * j + 1))
      obtain ⟨s3, t3⟩ := s2.stored (j * 5 + 2) (.int .i64 (k + 5 * j + 2))
      obtain ⟨s4, t4⟩ := s3.stored (j * 5 + 3) (.int .i64 (k + 5 * j + 3))
      obtain ⟨s5, t5⟩ := s4.stored (j * 5 + 4) (.int .i64 (k + 5 * j + 4))
      rw [markRides_step es k j hlt] at s5
      have hg' := gtrans hg (gtrans t1 (gtrans t2 (gtrans t3 (gtrans t4 (t5)))))
      have w1 : IntKind.i64.wrap (k + 5 * (j : Int) + 1) = k + 5 * (j : Int) + 1 := (wrap_in _ (by omega) (by omega)).trans (by omega)
      have w2 : IntKind.i64.wrap (k + 5 * (j : Int) + 1 + 1) = k + 5 * (j : Int) + 2 := (wrap_in _ (by omega) (by omega)).trans (by omega)
      have w3 : IntKind.i64.wrap (k + 5 * (j : Int) + 2 + 1) = k + 5 * (j : Int) + 3 := (wrap_in _ (by omega) (by omega)).trans (by omega)
      have w4 : IntKind.i64.wrap (k + 5 * (j : Int) + 3 + 1) = k + 5 * (j : Int) + 4 := (wrap_in _ (by omega) (by omega)).trans (by omega)
      have w5 : IntKind.i64.wrap (k + 5 * (j : Int) + 4 + 1) = k + 5 * ((j : Int) + 1) := (wrap_in _ (by omega) (by omega)).trans (by omega)
      clear hown s1 s2 s3 s4 t1 t2 t3 t4 t5 hg hlen
      go_wp2
      exact ⟨⟨j + 1, by omega, by go_num, by go_num, s5, hg'⟩, by simp [intOf]; omega⟩
    · have hjj : j = es.length := by omega
      subst hjj
      have hown2 : wr.ownsRow B 41 5 (.slice (some ⟨g, 0, none⟩) es.length cap) es.length (flatRides (marksRides k es.length)) := by simpa using hown
      clear hown
      go_wp2
      go_ret
      exact ⟨rfl, hown2, hg⟩

set_option maxHeartbeats 800000 in
/-- A mark on a row that is owned, or is nothing: it grows by a block of the row, if at all. -/
theorem cMarkRides (B n : Nat) (v : Value) (es : List RideV) (k : Int) (w : World) (ho : Rw w B 41 5 v n (flatRides es)) (hl : n ≤ 1048576) (hk0 : 0 ≤ k) (hk1 : k ≤ 10000000) :
    Calls Try.prog 34 #[v, .int .i64 k] w fun e w' => e = .returned (.int .i64 (k + 5 * n)) ∧
      Rw w' B 41 5 v n (flatRides (marksRides k n)) ∧ ∃ r, w.grownBy w' r ∧ ∀ j, r = some j → B ≤ j ∧ v.ownBlock = some j := by
  have hn := lenRides ho
  subst hn
  by_cases h0 : es.length = 0
  · obtain ⟨a, c, rfl⟩ := ho.form
    have hx : es = [] := List.length_eq_zero_iff.1 h0
    subst hx
    clear h0
    go_enter Try.func34, Try.ntmps34
    go_wp2
    go_loop [1, 5] (fun kk i => i = .int .i64 0 ∧ kk = .int .i64 k) (fun _ _ => 0)
    case atStart => exact ⟨rfl, rfl⟩
    case round =>
      obtain ⟨rfl, rfl⟩ := hrel
      go_wp2
      go_ret
      exact ⟨by simp, by simpa [marksRides] using ho, none, World.grownBy.refl _ _, fun j h => by cases h⟩
  · rcases ho with ho | ⟨h1, _⟩
    · rcases ho.2 with ⟨_, h1⟩ | ⟨g, cap, cur, rfl, hB, _⟩
      · omega
      · refine (cMarkRidesg B g cap es k w ho hl hk0 hk1).mono ?_
        rintro e w' ⟨rfl, h2, h3⟩
        exact ⟨rfl, .inl h2, some g, h3, fun j h => by cases h; exact ⟨hB, rfl⟩⟩
    · omega

set_option maxHeartbeats 3200000 in
theorem cHeldRidesa (ao : Option Addr) (n cap : Nat) (k : Int) (w : World) (he : Rides w ao (marksRides k n)) (hl : n ≤ 1048576) (hk0 : 0 ≤ k) (hk1 : k ≤ 10000000) :
    Calls Try.prog 35 #[.slice ao n cap, .int .i64 k] w fun e w' => e = .returned (.int .i64 (k + 5 * n)) ∧ w' = w := by
  go_enter Try.func35, Try.ntmps35
  go_wp2
  go_loop [1, 5] (fun kk i => ∃ j : Nat, j ≤ n ∧ i = .int .i64 j ∧ kk = .int .i64 (k + 5 * j)) (fun _ i => n - (intOf i).toNat)
  case atStart => exact ⟨0, Nat.zero_le _, rfl, by simp⟩
  case round =>
    obtain ⟨j, hj, rfl, rfl⟩ := hrel
    by_cases hlt : j < n
    · rcases he with he | ⟨b, off, rfl, hc⟩
      · have := marksRides_len k n; rw [he] at this; simp at this; omega
      obtain ⟨p0, p1, p2, p3, p4⟩ := hc j (by rw [marksRides_len]; exact hlt)
      rw [marksRides_get k n j hlt] at p0 p1 p2 p3 p4
      simp only [markRideV] at p0 p1 p2 p3 p4
      have w1 : IntKind.i64.wrap (k + 5 * (j : Int) + 1) = k + 5 * (j : Int) + 1 := (wrap_in _ (by omega) (by omega)).trans (by omega)
      have w2 : IntKind.i64.wrap (k + 5 * (j : Int) + 1 + 1) = k + 5 * (j : Int) + 2 := (wrap_in _ (by omega) (by omega)).trans (by omega)
      have w3 : IntKind.i64.wrap (k + 5 * (j : Int) + 2 + 1) = k + 5 * (j : Int) + 3 := (wrap_in _ (by omega) (by omega)).trans (by omega)
      have w4 : IntKind.i64.wrap (k + 5 * (j : Int) + 3 + 1) = k + 5 * (j : Int) + 4 := (wrap_in _ (by omega) (by omega)).trans (by omega)
      have w5 : IntKind.i64.wrap (k + 5 * (j : Int) + 4 + 1) = k + 5 * ((j : Int) + 1) := (wrap_in _ (by omega) (by omega)).trans (by omega)
      clear hc
      go_wp2
      exact ⟨⟨j + 1, by omega, by go_num, by go_num⟩, by simp [intOf]; omega⟩
    · have hjj : j = n := by omega
      subst hjj
      clear he
      go_wp2
      go_ret
      exact ⟨rfl, rfl⟩
theorem cHeldRides (B n : Nat) (v : Value) (k : Int) (w : World) (ho : Rw w B 41 5 v n (flatRides (marksRides k n))) (hl : n ≤ 1048576) (hk0 : 0 ≤ k) (hk1 : k ≤ 10000000) :
    Calls Try.prog 35 #[v, .int .i64 k] w fun e w' => e = .returned (.int .i64 (k + 5 * n)) ∧ w' = w := by
  obtain ⟨a, c, rfl⟩ := ho.form
  exact cHeldRidesa a n c k w (Rides.rw ho) hl hk0 hk1
end Go.Proofs.Ytbghfihlpbcomaa
