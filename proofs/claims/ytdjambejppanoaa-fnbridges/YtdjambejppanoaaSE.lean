/- Slices of edges: copied, compared, marked. -/
import Derived.Test.YtdjambejppanoaaA
import Derived.Deep.RegionWith
namespace Go.Proofs.Ytdjambejppanoaa
open Go.RowKit
structure EdgeV where
  a : Int
  b : Int
  l : Int
  m : Int
  deriving DecidableEq
def EdgeV.zero : EdgeV := ⟨0, 0, 0, 0⟩
def EdgeV.val (e : EdgeV) : Value := .agg #[.int .i64 e.a, .int .i64 e.b, .int .i64 e.l, .int .i64 e.m]
def EdgeV.vs (e : EdgeV) : List Value := [.int .i64 e.a, .int .i64 e.b, .int .i64 e.l, .int .i64 e.m]
def flatEdges (es : List EdgeV) : List Value := es.flatMap EdgeV.vs
theorem flatEdges_cons (e : EdgeV) (es : List EdgeV) : flatEdges (e :: es) = .int .i64 e.a :: .int .i64 e.b :: .int .i64 e.l :: .int .i64 e.m :: flatEdges es := rfl
theorem flatEdges_len (es : List EdgeV) : (flatEdges es).length = es.length * 4 := by
  induction es with
  | nil => rfl
  | cons e es ih => rw [flatEdges_cons]; simp only [List.length_cons, ih]; omega
theorem flatEdges_app (xs ys : List EdgeV) : flatEdges (xs ++ ys) = flatEdges xs ++ flatEdges ys := by simp [flatEdges]
theorem flatEdges_get (es : List EdgeV) : ∀ i, i < es.length → (flatEdges es)[i * 4]? = some (.int .i64 (es.getD i EdgeV.zero).a) ∧ (flatEdges es)[i * 4 + 1]? = some (.int .i64 (es.getD i EdgeV.zero).b) ∧ (flatEdges es)[i * 4 + 2]? = some (.int .i64 (es.getD i EdgeV.zero).l) ∧ (flatEdges es)[i * 4 + 3]? = some (.int .i64 (es.getD i EdgeV.zero).m) := by
  induction es with
  | nil => intro i hi; simp at hi
  | cons e es ih =>
    intro i hi
    rw [flatEdges_cons]
    cases i with
    | zero => simp
    | succ i =>
      have h := ih i (by simpa using hi)
      have e1 : (i + 1) * 4 = i * 4 + 1 + 1 + 1 + 1 := by omega
      rw [e1]
      simpa using h
/-- The cells behind a slice's address hold the structs es. -/
def Edges (w : World) (a : Option Addr) (es : List EdgeV) : Prop :=
  es = [] ∨ ∃ b off, a = some ⟨b, off, none⟩ ∧ ∀ i, i < es.length → w.cell? ⟨b, off + i * 4, none⟩ = some (.int .i64 (es.getD i EdgeV.zero).a) ∧ w.cell? ⟨b, off + i * 4 + 1, none⟩ = some (.int .i64 (es.getD i EdgeV.zero).b) ∧ w.cell? ⟨b, off + i * 4 + 2, none⟩ = some (.int .i64 (es.getD i EdgeV.zero).l) ∧ w.cell? ⟨b, off + i * 4 + 3, none⟩ = some (.int .i64 (es.getD i EdgeV.zero).m)
theorem Edges.below {w w' : World} {a : Option Addr} {es : List EdgeV} (h : Edges w a es) (hb : Below w.heap.size w w') : Edges w' a es := by
  rcases h with h | ⟨b, off, ha, hc⟩
  · exact .inl h
  · exact .inr ⟨b, off, ha, fun i hi => ⟨ble hb (hc i hi).1, ble hb (hc i hi).2.1, ble hb (hc i hi).2.2.1, ble hb (hc i hi).2.2.2⟩⟩
theorem Edges.of_owns {w : World} {base g n cap : Nat} {es : List EdgeV} (h : w.ownsRow base 41 4 (.slice (some ⟨g, 0, none⟩) n cap) n (flatEdges es)) : Edges w (some ⟨g, 0, none⟩) es := by
  refine .inr ⟨g, 0, rfl, fun i hi => ?_⟩
  have hl := h.1
  rw [flatEdges_len] at hl
  obtain ⟨f0, f1, f2, f3⟩ := flatEdges_get es i hi
  refine ⟨?_, ?_, ?_, ?_⟩
  · rw [Nat.zero_add, h.cellAt _ (by omega)]; exact f0
  · rw [Nat.zero_add, h.cellAt _ (by omega)]; exact f1
  · rw [Nat.zero_add, h.cellAt _ (by omega)]; exact f2
  · rw [Nat.zero_add, h.cellAt _ (by omega)]; exact f3
theorem Edges.own {w : World} {base n c : Nat} {a : Option Addr} {es : List EdgeV} (h : w.ownsRow base 41 4 (.slice a n c) n (flatEdges es)) : Edges w a es := by
  rcases h.2 with ⟨_, h0⟩ | ⟨g, cap', cur, he, _⟩
  · left
    have hl := h.1
    rw [flatEdges_len, h0] at hl
    exact List.length_eq_zero_iff.1 (by omega)
  · simp only [Value.slice.injEq] at he
    obtain ⟨rfl, _, rfl⟩ := he
    exact Edges.of_owns h
theorem Edges.rw {w : World} {base n c : Nat} {a : Option Addr} {es : List EdgeV} (h : Rw w base 41 4 (.slice a n c) n (flatEdges es)) : Edges w a es := by
  rcases h with h | ⟨h0, h1, _⟩
  · exact Edges.own h
  · left
    have := flatEdges_len es
    rw [h1] at this
    simp at this
    exact List.length_eq_zero_iff.1 (by omega)
theorem lenEdges {w : World} {base n : Nat} {v : Value} {es : List EdgeV} (h : Rw w base 41 4 v n (flatEdges es)) : es.length = n := by
  have := h.len
  rw [flatEdges_len] at this
  omega
theorem infoEdges : (Try.prog.info? 41).map (fun i => (i.zero, i.size, i.bytes)) = some (some (.agg #[.int .i64 0, .int .i64 0, .int .i64 0, .int .i64 0]), 4, 32) := by kernel_rfl
theorem madeEdges (n : Nat) : (madeCells (Value.agg #[.int .i64 0, .int .i64 0, .int .i64 0, .int .i64 0]).cells (n * 4)).toList = List.replicate (n * 4) (Value.int .i64 0) := by
  apply List.ext_getElem?
  intro j
  by_cases hj : j < n * 4
  · have h4 : j % 4 < 4 := Nat.mod_lt _ (by omega)
    simp only [madeCells, Value.cells]
    generalize hq : j % 4 = q at h4
    match q, h4 with
    | 0, _ => simp [hj, hq]
    | 1, _ => simp [hj, hq]
    | 2, _ => simp [hj, hq]
    | 3, _ => simp [hj, hq]
  · simp [madeCells, hj]
theorem stepEdges (es : List EdgeV) (k : Nat) (hk : k < es.length) :
    ((((flatEdges (es.take k) ++ List.replicate ((es.length - k) * 4) (Value.int .i64 0)).set (k * 4) (.int .i64 es[k].a)).set (k * 4 + 1) (.int .i64 es[k].b)).set (k * 4 + 2) (.int .i64 es[k].l)).set (k * 4 + 3) (.int .i64 es[k].m) =
      flatEdges (es.take (k + 1)) ++ List.replicate ((es.length - (k + 1)) * 4) (Value.int .i64 0) := by
  have e1 : (es.length - k) * 4 = (es.length - (k + 1)) * 4 + 1 + 1 + 1 + 1 := by omega
  have e2 : (flatEdges (es.take k)).length = k * 4 := by rw [flatEdges_len]; simp; omega
  rw [List.set_append_right _ _ (by omega), List.set_append_right _ _ (by omega), List.set_append_right _ _ (by omega), List.set_append_right _ _ (by omega), e2, e1,
    List.replicate_succ, List.replicate_succ, List.replicate_succ, List.replicate_succ, List.take_succ_eq_append_getElem hk, flatEdges_app]
  have a0 : k * 4 - k * 4 = 0 := by omega
  have a1 : k * 4 + 1 - k * 4 = 1 := by omega
  have a2 : k * 4 + 2 - k * 4 = 2 := by omega
  have a3 : k * 4 + 3 - k * 4 = 3 := by omega
  rw [a0, a1, a2, a3]
  simp [flatEdges, EdgeV.vs]
theorem set_flatEdges (xs ys : List EdgeV) (e : EdgeV) (x0 x1 x2 x3 : Int) (q : Nat) (hq : q = xs.length) :
    ((((flatEdges (xs ++ e :: ys)).set (q * 4) (.int .i64 x0)).set (q * 4 + 1) (.int .i64 x1)).set (q * 4 + 2) (.int .i64 x2)).set (q * 4 + 3) (.int .i64 x3) = flatEdges (xs ++ ⟨x0, x1, x2, x3⟩ :: ys) := by
  have e2 : (flatEdges xs).length = q * 4 := by rw [flatEdges_len, hq]
  rw [flatEdges_app, flatEdges_app, flatEdges_cons, flatEdges_cons, List.set_append_right _ _ (by omega), List.set_append_right _ _ (by omega), List.set_append_right _ _ (by omega), List.set_append_right _ _ (by omega), e2]
  have a0 : q * 4 - q * 4 = 0 := by omega
  have a1 : q * 4 + 1 - q * 4 = 1 := by omega
  have a2 : q * 4 + 2 - q * 4 = 2 := by omega
  have a3 : q * 4 + 3 - q * 4 = 3 := by omega
  rw [a0, a1, a2, a3]
  simp

set_option maxHeartbeats 400000 in
theorem cSzEdges (a : Option Addr) (n cap : Nat) (left : Int) (w : World) (h0 : 0 ≤ left) (h1 : left ≤ 1048576) (hn : n ≤ maxLen) :
    Calls Try.prog 49 #[.slice a n cap, .int .i64 left] w fun e w' => ∃ r, e = .returned (.int .i64 r) ∧ (r = -1 ∨ (r = left - n ∧ 0 ≤ r)) ∧ w' = w := by
  unfold maxLen at hn
  by_cases hl : left - n < 0
  · go_enter Try.func49, Try.ntmps49
    go_wp2
    go_ret
    exact ⟨_, rfl, .inl rfl, rfl⟩
  · go_enter Try.func49, Try.ntmps49
    go_wp2
    go_ret
    exact ⟨_, rfl, .inr ⟨rfl, by omega⟩, rfl⟩

set_option maxHeartbeats 800000 in
theorem cToEdgeV (e : EdgeV) (w : World) : Calls Try.prog 63 #[e.val] w fun r w' => r = .returned e.val ∧ Below w.heap.size w w' := by
  obtain ⟨x0, x1, x2, x3⟩ := e
  unfold EdgeV.val
  go_enter Try.func63, Try.ntmps63
  go_wp2
  refine bodyPost_ret (v := .agg #[.int .i64 x0, .int .i64 x1, .int .i64 x2, .int .i64 x3]) (by simp [results, Try.results63, go_sem]) rfl ⟨rfl, ?_⟩
  exact btrans (btrans (balloc _ _) (balloc _ _)) (balloc _ _)

set_option maxHeartbeats 800000 in
theorem cToEdges (a : Option Addr) (cap : Nat) (es : List EdgeV) (w : World) (he : Edges w a es) (hl : es.length ≤ 1048576) :
    Calls Try.prog 50 #[.slice a es.length cap] w fun e w' => ∃ g, e = .returned (.slice (some ⟨g, 0, none⟩) es.length es.length) ∧
      w'.ownsRow w.heap.size 41 4 (.slice (some ⟨g, 0, none⟩) es.length es.length) es.length (flatEdges es) ∧ g = w.heap.size ∧ Below w.heap.size w w' := by
  obtain ⟨i0, hi, hz0, hz1, hz2⟩ := info_parts infoEdges
  go_enter Try.func50, Try.ntmps50
  go_wp2_with (at_make; refine wpList_make_full _ rfl _ _ 24 rfl w.heap.size 41 i0 (.agg #[.int .i64 0, .int .i64 0, .int .i64 0, .int .i64 0]) 4 Try.underlying24 hi hz0 hz1 _ _ _ _ es.length rfl rfl rfl rfl (by rw [hz2]; omega) (by unfold maxLen; omega) (Nat.le_refl _) ?_; intro w1 hown hgrow)
  have hown' : w1.ownsRow w.heap.size 41 4 (.slice (some ⟨w.heap.size, 0, none⟩) es.length es.length) es.length (flatEdges (es.take 0) ++ List.replicate ((es.length - 0) * 4) (Value.int .i64 0)) := by
    rw [madeEdges] at hown
    simpa [flatEdges] using hown
  have hbel : Below w.heap.size w w1 := (Below.refl _ _).grown hgrow (Nat.le_refl _) (fun k hk => by cases hk)
  clear hown hgrow
  go_loopw [4] (fun i wr => ∃ k : Nat, k ≤ es.length ∧ i = .int .i64 k ∧ wr.ownsRow w.heap.size 41 4 (.slice (some ⟨w.heap.size, 0, none⟩) es.length es.length) es.length (flatEdges (es.take k) ++ List.replicate ((es.length - k) * 4) (Value.int .i64 0)) ∧ Below w.heap.size w wr) (fun i _ => es.length - (intOf i).toNat)
  case atStart => exact ⟨0, Nat.zero_le _, rfl, hown', hbel⟩
  case round =>
    obtain ⟨k, hk, rfl, hown, hb⟩ := hrel
    by_cases hlt : k < es.length
    · rcases he with he | ⟨b, off, rfl, hc⟩
      · simp [he] at hlt
      obtain ⟨q0, q1, q2, q3⟩ := hc k hlt
      have p0 := ble hb q0
      have p1 := ble hb q1
      have p2 := ble hb q2
      have p3 := ble hb q3
      have hbs := cell_lt q0
      clear hc q0 q1 q2 q3 hbel hown'
      go_wp2_with fail
      refine (cToEdgeV es[k] _).mono ?_
      rintro e w1 ⟨rfl, hb1⟩
      have HB1 := btrans hb hb1
      have O1 := own_keep hown hb1
      have f0 := O1.frozenAt (k * 4)
      have f1 := O1.frozenAt (k * 4 + 1)
      have f2 := O1.frozenAt (k * 4 + 2)
      have f3 := O1.frozenAt (k * 4 + 3)
      have z : ∀ j, j < 4 → w1.cell? ⟨w.heap.size, k * 4 + j, none⟩ = some (.int .i64 0) := by
        intro j hj
        rw [O1.cellAt _ (by omega), List.getElem?_append_right (by rw [flatEdges_len]; simp; omega)]
        simp [List.getElem?_replicate, flatEdges_len]
        omega
      have z0 := z 0 (by omega)
      have z1 := z 1 (by omega)
      have z2 := z 2 (by omega)
      have z3 := z 3 (by omega)
      have O2 := ((((O1.stored (k * 4) (.int .i64 es[k].a)).1.stored (k * 4 + 1) (.int .i64 es[k].b)).1.stored (k * 4 + 2) (.int .i64 es[k].l)).1.stored (k * 4 + 3) (.int .i64 es[k].m)).1
      rw [stepEdges es k hlt] at O2
      have HB2 := ((((HB1.setCell (p := ⟨w.heap.size, k * 4, none⟩) (Nat.le_refl _) (.int .i64 es[k].a)).setCell (p := ⟨w.heap.size, k * 4 + 1, none⟩) (Nat.le_refl _) (.int .i64 es[k].b)).setCell (p := ⟨w.heap.size, k * 4 + 2, none⟩) (Nat.le_refl _) (.int .i64 es[k].l)).setCell (p := ⟨w.heap.size, k * 4 + 3, none⟩) (Nat.le_refl _) (.int .i64 es[k].m))
      clear z O1 hown hb1 hb HB1
      rw [Nat.add_zero] at z0
      unfold EdgeV.val
      go_wp2
      go_roundw
      case rel => exact ⟨k + 1, by omega, by go_num, O2, HB2⟩
      case measure => simp [intOf]; omega
    · have hkk : k = es.length := by omega
      subst hkk
      have hown2 : wr.ownsRow w.heap.size 41 4 (.slice (some ⟨w.heap.size, 0, none⟩) es.length es.length) es.length (flatEdges es) := by simpa [flatEdges] using hown
      clear hown hown' hbel he
      go_wp2
      go_ret
      exact ⟨_, rfl, hown2, rfl, hb⟩

set_option maxHeartbeats 800000 in
theorem cEqEdgeV (e : EdgeV) (w : World) : Calls Try.prog 64 #[e.val, e.val] w fun r w' => r = .returned (.bool true) ∧ Below w.heap.size w w' := by
  obtain ⟨x0, x1, x2, x3⟩ := e
  unfold EdgeV.val
  have hW := btrans (balloc w (.cells #[.int .i64 x0, .int .i64 x1, .int .i64 x2, .int .i64 x3] 41)) (balloc _ (.cells #[.int .i64 x0, .int .i64 x1, .int .i64 x2, .int .i64 x3] 41))
  go_enter Try.func64, Try.ntmps64
  go_wp2
  go_ret
  exact ⟨rfl, hW⟩

set_option maxHeartbeats 1600000 in
theorem cEqEdges (a1 a2 : Option Addr) (p1 p2 : Nat) (es : List EdgeV) (w : World) (h1 : Edges w a1 es) (h2 : Edges w a2 es) (hl : es.length ≤ 1048576) :
    Calls Try.prog 51 #[.slice a1 es.length p1, .slice a2 es.length p2] w fun e w' => e = .returned (.bool true) ∧ Below w.heap.size w w' := by
  go_enter Try.func51, Try.ntmps51
  go_wp2
  go_loopw [5] (fun i wr => ∃ k : Nat, k ≤ es.length ∧ i = .int .i64 k ∧ Below w.heap.size w wr) (fun i _ => es.length - (intOf i).toNat)
  case atStart => exact ⟨0, Nat.zero_le _, rfl, Below.refl _ _⟩
  case round =>
    obtain ⟨k, hk, rfl, hb⟩ := hrel
    by_cases hlt : k < es.length
    · rcases h1 with h1 | ⟨b1, o1, rfl, hc1⟩
      · simp [h1] at hlt
      rcases h2 with h2 | ⟨b2, o2, rfl, hc2⟩
      · simp [h2] at hlt
      obtain ⟨q0, q1, q2, q3⟩ := hc1 k hlt
      obtain ⟨r0, r1, r2, r3⟩ := hc2 k hlt
      have p0 := ble hb q0
      have s0 := ble hb r0
      have p1 := ble hb q1
      have s1 := ble hb r1
      have p2 := ble hb q2
      have s2 := ble hb r2
      have p3 := ble hb q3
      have s3 := ble hb r3
      clear hc1 hc2 q0 q1 q2 q3 r0 r1 r2 r3
      go_wp2_with fail
      go_region_with (go_at_call 64; refine (cEqEdgeV es[k] _).mono ?_; rintro e w6 ⟨rfl, hb6⟩; have HB6 := btrans hb (undrew hb6))
      all_goals go_wp2
      all_goals go_roundw
      case rel => exact ⟨k + 1, by omega, by go_num, HB6⟩
      case measure => simp [intOf]; omega
      case rel => exact ⟨k + 1, by omega, by go_num, HB6⟩
      case measure => simp [intOf]; omega
    · go_wp2
      go_ret
      exact ⟨rfl, hb⟩
theorem cEqEdgesn (n : Nat) (B1 B2 : Nat) (v1 v2 : Value) (es : List EdgeV) (w : World) (h1 : Rw w B1 41 4 v1 n (flatEdges es)) (h2 : Rw w B2 41 4 v2 n (flatEdges es)) (hl : n ≤ 1048576) :
    Calls Try.prog 51 #[v1, v2] w fun e w' => e = .returned (.bool true) ∧ Below w.heap.size w w' := by
  obtain ⟨a1, c1, rfl⟩ := h1.form
  obtain ⟨a2, c2, rfl⟩ := h2.form
  have hn := lenEdges h1
  subst hn
  exact cEqEdges a1 a2 c1 c2 es w (Edges.rw h1) (Edges.rw h2) hl

def markEdgeV (k : Int) (i : Nat) : EdgeV := ⟨k + 4 * i, k + 4 * i + 1, k + 4 * i + 2, k + 4 * i + 3⟩
def marksEdges (k : Int) (n : Nat) : List EdgeV := (List.range n).map (markEdgeV k)
theorem marksEdges_len (k : Int) (n : Nat) : (marksEdges k n).length = n := by simp [marksEdges]
theorem marksEdges_succ (k : Int) (n : Nat) : marksEdges k (n + 1) = marksEdges k n ++ [markEdgeV k n] := by simp [marksEdges, List.range_succ]
theorem marksEdges_get (k : Int) (n i : Nat) (h : i < n) : (marksEdges k n).getD i EdgeV.zero = markEdgeV k i := by simp [marksEdges, List.getD, h]
theorem markEdges_step (es : List EdgeV) (k : Int) (i : Nat) (hi : i < es.length) :
    ((((flatEdges (marksEdges k i ++ es.drop i)).set (i * 4) (.int .i64 (k + 4 * i))).set (i * 4 + 1) (.int .i64 (k + 4 * i + 1))).set (i * 4 + 2) (.int .i64 (k + 4 * i + 2))).set (i * 4 + 3) (.int .i64 (k + 4 * i + 3)) = flatEdges (marksEdges k (i + 1) ++ es.drop (i + 1)) := by
  rw [List.drop_eq_getElem_cons hi, set_flatEdges _ _ _ _ _ _ _ i (marksEdges_len k i).symm, marksEdges_succ, List.append_assoc]
  rfl

set_option maxHeartbeats 3200000 in
theorem cMarkEdgesg (B g cap : Nat) (es : List EdgeV) (k : Int) (w : World) (ho : w.ownsRow B 41 4 (.slice (some ⟨g, 0, none⟩) es.length cap) es.length (flatEdges es)) (hl : es.length ≤ 1048576) (hk0 : 0 ≤ k) (hk1 : k ≤ 10000000) :
    Calls Try.prog 52 #[.slice (some ⟨g, 0, none⟩) es.length cap, .int .i64 k] w fun e w' => e = .returned (.int .i64 (k + 4 * es.length)) ∧
      w'.ownsRow B 41 4 (.slice (some ⟨g, 0, none⟩) es.length cap) es.length (flatEdges (marksEdges k es.length)) ∧ w.grownBy w' (some g) := by
  go_enter Try.func52, Try.ntmps52
  go_wp2
  go_loopw [1, 5] (fun kk i wr => ∃ j : Nat, j ≤ es.length ∧ i = .int .i64 j ∧ kk = .int .i64 (k + 4 * j) ∧ wr.ownsRow B 41 4 (.slice (some ⟨g, 0, none⟩) es.length cap) es.length (flatEdges (marksEdges k j ++ es.drop j)) ∧ w.grownBy wr (some g)) (fun _ i _ => es.length - (intOf i).toNat)
  case atStart => exact ⟨0, Nat.zero_le _, rfl, by simp, by simpa [marksEdges] using ho, World.grownBy.refl _ _⟩
  case round =>
    obtain ⟨j, hj, rfl, rfl, hown, hg⟩ := hrel
    by_cases hlt : j < es.length
    · have hlen : (marksEdges k j ++ es.drop j).length = es.length := by rw [List.length_append, marksEdges_len, List.length_drop]; omega
      obtain ⟨y0, y1, y2, y3⟩ := flatEdges_get (marksEdges k j ++ es.drop j) j (by omega)
      have f0 := hown.frozenAt (j * 4)
      have z0 := (hown.cellAt (j * 4) (by omega)).trans y0
      have f1 := hown.frozenAt (j * 4 + 1)
      have z1 := (hown.cellAt (j * 4 + 1) (by omega)).trans y1
      have f2 := hown.frozenAt (j * 4 + 2)
      have z2 := (hown.cellAt (j * 4 + 2) (by omega)).trans y2
      have f3 := hown.frozenAt (j * 4 + 3)
      have z3 := (hown.cellAt (j * 4 + 3) (by omega)).trans y3
      generalize (marksEdges k j ++ es.drop j).getD j EdgeV.zero = E at z0 z1 z2 z3
      clear y0 y1 y2 y3
      obtain ⟨s1, t1⟩ := hown.stored (j * 4) (.int .i64 (k + 4 * j))
      obtain ⟨s2, t2⟩ := s1.stored (j * 4 + 1) (.int .i64 (k + 4 * j + 1))
      obtain ⟨s3, t3⟩ := s2.stored (j * 4 + 2) (.int .i64 (k + 4 * j + 2))
      obtain ⟨s4, t4⟩ := s3.stored (j * 4 + 3) (.int .i64 (k + 4 * j + 3))
      rw [markEdges_step es k j hlt] at s4
      have hg' := gtrans hg (gtrans t1 (gtrans t2 (gtrans t3 (t4))))
      have w1 : IntKind.i64.wrap (k + 4 * (j : Int) + 1) = k + 4 * (j : Int) + 1 := (wrap_in _ (by omega) (by omega)).trans (by omega)
      have w2 : IntKind.i64.wrap (k + 4 * (j : Int) + 1 + 1) = k + 4 * (j : Int) + 2 := (wrap_in _ (by omega) (by omega)).trans (by omega)
      have w3 : IntKind.i64.wrap (k + 4 * (j : Int) + 2 + 1) = k + 4 * (j : Int) + 3 := (wrap_in _ (by omega) (by omega)).trans (by omega)
      have w4 : IntKind.i64.wrap (k + 4 * (j : Int) + 3 + 1) = k + 4 * ((j : Int) + 1) := (wrap_in _ (by omega) (by omega)).trans (by omega)
      clear hown s1 s2 s3 t1 t2 t3 t4 hg hlen
      go_wp2
      exact ⟨⟨j + 1, by omega, by go_num, by go_num, s4, hg'⟩, by simp [intOf]; omega⟩
    · have hjj : j = es.length := by omega
      subst hjj
      have hown2 : wr.ownsRow B 41 4 (.slice (some ⟨g, 0, none⟩) es.length cap) es.length (flatEdges (marksEdges k es.length)) := by simpa using hown
      clear hown
      go_wp2
      go_ret
      exact ⟨rfl, hown2, hg⟩

set_option maxHeartbeats 800000 in
/-- A mark on a row that is owned, or is nothing: it grows by a block of the row, if at all. -/
theorem cMarkEdges (B n : Nat) (v : Value) (es : List EdgeV) (k : Int) (w : World) (ho : Rw w B 41 4 v n (flatEdges es)) (hl : n ≤ 1048576) (hk0 : 0 ≤ k) (hk1 : k ≤ 10000000) :
    Calls Try.prog 52 #[v, .int .i64 k] w fun e w' => e = .returned (.int .i64 (k + 4 * n)) ∧
      Rw w' B 41 4 v n (flatEdges (marksEdges k n)) ∧ ∃ r, w.grownBy w' r ∧ ∀ j, r = some j → B ≤ j ∧ v.ownBlock = some j := by
  have hn := lenEdges ho
  subst hn
  by_cases h0 : es.length = 0
  · obtain ⟨a, c, rfl⟩ := ho.form
    have hx : es = [] := List.length_eq_zero_iff.1 h0
    subst hx
    clear h0
    go_enter Try.func52, Try.ntmps52
    go_wp2
    go_loop [1, 5] (fun kk i => i = .int .i64 0 ∧ kk = .int .i64 k) (fun _ _ => 0)
    case atStart => exact ⟨rfl, rfl⟩
    case round =>
      obtain ⟨rfl, rfl⟩ := hrel
      go_wp2
      go_ret
      exact ⟨by simp, by simpa [marksEdges] using ho, none, World.grownBy.refl _ _, fun j h => by cases h⟩
  · rcases ho with ho | ⟨h1, _⟩
    · rcases ho.2 with ⟨_, h1⟩ | ⟨g, cap, cur, rfl, hB, _⟩
      · omega
      · refine (cMarkEdgesg B g cap es k w ho hl hk0 hk1).mono ?_
        rintro e w' ⟨rfl, h2, h3⟩
        exact ⟨rfl, .inl h2, some g, h3, fun j h => by cases h; exact ⟨hB, rfl⟩⟩
    · omega
end Go.Proofs.Ytdjambejppanoaa
