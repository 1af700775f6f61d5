/- Slices of ops: copied, compared, marked. -/
import Derived.Test.YtdcohaejdlgnpaaA
import Derived.Deep.RegionWith
namespace Go.Proofs.Ytdcohaejdlgnpaa
open Go.RowKit
structure OpV where
  kind : Int
  what : Int
  deriving DecidableEq
def OpV.zero : OpV := ⟨0, 0⟩
def OpV.val (e : OpV) : Value := .agg #[.int .i64 e.kind, .int .i64 e.what]
def OpV.vs (e : OpV) : List Value := [.int .i64 e.kind, .int .i64 e.what]
def flatOps (es : List OpV) : List Value := es.flatMap OpV.vs
theorem flatOps_cons (e : OpV) (es : List OpV) : flatOps (e :: es) = .int .i64 e.kind :: .int .i64 e.what :: flatOps es := rfl
theorem flatOps_len (es : List OpV) : (flatOps es).length = es.length * 2 := by
  induction es with
  | nil => rfl
  | cons e es ih => rw [flatOps_cons]; simp only [List.length_cons, ih]; omega
theorem flatOps_app (xs ys : List OpV) : flatOps (xs ++ ys) = flatOps xs ++ flatOps ys := by simp [flatOps]
theorem flatOps_get (es : List OpV) : ∀ i, i < es.length → (flatOps es)[i * 2]? = some (.int .i64 (es.getD i OpV.zero).kind) ∧ (flatOps es)[i * 2 + 1]? = some (.int .i64 (es.getD i OpV.zero).what) := by
  induction es with
  | nil => intro i hi; simp at hi
  | cons e es ih =>
    intro i hi
    rw [flatOps_cons]
    cases i with
    | zero => simp
    | succ i =>
      have h := ih i (by simpa using hi)
      have e1 : (i + 1) * 2 = i * 2 + 1 + 1 := by omega
      rw [e1]
      simpa using h
/-- The cells behind a slice's address hold the structs es. -/
def Ops (w : World) (a : Option Addr) (es : List OpV) : Prop :=
  es = [] ∨ ∃ b off, a = some ⟨b, off, none⟩ ∧ ∀ i, i < es.length → w.cell? ⟨b, off + i * 2, none⟩ = some (.int .i64 (es.getD i OpV.zero).kind) ∧ w.cell? ⟨b, off + i * 2 + 1, none⟩ = some (.int .i64 (es.getD i OpV.zero).what)
theorem Ops.below {w w' : World} {a : Option Addr} {es : List OpV} (h : Ops w a es) (hb : Below w.heap.size w w') : Ops w' a es := by
  rcases h with h | ⟨b, off, ha, hc⟩
  · exact .inl h
  · exact .inr ⟨b, off, ha, fun i hi => ⟨ble hb (hc i hi).1, ble hb (hc i hi).2⟩⟩
theorem Ops.of_owns {w : World} {base g n cap : Nat} {es : List OpV} (h : w.ownsRow base 93 2 (.slice (some ⟨g, 0, none⟩) n cap) n (flatOps es)) : Ops w (some ⟨g, 0, none⟩) es := by
  refine .inr ⟨g, 0, rfl, fun i hi => ?_⟩
  have hl := h.1
  rw [flatOps_len] at hl
  obtain ⟨f0, f1⟩ := flatOps_get es i hi
  refine ⟨?_, ?_⟩
  · rw [Nat.zero_add, h.cellAt _ (by omega)]; exact f0
  · rw [Nat.zero_add, h.cellAt _ (by omega)]; exact f1
theorem Ops.own {w : World} {base n c : Nat} {a : Option Addr} {es : List OpV} (h : w.ownsRow base 93 2 (.slice a n c) n (flatOps es)) : Ops w a es := by
  rcases h.2 with ⟨_, h0⟩ | ⟨g, cap', cur, he, _⟩
  · left
    have hl := h.1
    rw [flatOps_len, h0] at hl
    exact List.length_eq_zero_iff.1 (by omega)
  · simp only [Value.slice.injEq] at he
    obtain ⟨rfl, _, rfl⟩ := he
    exact Ops.of_owns h
theorem Ops.rw {w : World} {base n c : Nat} {a : Option Addr} {es : List OpV} (h : Rw w base 93 2 (.slice a n c) n (flatOps es)) : Ops w a es := by
  rcases h with h | ⟨h0, h1, _⟩
  · exact Ops.own h
  · left
    have := flatOps_len es
    rw [h1] at this
    simp at this
    exact List.length_eq_zero_iff.1 (by omega)
theorem lenOps {w : World} {base n : Nat} {v : Value} {es : List OpV} (h : Rw w base 93 2 v n (flatOps es)) : es.length = n := by
  have := h.len
  rw [flatOps_len] at this
  omega
theorem infoOps : (Try.prog.info? 93).map (fun i => (i.zero, i.size, i.bytes)) = some (some (.agg #[.int .i64 0, .int .i64 0]), 2, 16) := by kernel_rfl
theorem madeOps (n : Nat) : (madeCells (Value.agg #[.int .i64 0, .int .i64 0]).cells (n * 2)).toList = List.replicate (n * 2) (Value.int .i64 0) := by
  apply List.ext_getElem?
  intro j
  by_cases hj : j < n * 2
  · have h4 : j % 2 < 2 := Nat.mod_lt _ (by omega)
    simp only [madeCells, Value.cells]
    generalize hq : j % 2 = q at h4
    match q, h4 with
    | 0, _ => simp [hj, hq]
    | 1, _ => simp [hj, hq]
  · simp [madeCells, hj]
theorem stepOps (es : List OpV) (k : Nat) (hk : k < es.length) :
    ((flatOps (es.take k) ++ List.replicate ((es.length - k) * 2) (Value.int .i64 0)).set (k * 2) (.int .i64 es[k].kind)).set (k * 2 + 1) (.int .i64 es[k].what) =
      flatOps (es.take (k + 1)) ++ List.replicate ((es.length - (k + 1)) * 2) (Value.int .i64 0) := by
  have e1 : (es.length - k) * 2 = (es.length - (k + 1)) * 2 + 1 + 1 := by omega
  have e2 : (flatOps (es.take k)).length = k * 2 := by rw [flatOps_len]; simp; omega
  rw [List.set_append_right _ _ (by omega), List.set_append_right _ _ (by omega), e2, e1,
    List.replicate_succ, List.replicate_succ, List.take_succ_eq_append_getElem hk, flatOps_app]
  have a0 : k * 2 - k * 2 = 0 := by omega
  have a1 : k * 2 + 1 - k * 2 = 1 := by omega
  rw [a0, a1]
  simp [flatOps, OpV.vs]
theorem set_flatOps (xs ys : List OpV) (e : OpV) (x0 x1 : Int) (q : Nat) (hq : q = xs.length) :
    ((flatOps (xs ++ e :: ys)).set (q * 2) (.int .i64 x0)).set (q * 2 + 1) (.int .i64 x1) = flatOps (xs ++ ⟨x0, x1⟩ :: ys) := by
  have e2 : (flatOps xs).length = q * 2 := by rw [flatOps_len, hq]
  rw [flatOps_app, flatOps_app, flatOps_cons, flatOps_cons, List.set_append_right _ _ (by omega), List.set_append_right _ _ (by omega), e2]
  have a0 : q * 2 - q * 2 = 0 := by omega
  have a1 : q * 2 + 1 - q * 2 = 1 := by omega
  rw [a0, a1]
  simp

set_option maxHeartbeats 400000 in
theorem cSzOps (a : Option Addr) (n cap : Nat) (left : Int) (w : World) (h0 : 0 ≤ left) (h1 : left ≤ 1048576) (hn : n ≤ maxLen) :
    Calls Try.prog 37 #[.slice a n cap, .int .i64 left] w fun e w' => ∃ r, e = .returned (.int .i64 r) ∧ (r = -1 ∨ (r = left - n ∧ 0 ≤ r)) ∧ w' = w := by
  unfold maxLen at hn
  by_cases hl : left - n < 0
  · go_enter Try.func37, Try.ntmps37
    go_wp2
    go_ret
    exact ⟨_, rfl, .inl rfl, rfl⟩
  · go_enter Try.func37, Try.ntmps37
    go_wp2
    go_ret
    exact ⟨_, rfl, .inr ⟨rfl, by omega⟩, rfl⟩

set_option maxHeartbeats 800000 in
theorem cToOpV (e : OpV) (w : World) : Calls Try.prog 73 #[e.val] w fun r w' => r = .returned e.val ∧ Below w.heap.size w w' := by
  obtain ⟨x0, x1⟩ := e
  unfold OpV.val
  go_enter Try.func73, Try.ntmps73
  go_wp2
  refine bodyPost_ret (v := .agg #[.int .i64 x0, .int .i64 x1]) (by simp [results, Try.results73, go_sem]) rfl ⟨rfl, ?_⟩
  exact btrans (btrans (balloc _ _) (balloc _ _)) (balloc _ _)

set_option maxHeartbeats 800000 in
theorem cToOps (a : Option Addr) (cap : Nat) (es : List OpV) (w : World) (he : Ops w a es) (hl : es.length ≤ 1048576) :
    Calls Try.prog 39 #[.slice a es.length cap] w fun e w' => ∃ g, e = .returned (.slice (some ⟨g, 0, none⟩) es.length es.length) ∧
      w'.ownsRow w.heap.size 93 2 (.slice (some ⟨g, 0, none⟩) es.length es.length) es.length (flatOps es) ∧ g = w.heap.size ∧ Below w.heap.size w w' := by
  obtain ⟨i0, hi, hz0, hz1, hz2⟩ := info_parts infoOps
  go_enter Try.func39, Try.ntmps39
  go_wp2_with (at_make; refine wpList_make_full _ rfl _ _ 55 rfl w.heap.size 93 i0 (.agg #[.int .i64 0, .int .i64 0]) 2 Try.underlying55 hi hz0 hz1 _ _ _ _ es.length rfl rfl rfl rfl (by rw [hz2]; omega) (by unfold maxLen; omega) (Nat.le_refl _) ?_; intro w1 hown hgrow)
  have hown' : w1.ownsRow w.heap.size 93 2 (.slice (some ⟨w.heap.size, 0, none⟩) es.length es.length) es.length (flatOps (es.take 0) ++ List.replicate ((es.length - 0) * 2) (Value.int .i64 0)) := by
    rw [madeOps] at hown
    simpa [flatOps] using hown
  have hbel : Below w.heap.size w w1 := (Below.refl _ _).grown hgrow (Nat.le_refl _) (fun k hk => by cases hk)
  clear hown hgrow
  go_loopw [4] (fun i wr => ∃ k : Nat, k ≤ es.length ∧ i = .int .i64 k ∧ wr.ownsRow w.heap.size 93 2 (.slice (some ⟨w.heap.size, 0, none⟩) es.length es.length) es.length (flatOps (es.take k) ++ List.replicate ((es.length - k) * 2) (Value.int .i64 0)) ∧ Below w.heap.size w wr) (fun i _ => es.length - (intOf i).toNat)
  case atStart => exact ⟨0, Nat.zero_le _, rfl, hown', hbel⟩
  case round =>
    obtain ⟨k, hk, rfl, hown, hb⟩ := hrel
    by_cases hlt : k < es.length
    · rcases he with he | ⟨b, off, rfl, hc⟩
      · simp [he] at hlt
      obtain ⟨q0, q1⟩ := hc k hlt
      have p0 := ble hb q0
      have p1 := ble hb q1
      have hbs := cell_lt q0
      clear hc q0 q1 hbel hown'
      go_wp2_with fail
      refine (cToOpV es[k] _).mono ?_
      rintro e w1 ⟨rfl, hb1⟩
      have HB1 := btrans hb hb1
      have O1 := own_keep hown hb1
      have f0 := O1.frozenAt (k * 2)
      have f1 := O1.frozenAt (k * 2 + 1)
      have z : ∀ j, j < 2 → w1.cell? ⟨w.heap.size, k * 2 + j, none⟩ = some (.int .i64 0) := by
        intro j hj
        rw [O1.cellAt _ (by omega), List.getElem?_append_right (by rw [flatOps_len]; simp; omega)]
        simp [List.getElem?_replicate, flatOps_len]
        omega
      have z0 := z 0 (by omega)
      have z1 := z 1 (by omega)
      have O2 := ((O1.stored (k * 2) (.int .i64 es[k].kind)).1.stored (k * 2 + 1) (.int .i64 es[k].what)).1
      rw [stepOps es k hlt] at O2
      have HB2 := ((HB1.setCell (p := ⟨w.heap.size, k * 2, none⟩) (Nat.le_refl _) (.int .i64 es[k].kind)).setCell (p := ⟨w.heap.size, k * 2 + 1, none⟩) (Nat.le_refl _) (.int .i64 es[k].what))
      clear z O1 hown hb1 hb HB1
      rw [Nat.add_zero] at z0
      unfold OpV.val
      go_wp2
      go_roundw
      case rel => exact ⟨k + 1, by omega, by go_num, O2, HB2⟩
      case measure => simp [intOf]; omega
    · have hkk : k = es.length := by omega
      subst hkk
      have hown2 : wr.ownsRow w.heap.size 93 2 (.slice (some ⟨w.heap.size, 0, none⟩) es.length es.length) es.length (flatOps es) := by simpa [flatOps] using hown
      clear hown hown' hbel he
      go_wp2
      go_ret
      exact ⟨_, rfl, hown2, rfl, hb⟩

set_option maxHeartbeats 800000 in
theorem cEqOpV (e : OpV) (w : World) : Calls Try.prog 75 #[e.val, e.val] w fun r w' => r = .returned (.bool true) ∧ Below w.heap.size w w' := by
  obtain ⟨x0, x1⟩ := e
  unfold OpV.val
  have hW := btrans (balloc w (.cells #[.int .i64 x0, .int .i64 x1] 93)) (balloc _ (.cells #[.int .i64 x0, .int .i64 x1] 93))
  go_enter Try.func75, Try.ntmps75
  go_wp2
  go_ret
  exact ⟨rfl, hW⟩

set_option maxHeartbeats 1600000 in
theorem cEqOps (a1 a2 : Option Addr) (p1 p2 : Nat) (es : List OpV) (w : World) (h1 : Ops w a1 es) (h2 : Ops w a2 es) (hl : es.length ≤ 1048576) :
    Calls Try.prog 42 #[.slice a1 es.length p1, .slice a2 es.length p2] w fun e w' => e = .returned (.bool true) ∧ Below w.heap.size w w' := by
  go_enter Try.func42, Try.ntmps42
  go_wp2
  go_loopw [5] (fun i wr => ∃ k : Nat, k ≤ es.length ∧ i = .int .i64 k ∧ Below w.heap.size w wr) (fun i _ => es.length - (intOf i).toNat)
  case atStart => exact ⟨0, Nat.zero_le _, rfl, Below.refl _ _⟩
  case round =>
    obtain ⟨k, hk, rfl, hb⟩ := hrel
    by_cases hlt : k < es.length
    · rcases h1 with h1 | ⟨b1, o1, rfl, hc1⟩
      · simp [h1] at hlt
      rcases h2 with h2 | ⟨b2, o2, rfl, hc2⟩
      · simp [h2] at hlt
      obtain ⟨q0, q1⟩ := hc1 k hlt
      obtain ⟨r0, r1⟩ := hc2 k hlt
      have p0 := ble hb q0
      have s0 := ble hb r0
      have p1 := ble hb q1
      have s1 := ble hb r1
      clear hc1 hc2 q0 q1 r0 r1
      go_wp2_with fail
      go_region_with (go_at_call 75; refine (cEqOpV es[k] _).mono ?_; rintro e w6 ⟨rfl, hb6⟩; have HB6 := btrans hb (undrew hb6))
      all_goals go_wp2
      all_goals go_roundw
      case rel => exact ⟨k + 1, by omega, by go_num, HB6⟩
      case measure => simp [intOf]; omega
      case rel => exact ⟨k + 1, by omega, by go_num, HB6⟩
      case measure => simp [intOf]; omega
    · go_wp2
      go_ret
      exact ⟨rfl, hb⟩
theorem cEqOpsn (n : Nat) (B1 B2 : Nat) (v1 v2 : Value) (es : List OpV) (w : World) (h1 : Rw w B1 93 2 v1 n (flatOps es)) (h2 : Rw w B2 93 2 v2 n (flatOps es)) (hl : n ≤ 1048576) :
    Calls Try.prog 42 #[v1, v2] w fun e w' => e = .returned (.bool true) ∧ Below w.heap.size w w' := by
  obtain ⟨a1, c1, rfl⟩ := h1.form
  obtain ⟨a2, c2, rfl⟩ := h2.form
  have hn := lenOps h1
  subst hn
  exact cEqOps a1 a2 c1 c2 es w (Ops.rw h1) (Ops.rw h2) hl

def markOpV (k : Int) (i : Nat) : OpV := ⟨k + 2 * i, k + 2 * i + 1⟩
def marksOps (k : Int) (n : Nat) : List OpV := (List.range n).map (markOpV k)
theorem marksOps_len (k : Int) (n : Nat) : (marksOps k n).length = n := by simp [marksOps]
theorem marksOps_succ (k : Int) (n : Nat) : marksOps k (n + 1) = marksOps k n ++ [markOpV k n] := by simp [marksOps, List.range_succ]
theorem marksOps_get (k : Int) (n i : Nat) (h : i < n) : (marksOps k n).getD i OpV.zero = markOpV k i := by simp [marksOps, List.getD, h]
theorem markOps_step (es : List OpV) (k : Int) (i : Nat) (hi : i < es.length) :
    ((flatOps (marksOps k i ++ es.drop i)).set (i * 2) (.int .i64 (k + 2 * i))).set (i * 2 + 1) (.int .i64 (k + 2 * i + 1)) = flatOps (marksOps k (i + 1) ++ es.drop (i + 1)) := by
  rw [List.drop_eq_getElem_cons hi, set_flatOps _ _ _ _ _ i (marksOps_len k i).symm, marksOps_succ, List.append_assoc]
  rfl

set_option maxHeartbeats 3200000 in
theorem cMarkOpsg (B g cap : Nat) (es : List OpV) (k : Int) (w : World) (ho : w.ownsRow B 93 2 (.slice (some ⟨g, 0, none⟩) es.length cap) es.length (flatOps es)) (hl : es.length ≤ 1048576) (hk0 : 0 ≤ k) (hk1 : k ≤ 10000000) :
    Calls Try.prog 43 #[.slice (some ⟨g, 0, none⟩) es.length cap, .int .i64 k] w fun e w' => e = .returned (.int .i64 (k + 2 * es.length)) ∧
      w'.ownsRow B 93 2 (.slice (some ⟨g, 0, none⟩) es.length cap) es.length (flatOps (marksOps k es.length)) ∧ w.grownBy w' (some g) := by
  go_enter Try.func43, Try.ntmps43
  go_wp2
  go_loopw [1, 5] (fun kk i wr => ∃ j : Nat, j ≤ es.length ∧ i = .int .i64 j ∧ kk = .int .i64 (k + 2 * j) ∧ wr.ownsRow B 93 2 (.slice (some ⟨g, 0, none⟩) es.length cap) es.length (flatOps (marksOps k j ++ es.drop j)) ∧ w.grownBy wr (some g)) (fun _ i _ => es.length - (intOf i).toNat)
  case atStart => exact ⟨0, Nat.zero_le _, rfl, by simp, by simpa [marksOps] using ho, World.grownBy.refl _ _⟩
  case round =>
    obtain ⟨j, hj, rfl, rfl, hown, hg⟩ := hrel
    by_cases hlt : j < es.length
    · have hlen : (marksOps k j ++ es.drop j).length = es.length := by rw [List.length_append, marksOps_len, List.length_drop]; omega
      obtain ⟨y0, y1⟩ := flatOps_get (marksOps k j ++ es.drop j) j (by omega)
      have f0 := hown.frozenAt (j * 2)
      have z0 := (hown.cellAt (j * 2) (by omega)).trans y0
      have f1 := hown.frozenAt (j * 2 + 1)
      have z1 := (hown.cellAt (j * 2 + 1) (by omega)).trans y1
      generalize (marksOps k j ++ es.drop j).getD j OpV.zero = E at z0 z1
      clear y0 y1
      obtain ⟨s1, t1⟩ := hown.stored (j * 2) (.int .i64 (k + 2 * j))
      obtain ⟨s2, t2⟩ := s1.stored (j * 2 + 1) (.int .i64 (k + 2 * j + 1))
      rw [markOps_step es k j hlt] at s2
      have hg' := gtrans hg (gtrans t1 (t2))
      have w1 : IntKind.i64.wrap (k + 2 * (j : Int) + 1) = k + 2 * (j : Int) + 1 := (wrap_in _ (by omega) (by omega)).trans (by omega)
      have w2 : IntKind.i64.wrap (k + 2 * (j : Int) + 1 + 1) = k + 2 * ((j : Int) + 1) := (wrap_in _ (by omega) (by omega)).trans (by omega)
      clear hown s1 t1 t2 hg hlen
      go_wp2
      exact ⟨⟨j + 1, by omega, by go_num, by go_num, s2, hg'⟩, by simp [intOf]; omega⟩
    · have hjj : j = es.length := by omega
      subst hjj
      have hown2 : wr.ownsRow B 93 2 (.slice (some ⟨g, 0, none⟩) es.length cap) es.length (flatOps (marksOps k es.length)) := by simpa using hown
      clear hown
      go_wp2
      go_ret
      exact ⟨rfl, hown2, hg⟩

set_option maxHeartbeats 800000 in
/-- A mark on a row that is owned, or is nothing: it grows by a block of the row, if at all. -/
theorem cMarkOps (B n : Nat) (v : Value) (es : List OpV) (k : Int) (w : World) (ho : Rw w B 93 2 v n (flatOps es)) (hl : n ≤ 1048576) (hk0 : 0 ≤ k) (hk1 : k ≤ 10000000) :
    Calls Try.prog 43 #[v, .int .i64 k] w fun e w' => e = .returned (.int .i64 (k + 2 * n)) ∧
      Rw w' B 93 2 v n (flatOps (marksOps k n)) ∧ ∃ r, w.grownBy w' r ∧ ∀ j, r = some j → B ≤ j ∧ v.ownBlock = some j := by
  have hn := lenOps ho
  subst hn
  by_cases h0 : es.length = 0
  · obtain ⟨a, c, rfl⟩ := ho.form
    have hx : es = [] := List.length_eq_zero_iff.1 h0
    subst hx
    clear h0
    go_enter Try.func43, Try.ntmps43
    go_wp2
    go_loop [1, 5] (fun kk i => i = .int .i64 0 ∧ kk = .int .i64 k) (fun _ _ => 0)
    case atStart => exact ⟨rfl, rfl⟩
    case round =>
      obtain ⟨rfl, rfl⟩ := hrel
      go_wp2
      go_ret
      exact ⟨by simp, by simpa [marksOps] using ho, none, World.grownBy.refl _ _, fun j h => by cases h⟩
  · rcases ho with ho | ⟨h1, _⟩
    · rcases ho.2 with ⟨_, h1⟩ | ⟨g, cap, cur, rfl, hB, _⟩
      · omega
      · refine (cMarkOpsg B g cap es k w ho hl hk0 hk1).mono ?_
        rintro e w' ⟨rfl, h2, h3⟩
        exact ⟨rfl, .inl h2, some g, h3, fun j h => by cases h; exact ⟨hB, rfl⟩⟩
    · omega
end Go.Proofs.Ytdcohaejdlgnpaa
