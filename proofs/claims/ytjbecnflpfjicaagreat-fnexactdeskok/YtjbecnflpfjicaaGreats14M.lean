/- Slices of bookings: copied, compared, marked. -/
import Derived.Test.YtjbecnflpfjicaaGreatA
import Derived.Deep.RegionWith
namespace Go.Proofs.YtjbecnflpfjicaaGreat.s14
open Go.RowKit
structure BkV where
  i : Int
  s : Int
  n : Int
  f : Int
  deriving DecidableEq
def BkV.zero : BkV := ⟨0, 0, 0, 0⟩
def BkV.val (e : BkV) : Value := .agg #[.int .i64 e.i, .int .i64 e.s, .int .i64 e.n, .int .i64 e.f]
def BkV.vs (e : BkV) : List Value := [.int .i64 e.i, .int .i64 e.s, .int .i64 e.n, .int .i64 e.f]
def flatBks (es : List BkV) : List Value := es.flatMap BkV.vs
theorem flatBks_cons (e : BkV) (es : List BkV) : flatBks (e :: es) = .int .i64 e.i :: .int .i64 e.s :: .int .i64 e.n :: .int .i64 e.f :: flatBks es := rfl
theorem flatBks_len (es : List BkV) : (flatBks es).length = es.length * 4 := by
  induction es with
  | nil => rfl
  | cons e es ih => rw [flatBks_cons]; simp only [List.length_cons, ih]; omega
theorem flatBks_app (xs ys : List BkV) : flatBks (xs ++ ys) = flatBks xs ++ flatBks ys := by simp [flatBks]
theorem flatBks_get (es : List BkV) : ∀ i, i < es.length → (flatBks es)[i * 4]? = some (.int .i64 (es.getD i BkV.zero).i) ∧ (flatBks es)[i * 4 + 1]? = some (.int .i64 (es.getD i BkV.zero).s) ∧ (flatBks es)[i * 4 + 2]? = some (.int .i64 (es.getD i BkV.zero).n) ∧ (flatBks es)[i * 4 + 3]? = some (.int .i64 (es.getD i BkV.zero).f) := by
  induction es with
  | nil => intro i hi; simp at hi
  | cons e es ih =>
    intro i hi
    rw [flatBks_cons]
    cases i with
    | zero => simp
    | succ i =>
      have h := ih i (by simpa using hi)
      have e1 : (i + 1) * 4 = i * 4 + 1 + 1 + 1 + 1 := by omega
      rw [e1]
      simpa using h
/-- The cells behind a slice's address hold the structs es. -/
def Bks (w : World) (a : Option Addr) (es : List BkV) : Prop :=
  es = [] ∨ ∃ b off, a = some ⟨b, off, none⟩ ∧ ∀ i, i < es.length → w.cell? ⟨b, off + i * 4, none⟩ = some (.int .i64 (es.getD i BkV.zero).i) ∧ w.cell? ⟨b, off + i * 4 + 1, none⟩ = some (.int .i64 (es.getD i BkV.zero).s) ∧ w.cell? ⟨b, off + i * 4 + 2, none⟩ = some (.int .i64 (es.getD i BkV.zero).n) ∧ w.cell? ⟨b, off + i * 4 + 3, none⟩ = some (.int .i64 (es.getD i BkV.zero).f)
theorem Bks.below {w w' : World} {a : Option Addr} {es : List BkV} (h : Bks w a es) (hb : Below w.heap.size w w') : Bks w' a es := by
  rcases h with h | ⟨b, off, ha, hc⟩
  · exact .inl h
  · exact .inr ⟨b, off, ha, fun i hi => ⟨ble hb (hc i hi).1, ble hb (hc i hi).2.1, ble hb (hc i hi).2.2.1, ble hb (hc i hi).2.2.2⟩⟩
theorem Bks.of_owns {w : World} {base g n cap : Nat} {es : List BkV} (h : w.ownsRow base 82 4 (.slice (some ⟨g, 0, none⟩) n cap) n (flatBks es)) : Bks w (some ⟨g, 0, none⟩) es := by
  refine .inr ⟨g, 0, rfl, fun i hi => ?_⟩
  have hl := h.1
  rw [flatBks_len] at hl
  obtain ⟨f0, f1, f2, f3⟩ := flatBks_get es i hi
  refine ⟨?_, ?_, ?_, ?_⟩
  · rw [Nat.zero_add, h.cellAt _ (by omega)]; exact f0
  · rw [Nat.zero_add, h.cellAt _ (by omega)]; exact f1
  · rw [Nat.zero_add, h.cellAt _ (by omega)]; exact f2
  · rw [Nat.zero_add, h.cellAt _ (by omega)]; exact f3
theorem Bks.own {w : World} {base n c : Nat} {a : Option Addr} {es : List BkV} (h : w.ownsRow base 82 4 (.slice a n c) n (flatBks es)) : Bks w a es := by
  rcases h.2 with ⟨_, h0⟩ | ⟨g, cap', cur, he, _⟩
  · left
    have hl := h.1
    rw [flatBks_len, h0] at hl
    exact List.length_eq_zero_iff.1 (by omega)
  · simp only [Value.slice.injEq] at he
    obtain ⟨rfl, _, rfl⟩ := he
    exact Bks.of_owns h
theorem Bks.rw {w : World} {base n c : Nat} {a : Option Addr} {es : List BkV} (h : Rw w base 82 4 (.slice a n c) n (flatBks es)) : Bks w a es := by
  rcases h with h | ⟨h0, h1, _⟩
  · exact Bks.own h
  · left
    have := flatBks_len es
    rw [h1] at this
    simp at this
    exact List.length_eq_zero_iff.1 (by omega)
theorem lenBks {w : World} {base n : Nat} {v : Value} {es : List BkV} (h : Rw w base 82 4 v n (flatBks es)) : es.length = n := by
  have := h.len
  rw [flatBks_len] at this
  omega
theorem infoBks : (Tryz.prog.info? 82).map (fun i => (i.zero, i.size, i.bytes)) = some (some (.agg #[.int .i64 0, .int .i64 0, .int .i64 0, .int .i64 0]), 4, 32) := by kernel_rfl
theorem madeBks (n : Nat) : (madeCells (Value.agg #[.int .i64 0, .int .i64 0, .int .i64 0, .int .i64 0]).cells (n * 4)).toList = List.replicate (n * 4) (Value.int .i64 0) := by
  apply List.ext_getElem?
  intro j
  by_cases hj : j < n * 4
  · have h4 : j % 4 < 4 := Nat.mod_lt _ (by omega)
    simp only [madeCells, Value.cells]
    generalize hq : j % 4 = q at h4
    match q, h4 with
    | 0, _ => simp [hj, hq]
    | 1, _ => simp [hj, hq]
    | 2, _ => simp [hj, hq]
    | 3, _ => simp [hj, hq]
  · simp [madeCells, hj]
theorem stepBks (es : List BkV) (k : Nat) (hk : k < es.length) :
    ((((flatBks (es.take k) ++ List.replicate ((es.length - k) * 4) (Value.int .i64 0)).set (k * 4) (.int .i64 es[k].i)).set (k * 4 + 1) (.int .i64 es[k].s)).set (k * 4 + 2) (.int .i64 es[k].n)).set (k * 4 + 3) (.int .i64 es[k].f) =
      flatBks (es.take (k + 1)) ++ List.replicate ((es.length - (k + 1)) * 4) (Value.int .i64 0) := by
  have e1 : (es.length - k) * 4 = (es.length - (k + 1)) * 4 + 1 + 1 + 1 + 1 := by omega
  have e2 : (flatBks (es.take k)).length = k * 4 := by rw [flatBks_len]; simp; omega
  rw [List.set_append_right _ _ (by omega), List.set_append_right _ _ (by omega), List.set_append_right _ _ (by omega), List.set_append_right _ _ (by omega), e2, e1,
    List.replicate_succ, List.replicate_succ, List.replicate_succ, List.replicate_succ, List.take_succ_eq_append_getElem hk, flatBks_app]
  have a0 : k * 4 - k * 4 = 0 := by omega
  have a1 : k * 4 + 1 - k * 4 = 1 := by omega
  have a2 : k * 4 + 2 - k * 4 = 2 := by omega
  have a3 : k * 4 + 3 - k * 4 = 3 := by omega
  rw [a0, a1, a2, a3]
  simp [flatBks, BkV.vs]
theorem set_flatBks (xs ys : List BkV) (e : BkV) (x0 x1 x2 x3 : Int) (q : Nat) (hq : q = xs.length) :
    ((((flatBks (xs ++ e :: ys)).set (q * 4) (.int .i64 x0)).set (q * 4 + 1) (.int .i64 x1)).set (q * 4 + 2) (.int .i64 x2)).set (q * 4 + 3) (.int .i64 x3) = flatBks (xs ++ ⟨x0, x1, x2, x3⟩ :: ys) := by
  have e2 : (flatBks xs).length = q * 4 := by rw [flatBks_len, hq]
  rw [flatBks_app, flatBks_app, flatBks_cons, flatBks_cons, List.set_append_right _ _ (by omega), List.set_append_right _ _ (by omega), List.set_append_right _ _ (by omega), List.set_append_right _ _ (by omega), e2]
  have a0 : q * 4 - q * 4 = 0 := by omega
  have a1 : q * 4 + 1 - q * 4 = 1 := by omega
  have a2 : q * 4 + 2 - q * 4 = 2 := by omega
  have a3 : q * 4 + 3 - q * 4 = 3 := by omega
  rw [a0, a1, a2, a3]
  simp

set_option maxHeartbeats 400000 in
theorem cSzBks (a : Option Addr) (n cap : Nat) (left : Int) (w : World) (h0 : 0 ≤ left) (h1 : left ≤ 1048576) (hn : n ≤ maxLen) :
    Calls Tryz.prog 31 #[.slice a n cap, .int .i64 left] w fun e w' => ∃ r, e = .returned (.int .i64 r) ∧ (r = -1 ∨ (r = left - n ∧ 0 ≤ r)) ∧ w' = w := by
  unfold maxLen at hn
  by_cases hl : left - n < 0
  · go_enter Tryz.func31, Tryz.ntmps31
    go_wp2
    go_ret
    exact ⟨_, rfl, .inl rfl, rfl⟩
  · go_enter Tryz.func31, Tryz.ntmps31
    go_wp2
    go_ret
    exact ⟨_, rfl, .inr ⟨rfl, by omega⟩, rfl⟩

set_option maxHeartbeats 800000 in
theorem cToBkV (e : BkV) (w : World) : Calls Tryz.prog 60 #[e.val] w fun r w' => r = .returned e.val ∧ Below w.heap.size w w' := by
  obtain ⟨x0, x1, x2, x3⟩ := e
  unfold BkV.val
  go_enter Tryz.func60, Tryz.ntmps60
  go_wp2
  refine bodyPost_ret (v := .agg #[.int .i64 x0, .int .i64 x1, .int .i64 x2, .int .i64 x3]) (by simp [results, Tryz.results60, go_sem]) rfl ⟨rfl, ?_⟩
  exact btrans (btrans (balloc _ _) (balloc _ _)) (balloc _ _)

set_option maxHeartbeats 800000 in
theorem cToBks (a : Option Addr) (cap : Nat) (es : List BkV) (w : World) (he : Bks w a es) (hl : es.length ≤ 1048576) :
    Calls Tryz.prog 39 #[.slice a es.length cap] w fun e w' => ∃ g, e = .returned (.slice (some ⟨g, 0, none⟩) es.length es.length) ∧
      w'.ownsRow w.heap.size 82 4 (.slice (some ⟨g, 0, none⟩) es.length es.length) es.length (flatBks es) ∧ g = w.heap.size ∧ Below w.heap.size w w' := by
  obtain ⟨i0, hi, hz0, hz1, hz2⟩ := info_parts infoBks
  go_enter Tryz.func39, Tryz.ntmps39
  go_wp2_with (at_make; refine wpList_make_full _ rfl _ _ 41 rfl w.heap.size 82 i0 (.agg #[.int .i64 0, .int .i64 0, .int .i64 0, .int .i64 0]) 4 Tryz.underlying41 hi hz0 hz1 _ _ _ _ es.length rfl rfl rfl rfl (by rw [hz2]; omega) (by unfold maxLen; omega) (Nat.le_refl _) ?_; intro w1 hown hgrow)
  have hown' : w1.ownsRow w.heap.size 82 4 (.slice (some ⟨w.heap.size, 0, none⟩) es.length es.length) es.length (flatBks (es.take 0) ++ List.replicate ((es.length - 0) * 4) (Value.int .i64 0)) := by
    rw [madeBks] at hown
    simpa [flatBks] using hown
  have hbel : Below w.heap.size w w1 := (Below.refl _ _).grown hgrow (Nat.le_refl _) (fun k hk => by cases hk)
  clear hown hgrow
  go_loopw [4] (fun i wr => ∃ k : Nat, k ≤ es.length ∧ i = .int .i64 k ∧ wr.ownsRow w.heap.size 82 4 (.slice (some ⟨w.heap.size, 0, none⟩) es.length es.length) es.length (flatBks (es.take k) ++ List.replicate ((es.length - k) * 4) (Value.int .i64 0)) ∧ Below w.heap.size w wr) (fun i _ => es.length - (intOf i).toNat)
  case atStart => exact ⟨0, Nat.zero_le _, rfl, hown', hbel⟩
  case round =>
    obtain ⟨k, hk, rfl, hown, hb⟩ := hrel
    by_cases hlt : k < es.length
    · rcases he with he | ⟨b, off, rfl, hc⟩
      · simp [he] at hlt
      obtain ⟨q0, q1, q2, q3⟩ := hc k hlt
      have p0 := ble hb q0
      have p1 := ble hb q1
      have p2 := ble hb q2
      have p3 := ble hb q3
      have hbs := cell_lt q0
      clear hc q0 q1 q2 q3 hbel hown'
      go_wp2_with fail
      refine (cToBkV es[k] _).mono ?_
      rintro e w1 ⟨rfl, hb1⟩
      have HB1 := btrans hb hb1
      have O1 := own_keep hown hb1
      have f0 := O1.frozenAt (k * 4)
      have f1 := O1.frozenAt (k * 4 + 1)
      have f2 := O1.frozenAt (k * 4 + 2)
      have f3 := O1.frozenAt (k * 4 + 3)
      have z : ∀ j, j < 4 → w1.cell? ⟨w.heap.size, k * 4 + j, none⟩ = some (.int .i64 0) := by
        intro j hj
        rw [O1.cellAt _ (by omega), List.getElem?_append_right (by rw [flatBks_len]; simp; omega)]
        simp [List.getElem?_replicate, flatBks_len]
        omega
      have z0 := z 0 (by omega)
      have z1 := z 1 (by omega)
      have z2 := z 2 (by omega)
      have z3 := z 3 (by omega)
      have O2 := ((((O1.stored (k * 4) (.int .i64 es[k].i)).1.stored (k * 4 + 1) (.int .i64 es[k].s)).1.stored (k * 4 + 2) (.int .i64 es[k].n)).1.stored (k * 4 + 3) (.int .i64 es[k].f)).1
      rw [stepBks es k hlt] at O2
      have HB2 := ((((HB1.setCell (p := ⟨w.heap.size, k * 4, none⟩) (Nat.le_refl _) (.int .i64 es[k].i)).setCell (p := ⟨w.heap.size, k * 4 + 1, none⟩) (Nat.le_refl _) (.int .i64 es[k].s)).setCell (p := ⟨w.heap.size, k * 4 + 2, none⟩) (Nat.le_refl _) (.int .i64 es[k].n)).setCell (p := ⟨w.heap.size, k * 4 + 3, none⟩) (Nat.le_refl _) (.int .i64 es[k].f))
      clear z O1 hown hb1 hb HB1
      rw [Nat.add_zero] at z0
      unfold BkV.val
      go_wp2
      go_roundw
      case rel => exact ⟨k + 1, by omega, by go_num, O2, HB2⟩
      case measure => simp [intOf]; omega
    · have hkk : k = es.length := by omega
      subst hkk
      have hown2 : wr.ownsRow w.heap.size 82 4 (.slice (some ⟨w.heap.size, 0, none⟩) es.length es.length) es.length (flatBks es) := by simpa [flatBks] using hown
      clear hown hown' hbel he
      go_wp2
      go_ret
      exact ⟨_, rfl, hown2, rfl, hb⟩

set_option maxHeartbeats 800000 in
theorem cEqBkV (e : BkV) (w : World) : Calls Tryz.prog 75 #[e.val, e.val] w fun r w' => r = .returned (.bool true) ∧ Below w.heap.size w w' := by
  obtain ⟨x0, x1, x2, x3⟩ := e
  unfold BkV.val
  have hW := btrans (balloc w (.cells #[.int .i64 x0, .int .i64 x1, .int .i64 x2, .int .i64 x3] 82)) (balloc _ (.cells #[.int .i64 x0, .int .i64 x1, .int .i64 x2, .int .i64 x3] 82))
  go_enter Tryz.func75, Tryz.ntmps75
  go_wp2
  go_ret
  exact ⟨rfl, hW⟩

set_option maxHeartbeats 1600000 in
theorem cEqBks (a1 a2 : Option Addr) (p1 p2 : Nat) (es : List BkV) (w : World) (h1 : Bks w a1 es) (h2 : Bks w a2 es) (hl : es.length ≤ 1048576) :
    Calls Tryz.prog 53 #[.slice a1 es.length p1, .slice a2 es.length p2] w fun e w' => e = .returned (.bool true) ∧ Below w.heap.size w w' := by
  go_enter Tryz.func53, Tryz.ntmps53
  go_wp2
  go_loopw [5] (fun i wr => ∃ k : Nat, k ≤ es.length ∧ i = .int .i64 k ∧ Below w.heap.size w wr) (fun i _ => es.length - (intOf i).toNat)
  case atStart => exact ⟨0, Nat.zero_le _, rfl, Below.refl _ _⟩
  case round =>
    obtain ⟨k, hk, rfl, hb⟩ := hrel
    by_cases hlt : k < es.length
    · rcases h1 with h1 | ⟨b1, o1, rfl, hc1⟩
      · simp [h1] at hlt
      rcases h2 with h2 | ⟨b2, o2, rfl, hc2⟩
      · simp [h2] at hlt
      obtain ⟨q0, q1, q2, q3⟩ := hc1 k hlt
      obtain ⟨r0, r1, r2, r3⟩ := hc2 k hlt
      have p0 := ble hb q0
      have s0 := ble hb r0
      have p1 := ble hb q1
      have s1 := ble hb r1
      have p2 := ble hb q2
      have s2 := ble hb r2
      have p3 := ble hb q3
      have s3 := ble hb r3
      clear hc1 hc2 q0 q1 q2 q3 r0 r1 r2 r3
      go_wp2_with fail
      go_region_with (go_at_call 75; refine (cEqBkV es[k] _).mono ?_; rintro e w6 ⟨rfl, hb6⟩; have HB6 := btrans hb (undrew hb6))
      all_goals go_wp2
      all_goals go_roundw
      case rel => exact ⟨k + 1, by omega, by go_num, HB6⟩
      case measure => simp [intOf]; omega
      case rel => exact ⟨k + 1, by omega, by go_num, HB6⟩
      case measure => simp [intOf]; omega
    · go_wp2
      go_ret
      exact ⟨rfl, hb⟩
theorem cEqBksn (n : Nat) (B1 B2 : Nat) (v1 v2 : Value) (es : List BkV) (w : World) (h1 : Rw w B1 82 4 v1 n (flatBks es)) (h2 : Rw w B2 82 4 v2 n (flatBks es)) (hl : n ≤ 1048576) :
    Calls Tryz.prog 53 #[v1, v2] w fun e w' => e = .returned (.bool true) ∧ Below w.heap.size w w' := by
  obtain ⟨a1, c1, rfl⟩ := h1.form
  obtain ⟨a2, c2, rfl⟩ := h2.form
  have hn := lenBks h1
  subst hn
  exact cEqBks a1 a2 c1 c2 es w (Bks.rw h1) (Bks.rw h2) hl

def markBkV (k : Int) (i : Nat) : BkV := ⟨k + 4 * i, k + 4 * i + 1, k + 4 * i + 2, k + 4 * i + 3⟩
def marksBks (k : Int) (n : Nat) : List BkV := (List.range n).map (markBkV k)
theorem marksBks_len (k : Int) (n : Nat) : (marksBks k n).length = n := by simp [marksBks]
theorem marksBks_succ (k : Int) (n : Nat) : marksBks k (n + 1) = marksBks k n ++ [markBkV k n] := by simp [marksBks, List.range_succ]
theorem marksBks_get (k : Int) (n i : Nat) (h : i < n) : (marksBks k n).getD i BkV.zero = markBkV k i := by simp [marksBks, List.getD, h]
theorem markBks_step (es : List BkV) (k : Int) (i : Nat) (hi : i < es.length) :
    ((((flatBks (marksBks k i ++ es.drop i)).set (i * 4) (.int .i64 (k + 4 * i))).set (i * 4 + 1) (.int .i64 (k + 4 * i + 1))).set (i * 4 + 2) (.int .i64 (k + 4 * i + 2))).set (i * 4 + 3) (.int .i64 (k + 4 * i + 3)) = flatBks (marksBks k (i + 1) ++ es.drop (i + 1)) := by
  rw [List.drop_eq_getElem_cons hi, set_flatBks _ _ _ _ _ _ _ i (marksBks_len k i).symm, marksBks_succ, List.append_assoc]
  rfl

end Go.Proofs.YtjbecnflpfjicaaGreat.s14

/- Slices of sales: copied, compared, marked. -/
namespace Go.Proofs.YtjbecnflpfjicaaGreat.s14
open Go.RowKit
structure SaV where
  k : Int
  i : Int
  n : Int
  f : Int
  deriving DecidableEq
def SaV.zero : SaV := ⟨0, 0, 0, 0⟩
def SaV.val (e : SaV) : Value := .agg #[.int .i64 e.k, .int .i64 e.i, .int .i64 e.n, .int .i64 e.f]
def SaV.vs (e : SaV) : List Value := [.int .i64 e.k, .int .i64 e.i, .int .i64 e.n, .int .i64 e.f]
def flatSas (es : List SaV) : List Value := es.flatMap SaV.vs
theorem flatSas_cons (e : SaV) (es : List SaV) : flatSas (e :: es) = .int .i64 e.k :: .int .i64 e.i :: .int .i64 e.n :: .int .i64 e.f :: flatSas es := rfl
theorem flatSas_len (es : List SaV) : (flatSas es).length = es.length * 4 := by
  induction es with
  | nil => rfl
  | cons e es ih => rw [flatSas_cons]; simp only [List.length_cons, ih]; omega
theorem flatSas_app (xs ys : List SaV) : flatSas (xs ++ ys) = flatSas xs ++ flatSas ys := by simp [flatSas]
theorem flatSas_get (es : List SaV) : ∀ i, i < es.length → (flatSas es)[i * 4]? = some (.int .i64 (es.getD i SaV.zero).k) ∧ (flatSas es)[i * 4 + 1]? = some (.int .i64 (es.getD i SaV.zero).i) ∧ (flatSas es)[i * 4 + 2]? = some (.int .i64 (es.getD i SaV.zero).n) ∧ (flatSas es)[i * 4 + 3]? = some (.int .i64 (es.getD i SaV.zero).f) := by
  induction es with
  | nil => intro i hi; simp at hi
  | cons e es ih =>
    intro i hi
    rw [flatSas_cons]
    cases i with
    | zero => simp
    | succ i =>
      have h := ih i (by simpa using hi)
      have e1 : (i + 1) * 4 = i * 4 + 1 + 1 + 1 + 1 := by omega
      rw [e1]
      simpa using h
/-- The cells behind a slice's address hold the structs es. -/
def Sas (w : World) (a : Option Addr) (es : List SaV) : Prop :=
  es = [] ∨ ∃ b off, a = some ⟨b, off, none⟩ ∧ ∀ i, i < es.length → w.cell? ⟨b, off + i * 4, none⟩ = some (.int .i64 (es.getD i SaV.zero).k) ∧ w.cell? ⟨b, off + i * 4 + 1, none⟩ = some (.int .i64 (es.getD i SaV.zero).i) ∧ w.cell? ⟨b, off + i * 4 + 2, none⟩ = some (.int .i64 (es.getD i SaV.zero).n) ∧ w.cell? ⟨b, off + i * 4 + 3, none⟩ = some (.int .i64 (es.getD i SaV.zero).f)
theorem Sas.below {w w' : World} {a : Option Addr} {es : List SaV} (h : Sas w a es) (hb : Below w.heap.size w w') : Sas w' a es := by
  rcases h with h | ⟨b, off, ha, hc⟩
  · exact .inl h
  · exact .inr ⟨b, off, ha, fun i hi => ⟨ble hb (hc i hi).1, ble hb (hc i hi).2.1, ble hb (hc i hi).2.2.1, ble hb (hc i hi).2.2.2⟩⟩
theorem madeSas (n : Nat) : (madeCells (Value.agg #[.int .i64 0, .int .i64 0, .int .i64 0, .int .i64 0]).cells (n * 4)).toList = List.replicate (n * 4) (Value.int .i64 0) := by
  apply List.ext_getElem?
  intro j
  by_cases hj : j < n * 4
  · have h4 : j % 4 < 4 := Nat.mod_lt _ (by omega)
    simp only [madeCells, Value.cells]
    generalize hq : j % 4 = q at h4
    match q, h4 with
    | 0, _ => simp [hj, hq]
    | 1, _ => simp [hj, hq]
    | 2, _ => simp [hj, hq]
    | 3, _ => simp [hj, hq]
  · simp [madeCells, hj]
theorem stepSas (es : List SaV) (k : Nat) (hk : k < es.length) :
    ((((flatSas (es.take k) ++ List.replicate ((es.length - k) * 4) (Value.int .i64 0)).set (k * 4) (.int .i64 es[k].k)).set (k * 4 + 1) (.int .i64 es[k].i)).set (k * 4 + 2) (.int .i64 es[k].n)).set (k * 4 + 3) (.int .i64 es[k].f) =
      flatSas (es.take (k + 1)) ++ List.replicate ((es.length - (k + 1)) * 4) (Value.int .i64 0) := by
  have e1 : (es.length - k) * 4 = (es.length - (k + 1)) * 4 + 1 + 1 + 1 + 1 := by omega
  have e2 : (flatSas (es.take k)).length = k * 4 := by rw [flatSas_len]; simp; omega
  rw [List.set_append_right _ _ (by omega), List.set_append_right _ _ (by omega), List.set_append_right _ _ (by omega), List.set_append_right _ _ (by omega), e2, e1,
    List.replicate_succ, List.replicate_succ, List.replicate_succ, List.replicate_succ, List.take_succ_eq_append_getElem hk, flatSas_app]
  have a0 : k * 4 - k * 4 = 0 := by omega
  have a1 : k * 4 + 1 - k * 4 = 1 := by omega
  have a2 : k * 4 + 2 - k * 4 = 2 := by omega
  have a3 : k * 4 + 3 - k * 4 = 3 := by omega
  rw [a0, a1, a2, a3]
  simp [flatSas, SaV.vs]
theorem set_flatSas (xs ys : List SaV) (e : SaV) (x0 x1 x2 x3 : Int) (q : Nat) (hq : q = xs.length) :
    ((((flatSas (xs ++ e :: ys)).set (q * 4) (.int .i64 x0)).set (q * 4 + 1) (.int .i64 x1)).set (q * 4 + 2) (.int .i64 x2)).set (q * 4 + 3) (.int .i64 x3) = flatSas (xs ++ ⟨x0, x1, x2, x3⟩ :: ys) := by
  have e2 : (flatSas xs).length = q * 4 := by rw [flatSas_len, hq]
  rw [flatSas_app, flatSas_app, flatSas_cons, flatSas_cons, List.set_append_right _ _ (by omega), List.set_append_right _ _ (by omega), List.set_append_right _ _ (by omega), List.set_append_right _ _ (by omega), e2]
  have a0 : q * 4 - q * 4 = 0 := by omega
  have a1 : q * 4 + 1 - q * 4 = 1 := by omega
  have a2 : q * 4 + 2 - q * 4 = 2 := by omega
  have a3 : q * 4 + 3 - q * 4 = 3 := by omega
  rw [a0, a1, a2, a3]
  simp

def markSaV (k : Int) (i : Nat) : SaV := ⟨k + 4 * i, k + 4 * i + 1, k + 4 * i + 2, k + 4 * i + 3⟩
def marksSas (k : Int) (n : Nat) : List SaV := (List.range n).map (markSaV k)
theorem marksSas_len (k : Int) (n : Nat) : (marksSas k n).length = n := by simp [marksSas]
theorem marksSas_succ (k : Int) (n : Nat) : marksSas k (n + 1) = marksSas k n ++ [markSaV k n] := by simp [marksSas, List.range_succ]
theorem marksSas_get (k : Int) (n i : Nat) (h : i < n) : (marksSas k n).getD i SaV.zero = markSaV k i := by simp [marksSas, List.getD, h]
theorem markSas_step (es : List SaV) (k : Int) (i : Nat) (hi : i < es.length) :
    ((((flatSas (marksSas k i ++ es.drop i)).set (i * 4) (.int .i64 (k + 4 * i))).set (i * 4 + 1) (.int .i64 (k + 4 * i + 1))).set (i * 4 + 2) (.int .i64 (k + 4 * i + 2))).set (i * 4 + 3) (.int .i64 (k + 4 * i + 3)) = flatSas (marksSas k (i + 1) ++ es.drop (i + 1)) := by
  rw [List.drop_eq_getElem_cons hi, set_flatSas _ _ _ _ _ _ _ i (marksSas_len k i).symm, marksSas_succ, List.append_assoc]
  rfl

end Go.Proofs.YtjbecnflpfjicaaGreat.s14

/- The mathematics of seats: right trains, who holds what, free seats, holes, what is booked and given back, spreads, sales. -/
namespace Go.Proofs.YtjbecnflpfjicaaGreat.s14
open Go.RowKit

/-- Somebody holds seat s on piece p. -/
def heldB (hs : List BkV) (s p : Int) : Bool := hs.any fun b => decide (b.s = s ∧ b.n ≤ p ∧ p < b.f)
theorem heldB_app (xs ys : List BkV) (s p : Int) : heldB (xs ++ ys) s p = (heldB xs s p || heldB ys s p) := by simp [heldB]
theorem heldB_iff {hs : List BkV} {s p : Int} : heldB hs s p = true ↔ ∃ b ∈ hs, b.s = s ∧ b.n ≤ p ∧ p < b.f := by simp [heldB]
theorem heldB_no {hs : List BkV} {s p : Int} : heldB hs s p = false ↔ ∀ b ∈ hs, ¬ (b.s = s ∧ b.n ≤ p ∧ p < b.f) := by
  rw [← Bool.not_eq_true, heldB_iff]
  constructor
  · intro h b hb hc; exact h ⟨b, hb, hc⟩
  · rintro h ⟨b, hb, hc⟩; exact h b hb hc
/-- Nobody holds seat s on any of the pieces on .. off - 1. -/
def freeB (hs : List BkV) (s on off : Int) : Bool := (List.range (off - on).toNat).all fun j => !heldB hs s (on + (j : Int))
theorem freeB_iff {hs : List BkV} {s on off : Int} : freeB hs s on off = true ↔ ∀ p, on ≤ p → p < off → heldB hs s p = false := by
  simp only [freeB, List.all_eq_true, List.mem_range, Bool.not_eq_true']
  constructor
  · intro h p h1 h2
    have := h (p - on).toNat (by omega)
    rwa [show on + ((p - on).toNat : Int) = p by omega] at this
  · intro h j hj; exact h _ (by omega) (by omega)
theorem freeB_no {hs : List BkV} {s on off : Int} : freeB hs s on off = false ↔ ∃ p, on ≤ p ∧ p < off ∧ heldB hs s p = true := by
  rw [← Bool.not_eq_true, freeB_iff]
  constructor
  · intro h
    apply Classical.byContradiction
    intro hn
    apply h
    intro p h1 h2
    cases hp : heldB hs s p
    · rfl
    · exact absurd ⟨p, h1, h2, hp⟩ hn
  · rintro ⟨p, h1, h2, hp⟩ h
    rw [h p h1 h2] at hp; cases hp
/-- A right booking of a train with S seats and P pieces. -/
def bkB (S P : Int) (b : BkV) : Bool := decide (0 < b.i ∧ 0 ≤ b.s ∧ b.s ≤ S - 1 ∧ 0 ≤ b.n ∧ b.n < b.f ∧ b.f ≤ P)
theorem bkB_iff {S P : Int} {b : BkV} : bkB S P b = true ↔ 0 < b.i ∧ 0 ≤ b.s ∧ b.s ≤ S - 1 ∧ 0 ≤ b.n ∧ b.n < b.f ∧ b.f ≤ P := by simp [bkB]
def lastI (l : List BkV) : Int := l.foldl (fun _ b => b.i) 0
theorem lastI_app (l : List BkV) (b : BkV) : lastI (l ++ [b]) = b.i := by simp [lastI]
/-- A booking that may come behind others. -/
def nextB (S P : Int) (l : List BkV) (b : BkV) : Bool := bkB S P b && decide (lastI l < b.i) && freeB l b.s b.n b.f
/-- Right bookings. -/
structure Rt (S P : Int) (hs : List BkV) : Prop where
  ok : ∀ b ∈ hs, bkB S P b = true
  asc : hs.Pairwise fun a b => a.i < b.i
  far : hs.Pairwise fun a b => ¬ (a.s = b.s ∧ a.n < b.f ∧ b.n < a.f)
theorem Rt.nil (S P : Int) : Rt S P [] := ⟨by simp, List.Pairwise.nil, List.Pairwise.nil⟩
theorem Rt.sub {S P : Int} {hs xs : List BkV} (h : Rt S P hs) (g : xs.Sublist hs) : Rt S P xs := ⟨fun b hb => h.ok b (g.subset hb), h.asc.sublist g, h.far.sublist g⟩
theorem Rt.last {S P : Int} {hs : List BkV} (h : Rt S P hs) : ∀ b ∈ hs, b.i ≤ lastI hs := by
  intro b hb
  rcases List.eq_nil_or_concat hs with rfl | ⟨l, c, rfl⟩
  · simp at hb
  · rw [List.concat_eq_append] at *
    rw [lastI_app]
    rcases List.mem_append.1 hb with hb | hb
    · have := List.pairwise_append.1 h.asc
      exact Int.le_of_lt (this.2.2 b hb c (by simp))
    · simp at hb; rw [hb]; exact Int.le_refl _
theorem over_iff {S P : Int} {l : List BkV} {b : BkV} (hl : ∀ a ∈ l, bkB S P a = true) (hb : b.n < b.f) : freeB l b.s b.n b.f = true ↔ ∀ a ∈ l, ¬ (a.s = b.s ∧ a.n < b.f ∧ b.n < a.f) := by
  rw [freeB_iff]
  constructor
  · rintro h a ha ⟨h1, h2, h3⟩
    have ho := bkB_iff.1 (hl a ha)
    by_cases hc : a.n ≤ b.n
    · exact heldB_no.1 (h b.n (Int.le_refl _) hb) a ha ⟨h1, hc, h3⟩
    · exact heldB_no.1 (h a.n (by omega) h2) a ha ⟨h1, Int.le_refl _, by omega⟩
  · intro h p h1 h2
    refine heldB_no.2 fun a ha hc => h a ha ⟨hc.1, by omega, by omega⟩
theorem Rt.snoc {S P : Int} {l : List BkV} {b : BkV} (h : Rt S P l) (g : nextB S P l b = true) : Rt S P (l ++ [b]) := by
  simp only [nextB, Bool.and_eq_true, decide_eq_true_eq] at g
  obtain ⟨⟨g1, g2⟩, g3⟩ := g
  have g4 := (over_iff h.ok (bkB_iff.1 g1).2.2.2.2.1).1 g3
  refine ⟨fun x hx => ?_, List.pairwise_append.2 ⟨h.asc, by simp, fun a ha c hc => ?_⟩, List.pairwise_append.2 ⟨h.far, by simp, fun a ha c hc => ?_⟩⟩
  · rcases List.mem_append.1 hx with hx | hx
    · exact h.ok x hx
    · simp at hx; rw [hx]; exact g1
  · simp at hc; subst hc; have := h.last a ha; omega
  · simp at hc; subst hc; exact g4 a ha
theorem Rt.unsnoc {S P : Int} {l : List BkV} {b : BkV} (h : Rt S P (l ++ [b])) : Rt S P l ∧ nextB S P l b = true := by
  have hl : Rt S P l := h.sub (List.sublist_append_left _ _)
  have hb : bkB S P b = true := h.ok b (by simp)
  refine ⟨hl, ?_⟩
  have h1 := (List.pairwise_append.1 h.asc).2.2
  have h2 := (List.pairwise_append.1 h.far).2.2
  simp only [nextB, Bool.and_eq_true, decide_eq_true_eq]
  refine ⟨⟨hb, ?_⟩, (over_iff hl.ok (bkB_iff.1 hb).2.2.2.2.1).2 fun a ha => h2 a ha b (by simp)⟩
  rcases List.eq_nil_or_concat l with rfl | ⟨l', c, rfl⟩
  · have := bkB_iff.1 hb; simpa [lastI] using this.1
  · rw [List.concat_eq_append, lastI_app]; exact h1 c (by simp) b (by simp)
/-- Right bookings, told by place. -/
def rtB (S P : Int) (hs : List BkV) : Bool := (List.range hs.length).all fun j => nextB S P (hs.take j) (hs.getD j BkV.zero)
def upTo (S P : Int) (hs : List BkV) (k : Nat) : Prop := ∀ j, j < k → nextB S P (hs.take j) (hs.getD j BkV.zero) = true
theorem upTo.rt {S P : Int} {hs : List BkV} : ∀ {k : Nat}, k ≤ hs.length → upTo S P hs k → Rt S P (hs.take k)
  | 0, _, _ => by simpa using Rt.nil S P
  | k + 1, hk, h => by
    have := upTo.rt (k := k) (by omega) (fun j hj => h j (by omega))
    rw [List.take_succ_eq_append_getElem (by omega)]
    have g := h k (by omega)
    simp only [List.getD, show k < hs.length from hk, List.getElem?_eq_getElem, Option.getD_some] at g
    exact this.snoc g
theorem upTo.of_rt {S P : Int} {hs : List BkV} : ∀ {k : Nat}, k ≤ hs.length → Rt S P (hs.take k) → upTo S P hs k
  | 0, _, _ => fun j hj => by omega
  | k + 1, hk, h => by
    rw [List.take_succ_eq_append_getElem (by omega)] at h
    obtain ⟨h1, h2⟩ := h.unsnoc
    intro j hj
    by_cases hjk : j = k
    · subst hjk
      simpa only [List.getD, show j < hs.length from hk, List.getElem?_eq_getElem, Option.getD_some] using h2
    · exact upTo.of_rt (k := k) (by omega) h1 j (by omega)
theorem rtB_upTo {S P : Int} {hs : List BkV} : rtB S P hs = true ↔ upTo S P hs hs.length := by
  simp only [rtB, List.all_eq_true, List.mem_range]; exact Iff.rfl
theorem rtB_iff {S P : Int} {hs : List BkV} : rtB S P hs = true ↔ Rt S P hs := by
  rw [rtB_upTo]
  constructor
  · intro h; have := upTo.rt (Nat.le_refl _) h; rwa [List.take_length] at this
  · intro h; exact upTo.of_rt (Nat.le_refl _) (by rwa [List.take_length])
theorem rtB_bad {S P : Int} {hs : List BkV} {k : Nat} (hk : k < hs.length) (h : nextB S P (hs.take k) (hs.getD k BkV.zero) = false) : rtB S P hs = false := by
  cases hq : rtB S P hs
  · rfl
  · rw [rtB_upTo.1 hq k hk] at h; cases h
theorem upTo.step {S P : Int} {hs : List BkV} {k : Nat} (h : upTo S P hs k) (g : nextB S P (hs.take k) (hs.getD k BkV.zero) = true) : upTo S P hs (k + 1) := by
  intro j hj
  by_cases hjk : j = k
  · subst hjk; exact g
  · exact h j (by omega)
/-- A right train. -/
def trainB (S P : Int) (hs : List BkV) : Bool := inB S 1 60 && inB P 1 11 && decide (hs.length ≤ 200) && rtB S P hs
structure Tr (S P : Int) (hs : List BkV) : Prop where
  s1 : 1 ≤ S
  s2 : S ≤ 60
  p1 : 1 ≤ P
  p2 : P ≤ 11
  len : hs.length ≤ 200
  rt : Rt S P hs
theorem trainB_iff {S P : Int} {hs : List BkV} : trainB S P hs = true ↔ Tr S P hs := by
  simp only [trainB, Bool.and_eq_true, decide_eq_true_eq, rtB_iff, inB]
  constructor
  · rintro ⟨⟨⟨⟨h1, h2⟩, h3, h4⟩, h5⟩, h6⟩; exact ⟨h1, h2, h3, h4, h5, h6⟩
  · rintro ⟨h1, h2, h3, h4, h5, h6⟩; exact ⟨⟨⟨⟨h1, h2⟩, h3, h4⟩, h5⟩, h6⟩
/-- The pieces that are asked for are so. -/
def askB (P on off : Int) : Bool := decide (0 ≤ on ∧ on < off ∧ off ≤ P)
theorem askB_iff {P on off : Int} : askB P on off = true ↔ 0 ≤ on ∧ on < off ∧ off ≤ P := by simp [askB]

/-- The free seats among the first k. -/
def freeK (hs : List BkV) (on off : Int) (k : Nat) : List Int := ((List.range k).filter fun (s : Nat) => freeB hs (s : Int) on off).map fun (s : Nat) => (s : Int)
theorem freeK_zero (hs : List BkV) (on off : Int) : freeK hs on off 0 = [] := rfl
theorem freeK_yes {hs : List BkV} {on off : Int} {k : Nat} (h : freeB hs (k : Int) on off = true) : freeK hs on off (k + 1) = freeK hs on off k ++ [(k : Int)] := by
  simp [freeK, List.range_succ, List.filter_append, h]
theorem freeK_no {hs : List BkV} {on off : Int} {k : Nat} (h : freeB hs (k : Int) on off = false) : freeK hs on off (k + 1) = freeK hs on off k := by
  simp [freeK, List.range_succ, List.filter_append, h]
theorem freeK_len (hs : List BkV) (on off : Int) (k : Nat) : (freeK hs on off k).length ≤ k := by
  simp only [freeK, List.length_map]
  exact Nat.le_trans (List.length_filter_le _ _) (by simp)
theorem freeK_mem {hs : List BkV} {on off : Int} {k : Nat} {x : Int} : x ∈ freeK hs on off k ↔ 0 ≤ x ∧ x < k ∧ freeB hs x on off = true := by
  simp only [freeK, List.mem_map, List.mem_filter, List.mem_range]
  constructor
  · rintro ⟨s, ⟨h1, h2⟩, rfl⟩; exact ⟨by omega, by omega, h2⟩
  · rintro ⟨h1, h2, h3⟩
    exact ⟨x.toNat, ⟨by omega, by rwa [show ((x.toNat : Nat) : Int) = x by omega]⟩, by omega⟩
def freeL (S P : Int) (hs : List BkV) (on off : Int) : List Int := if trainB S P hs && askB P on off then freeK hs on off S.toNat else []

/-- From where on all pieces up to a call are free. -/
def sinceN (hs : List BkV) (s : Int) : Nat → Nat
  | 0 => 0
  | k + 1 => if heldB hs s (k : Int) then k + 1 else sinceN hs s k
theorem sinceN_le (hs : List BkV) (s : Int) : ∀ k, sinceN hs s k ≤ k
  | 0 => Nat.le_refl _
  | k + 1 => by
    unfold sinceN; split
    · exact Nat.le_refl _
    · have := sinceN_le hs s k; omega
/-- Up to where all pieces from a call on are free, with so many pieces left. -/
def untilN (hs : List BkV) (s : Int) : Nat → Nat → Nat
  | 0, a => a
  | m + 1, a => if heldB hs s (a : Int) then a else untilN hs s m (a + 1)
def untilE (hs : List BkV) (s : Int) (a e : Nat) : Nat := untilN hs s (e - a) a
theorem untilE_stop {hs : List BkV} {s : Int} {a e : Nat} (h : heldB hs s (a : Int) = true) : untilE hs s a e = a := by
  unfold untilE; cases e - a with
  | zero => rfl
  | succ m => simp [untilN, h]
theorem untilE_end {hs : List BkV} {s : Int} {a e : Nat} (h : e ≤ a) : untilE hs s a e = a := by
  unfold untilE; rw [show e - a = 0 by omega]; rfl
theorem untilE_go {hs : List BkV} {s : Int} {a e : Nat} (h : a < e) (g : heldB hs s (a : Int) = false) : untilE hs s a e = untilE hs s (a + 1) e := by
  unfold untilE; rw [show e - a = (e - (a + 1)) + 1 by omega]; simp [untilN, g]
theorem untilN_ge (hs : List BkV) (s : Int) : ∀ m a, a ≤ untilN hs s m a
  | 0, _ => Nat.le_refl _
  | m + 1, a => by
    unfold untilN; split
    · exact Nat.le_refl _
    · have := untilN_ge hs s m (a + 1); omega
theorem untilN_le (hs : List BkV) (s : Int) : ∀ m a, untilN hs s m a ≤ a + m
  | 0, _ => Nat.le_refl _
  | m + 1, a => by
    unfold untilN; split
    · omega
    · have := untilN_le hs s m (a + 1); omega
theorem untilE_ge (hs : List BkV) (s : Int) (a e : Nat) : a ≤ untilE hs s a e := untilN_ge _ _ _ _
theorem untilE_le {hs : List BkV} {s : Int} {a e : Nat} (h : a ≤ e) : untilE hs s a e ≤ e := by
  have := untilN_le hs s (e - a) a; unfold untilE; omega
theorem untilN_free (hs : List BkV) (s : Int) : ∀ m a p, a ≤ p → p < untilN hs s m a → heldB hs s (p : Int) = false
  | 0, a, p, h1, h2 => by simp [untilN] at h2; omega
  | m + 1, a, p, h1, h2 => by
    unfold untilN at h2
    split at h2
    · omega
    · by_cases hp : p = a
      · subst hp; simp_all
      · exact untilN_free hs s m (a + 1) p (by omega) h2
theorem untilE_free {hs : List BkV} {s : Int} {a e p : Nat} (h1 : a ≤ p) (h2 : p < untilE hs s a e) : heldB hs s (p : Int) = false := untilN_free hs s _ a p h1 h2
theorem untilN_held (hs : List BkV) (s : Int) : ∀ m a, untilN hs s m a < a + m → heldB hs s ((untilN hs s m a : Nat) : Int) = true
  | 0, a, h => by simp [untilN] at h
  | m + 1, a, h => by
    unfold untilN at h ⊢
    split
    · assumption
    · rename_i hc
      rw [if_neg hc] at h
      exact untilN_held hs s m (a + 1) (by omega)
theorem untilE_held {hs : List BkV} {s : Int} {a e : Nat} (h : untilE hs s a e < e) : heldB hs s ((untilE hs s a e : Nat) : Int) = true := by
  have := untilE_ge hs s a e
  exact untilN_held hs s (e - a) a (by unfold untilE at *; omega)
/-- The hole around free pieces. -/
def holeV (hs : List BkV) (P : Int) (on off : Int) (s : Int) : Int := (untilE hs s off.toNat P.toNat : Int) - (sinceN hs s on.toNat : Int)
theorem holeV_le {hs : List BkV} {P on off s : Int} (h0 : 0 ≤ P) (h : off ≤ P) : holeV hs P on off s ≤ P := by
  have := untilE_le (hs := hs) (s := s) (a := off.toNat) (e := P.toNat) (by omega)
  unfold holeV; omega
def holeF (S P : Int) (hs : List BkV) (s on off : Int) : Int := if trainB S P hs && askB P on off && (freeK hs on off S.toNat).contains s then holeV hs P on off s else 0

/-- The best of seats: the least hole, of these the first. -/
def bestS (h : Int → Int) (b s : Int) : Int := if b < 0 ∨ h s < h b then s else b
def bestL (h : Int → Int) (l : List Int) : Int := l.foldl (bestS h) (-1)
theorem bestL_snoc (h : Int → Int) (l : List Int) (s : Int) : bestL h (l ++ [s]) = bestS h (bestL h l) s := by simp [bestL]
theorem snoc_ind {α : Type} {p : List α → Prop} (h0 : p []) (h1 : ∀ l a, p l → p (l ++ [a])) (l : List α) : p l := by
  have : ∀ r : List α, p r.reverse := by
    intro r
    induction r with
    | nil => exact h0
    | cons a r ih => rw [List.reverse_cons]; exact h1 _ _ ih
  rw [← List.reverse_reverse l]; exact this _
theorem bestL_in (h : Int → Int) (l : List Int) : bestL h l = -1 ∨ bestL h l ∈ l := by
  refine snoc_ind (p := fun l => bestL h l = -1 ∨ bestL h l ∈ l) (.inl rfl) (fun l s ih => ?_) l
  rw [bestL_snoc]
  unfold bestS
  split
  · right; simp
  · rcases ih with ih | ih
    · exact .inl ih
    · right; simp [ih]
theorem bestL_least (h : Int → Int) (l : List Int) : (∀ x ∈ l, 0 ≤ x) → ∀ x ∈ l, 0 ≤ bestL h l ∧ h (bestL h l) ≤ h x := by
  refine snoc_ind (p := fun l => (∀ x ∈ l, 0 ≤ x) → ∀ x ∈ l, 0 ≤ bestL h l ∧ h (bestL h l) ≤ h x) (fun _ x hx => by simp at hx) (fun l s ih hp x hx => ?_) l
  have h0 : 0 ≤ s := hp s (by simp)
  have ih' := ih (fun y hy => hp y (by simp [hy]))
  rw [bestL_snoc]
  unfold bestS
  rcases List.mem_append.1 hx with hx | hx
  · have := ih' x hx
    split
    · rename_i hc
      rcases hc with hc | hc
      · omega
      · exact ⟨h0, by omega⟩
    · exact this
  · simp at hx; subst hx
    split
    · exact ⟨h0, Int.le_refl _⟩
    · rename_i hc
      exact ⟨by omega, by omega⟩
end Go.Proofs.YtjbecnflpfjicaaGreat.s14

/- The mathematics of seats, the second part: what is put in and taken out, sales, spreads. -/
namespace Go.Proofs.YtjbecnflpfjicaaGreat.s14
open Go.RowKit

/-- A booking put in by its id. -/
def insB (b : BkV) : List BkV → List BkV
  | [] => [b]
  | x :: r => if b.i < x.i then b :: x :: r else x :: insB b r
theorem insB_mem {b x : BkV} : ∀ {hs : List BkV}, x ∈ insB b hs ↔ x = b ∨ x ∈ hs
  | [] => by simp [insB]
  | y :: r => by
    unfold insB; split
    · simp
    · simp only [List.mem_cons, insB_mem (hs := r)]
      constructor
      · rintro (h | h | h)
        · exact .inr (.inl h)
        · exact .inl h
        · exact .inr (.inr h)
      · rintro (h | h | h)
        · exact .inr (.inl h)
        · exact .inl h
        · exact .inr (.inr h)
theorem insB_len (b : BkV) : ∀ hs : List BkV, (insB b hs).length = hs.length + 1
  | [] => rfl
  | y :: r => by
    unfold insB; split
    · simp
    · simp [insB_len b r]
theorem insB_low {b : BkV} : ∀ {l : List BkV}, (∀ x ∈ l, x.i ≤ b.i) → insB b l = l ++ [b]
  | [], _ => rfl
  | x :: r, h => by
    unfold insB
    rw [if_neg (by have := h x (by simp); omega), insB_low (fun y hy => h y (by simp [hy]))]
    rfl
theorem insB_at {b x : BkV} (hx : b.i < x.i) (r : List BkV) : ∀ {l : List BkV}, (∀ y ∈ l, y.i ≤ b.i) → insB b (l ++ x :: r) = l ++ b :: x :: r
  | [], _ => by simp [insB, hx]
  | y :: l, h => by
    rw [List.cons_append, insB, if_neg (by have := h y (by simp); omega), insB_at hx r (fun z hz => h z (by simp [hz]))]
    rfl
theorem insB_past {b : BkV} (r : List BkV) : ∀ {l : List BkV}, (∃ y ∈ l, b.i < y.i) → insB b (l ++ r) = insB b l ++ r
  | [], h => by obtain ⟨y, hy, _⟩ := h; simp at hy
  | y :: l, h => by
    rw [List.cons_append, insB, insB]
    split
    · rfl
    · rename_i hc
      obtain ⟨z, hz, hlt⟩ := h
      rcases List.mem_cons.1 hz with rfl | hz
      · exact absurd hlt hc
      · rw [insB_past r ⟨z, hz, hlt⟩]; rfl
/-- Where an id is, or would be. -/
def IsPl (hs : List BkV) (id : Int) (pl : Nat) : Prop := pl ≤ hs.length ∧ (∀ j, j < pl → (hs.getD j BkV.zero).i < id) ∧ (∀ j, pl ≤ j → j < hs.length → id ≤ (hs.getD j BkV.zero).i)
theorem insB_pl {b : BkV} : ∀ {hs : List BkV} {pl : Nat}, IsPl hs b.i pl → (∀ x ∈ hs, x.i ≠ b.i) → hs.take pl ++ b :: hs.drop pl = insB b hs
  | [], pl, h, _ => by simp [insB]
  | x :: r, pl, ⟨h1, h2, h3⟩, hne => by
    have hx := hne x (by simp)
    unfold insB
    by_cases hc : b.i < x.i
    · have hp : pl = 0 := by
        cases pl with
        | zero => rfl
        | succ q => have := h2 0 (by omega); simp at this; omega
      subst hp
      simp [hc]
    · rw [if_neg hc]
      cases pl with
      | zero => have := h3 0 (by omega) (by simp); simp at this; omega
      | succ q =>
        have ih := insB_pl (b := b) (hs := r) (pl := q) ⟨by simpa using h1, fun j hj => by have := h2 (j + 1) (by omega); simpa using this, fun j hj hl => by have := h3 (j + 1) (by omega) (by simpa using hl); simpa using this⟩ (fun y hy => hne y (by simp [hy]))
        simp only [List.take_succ_cons, List.drop_succ_cons, List.cons_append, ih]
theorem pl_there {hs : List BkV} {id : Int} {pl : Nat} (h : IsPl hs id pl) (ha : hs.Pairwise fun a b => a.i < b.i) : (∃ x ∈ hs, x.i = id) ↔ pl < hs.length ∧ (hs.getD pl BkV.zero).i = id := by
  constructor
  · rintro ⟨x, hx, rfl⟩
    obtain ⟨j, hj, rfl⟩ := List.getElem_of_mem hx
    have e : (hs.getD j BkV.zero) = hs[j] := by simp [List.getD, hj]
    by_cases h1 : j < pl
    · have := h.2.1 j h1; rw [e] at this; omega
    · by_cases h2 : j = pl
      · subst h2; exact ⟨hj, by rw [e]⟩
      · have hlt : pl < hs.length := by omega
        have h3 := h.2.2 pl (Nat.le_refl _) hlt
        have h4 := List.pairwise_iff_getElem.1 ha pl j hlt hj (by omega)
        have e2 : (hs.getD pl BkV.zero) = hs[pl] := by simp [List.getD, hlt]
        rw [e2] at h3; omega
  · rintro ⟨h1, h2⟩
    exact ⟨hs[pl], List.getElem_mem h1, by simpa [List.getD, h1] using h2⟩
theorem out_pl {hs : List BkV} {id : Int} {pl : Nat} (ha : hs.Pairwise fun a b => a.i < b.i) (hp : pl < hs.length) (hi : (hs.getD pl BkV.zero).i = id) : hs.take pl ++ hs.drop (pl + 1) = hs.filter fun x => decide (x.i ≠ id) := by
  have e : (hs.getD pl BkV.zero) = hs[pl] := by simp [List.getD, hp]
  rw [e] at hi
  have hs0 : hs = hs.take pl ++ hs[pl] :: hs.drop (pl + 1) := by rw [← List.drop_eq_getElem_cons hp, List.take_append_drop]
  rw [hs0] at ha
  obtain ⟨h1, h2, h3⟩ := List.pairwise_append.1 ha
  have h4 := (List.pairwise_cons.1 h2).1
  refine Eq.trans ?_ (congrArg (List.filter _) hs0.symm)
  rw [List.filter_append, List.filter_cons, if_neg (by simp [hi]), List.filter_eq_self.2, List.filter_eq_self.2]
  · intro x hx; have := h4 x hx; simp; omega
  · intro x hx; have := h3 x hx hs[pl] List.mem_cons_self; simp; omega
theorem out_ins {b : BkV} : ∀ {hs : List BkV}, (∀ x ∈ hs, x.i ≠ b.i) → (insB b hs).filter (fun x => decide (x.i ≠ b.i)) = hs
  | [], _ => by simp [insB]
  | x :: r, h => by
    have h1 : (x :: r).filter (fun x => decide (x.i ≠ b.i)) = x :: r := List.filter_eq_self.2 fun y hy => by simpa using h y hy
    unfold insB; split
    · rw [List.filter_cons, if_neg (by simp)]; exact h1
    · rw [List.filter_cons, if_pos (by simpa using h x (by simp)), out_ins (fun y hy => h y (by simp [hy]))]
theorem Rt.ins {S P : Int} {b : BkV} : ∀ {hs : List BkV}, Rt S P hs → bkB S P b = true → (∀ x ∈ hs, x.i ≠ b.i) → (∀ a ∈ hs, ¬ (a.s = b.s ∧ a.n < b.f ∧ b.n < a.f)) → Rt S P (insB b hs)
  | [], _, hb, _, _ => ⟨by simp [insB, hb], by simp [insB], by simp [insB]⟩
  | x :: r, h, hb, hne, hf => by
    obtain ⟨a1, a2⟩ := List.pairwise_cons.1 h.asc
    obtain ⟨f1, f2⟩ := List.pairwise_cons.1 h.far
    unfold insB
    split
    · rename_i hc
      refine ⟨fun y hy => ?_, List.pairwise_cons.2 ⟨fun y hy => ?_, h.asc⟩, List.pairwise_cons.2 ⟨fun y hy hcl => ?_, h.far⟩⟩
      · rcases List.mem_cons.1 hy with rfl | hy
        · exact hb
        · exact h.ok y hy
      · rcases List.mem_cons.1 hy with rfl | hy
        · exact hc
        · have := a1 y hy; omega
      · exact hf y hy ⟨hcl.1.symm, by omega, by omega⟩
    · rename_i hc
      have ih := Rt.ins (hs := r) (b := b) (h.sub (List.sublist_cons_self _ _)) hb (fun y hy => hne y (by simp [hy])) (fun y hy => hf y (by simp [hy]))
      have hx := hne x (by simp)
      refine ⟨fun y hy => ?_, List.pairwise_cons.2 ⟨fun y hy => ?_, ih.asc⟩, List.pairwise_cons.2 ⟨fun y hy => ?_, ih.far⟩⟩
      · rcases List.mem_cons.1 hy with rfl | hy
        · exact h.ok y (by simp)
        · exact ih.ok y hy
      · rcases insB_mem.1 hy with rfl | hy
        · omega
        · exact a1 y hy
      · rcases insB_mem.1 hy with rfl | hy
        · exact hf x (by simp)
        · exact f1 y hy
theorem heldB_ins (b : BkV) (s p : Int) : ∀ hs : List BkV, heldB (insB b hs) s p = (heldB hs s p || decide (b.s = s ∧ b.n ≤ p ∧ p < b.f))
  | [] => by simp [insB, heldB]
  | x :: r => by
    have e : ∀ (y : BkV) (l : List BkV), heldB (y :: l) s p = (decide (y.s = s ∧ y.n ≤ p ∧ p < y.f) || heldB l s p) := fun y l => by simp [heldB]
    unfold insB; split
    · rw [e, Bool.or_comm]
    · rw [e, heldB_ins b s p r, e, Bool.or_assoc]

def hasI (hs : List BkV) (id : Int) : Bool := hs.any fun x => decide (x.i = id)
theorem hasI_iff {hs : List BkV} {id : Int} : hasI hs id = true ↔ ∃ x ∈ hs, x.i = id := by simp [hasI]
theorem hasI_no {hs : List BkV} {id : Int} : hasI hs id = false ↔ ∀ x ∈ hs, x.i ≠ id := by
  rw [← Bool.not_eq_true, hasI_iff]
  constructor
  · intro h x hx he; exact h ⟨x, hx, he⟩
  · rintro h ⟨x, hx, he⟩; exact h x hx he
/-- Whether a booking may be sold at all. -/
def maySell (hs : List BkV) (id : Int) : Bool := decide (0 < id) && decide (hs.length < 200) && !hasI hs id
/-- The seat that is sold. -/
def seatV (S P : Int) (hs : List BkV) (on off : Int) : Int := if askB P on off then bestL (holeV hs P on off) (freeK hs on off S.toNat) else -1
def bookV (S P : Int) (hs : List BkV) (id on off : Int) : List BkV × Int :=
  if maySell hs id = true ∧ 0 ≤ seatV S P hs on off then (insB ⟨id, seatV S P hs on off, on, off⟩ hs, seatV S P hs on off) else (hs, -1)
theorem seatV_in {S P : Int} {hs : List BkV} {on off : Int} (h : 0 ≤ seatV S P hs on off) : askB P on off = true ∧ seatV S P hs on off ∈ freeK hs on off S.toNat := by
  unfold seatV at *
  split at h
  · rename_i hc
    rw [if_pos hc]
    refine ⟨hc, ?_⟩
    rcases bestL_in (holeV hs P on off) (freeK hs on off S.toNat) with g | g
    · rw [g] at h; omega
    · exact g
  · omega
theorem seatV_neg {S P : Int} {hs : List BkV} {on off : Int} (h : ¬ 0 ≤ seatV S P hs on off) : seatV S P hs on off = -1 := by
  unfold seatV at *
  split at h
  · rename_i hc
    rw [if_pos hc]
    rcases bestL_in (holeV hs P on off) (freeK hs on off S.toNat) with g | g
    · exact g
    · have := (freeK_mem.1 g).1; omega
  · rename_i hc; rw [if_neg hc]
theorem Tr.book {S P : Int} {hs : List BkV} (h : Tr S P hs) (id on off : Int) : Tr S P (bookV S P hs id on off).1 := by
  unfold bookV
  split
  · rename_i hc
    obtain ⟨hm, hs0⟩ := hc
    obtain ⟨ha, hf⟩ := seatV_in hs0
    simp only [maySell, Bool.and_eq_true, decide_eq_true_eq, Bool.not_eq_true'] at hm
    obtain ⟨⟨m1, m2⟩, m3⟩ := hm
    obtain ⟨f1, f2, f3⟩ := freeK_mem.1 hf
    obtain ⟨a1, a2, a3⟩ := askB_iff.1 ha
    have h1 := h.s1
    refine ⟨h.s1, h.s2, h.p1, h.p2, by rw [insB_len]; omega, h.rt.ins (bkB_iff.2 ⟨m1, f1, by dsimp only; omega, a1, a2, a3⟩) (hasI_no.1 m3) ((over_iff (b := ⟨id, _, on, off⟩) h.rt.ok a2).1 f3)⟩
  · exact h
def unbV (hs : List BkV) (id : Int) : List BkV := hs.filter fun x => decide (x.i ≠ id)
theorem unbV_no {hs : List BkV} {id : Int} (h : hasI hs id = false) : unbV hs id = hs := List.filter_eq_self.2 fun x hx => by simpa using hasI_no.1 h x hx
theorem unbV_len (hs : List BkV) (id : Int) : (unbV hs id).length ≤ hs.length := List.length_filter_le _ _
theorem Tr.out {S P : Int} {hs : List BkV} (h : Tr S P hs) (id : Int) : Tr S P (unbV hs id) :=
  ⟨h.s1, h.s2, h.p1, h.p2, Nat.le_trans (unbV_len _ _) h.len, h.rt.sub List.filter_sublist⟩
/-- One sale. -/
def stepV (S P : Int) (hs : List BkV) (s : SaV) : List BkV × Int :=
  if s.k = 0 then bookV S P hs s.i s.n s.f else if s.k = 1 then (unbV hs s.i, if hasI hs s.i then 0 else -1) else (hs, -1)
theorem Tr.step {S P : Int} {hs : List BkV} (h : Tr S P hs) (s : SaV) : Tr S P (stepV S P hs s).1 := by
  unfold stepV
  split
  · exact h.book _ _ _
  · split
    · exact h.out _
    · exact h
def playS (S P : Int) (st : List BkV × List Int) (s : SaV) : List BkV × List Int := ((stepV S P st.1 s).1, st.2 ++ [(stepV S P st.1 s).2])
def playV (S P : Int) (hs : List BkV) (l : List SaV) : List BkV × List Int := l.foldl (playS S P) (hs, [])
theorem playV_nil (S P : Int) (hs : List BkV) : playV S P hs [] = (hs, []) := rfl
theorem playV_snoc (S P : Int) (hs : List BkV) (l : List SaV) (s : SaV) : playV S P hs (l ++ [s]) = playS S P (playV S P hs l) s := by simp [playV]
theorem playV_take {S P : Int} {hs : List BkV} {l : List SaV} {k : Nat} (hk : k < l.length) : playV S P hs (l.take (k + 1)) = playS S P (playV S P hs (l.take k)) (l.getD k SaV.zero) := by
  rw [List.take_succ_eq_append_getElem hk, playV_snoc]; simp [List.getD, hk]
theorem playV_tr {S P : Int} {hs : List BkV} (h : Tr S P hs) (l : List SaV) : Tr S P (playV S P hs l).1 := by
  refine snoc_ind (p := fun l => Tr S P (playV S P hs l).1) h (fun l s ih => ?_) l
  rw [playV_snoc]; exact ih.step s
theorem playV_len (S P : Int) (hs : List BkV) (l : List SaV) : (playV S P hs l).2.length = l.length := by
  refine snoc_ind (p := fun l => (playV S P hs l).2.length = l.length) rfl (fun l s ih => ?_) l
  rw [playV_snoc]; simp [playS, ih]

/-- Of the first k seats the one that is free the farthest from p on, and up to where. -/
def farF (hs : List BkV) (p e : Nat) : Nat → Int × Nat
  | 0 => (-1, p)
  | k + 1 => if (farF hs p e k).2 < untilE hs (k : Int) p e then ((k : Int), untilE hs (k : Int) p e) else farF hs p e k
theorem farF_ge (hs : List BkV) (p e : Nat) : ∀ k, p ≤ (farF hs p e k).2
  | 0 => Nat.le_refl _
  | k + 1 => by
    unfold farF; have := farF_ge hs p e k
    split
    · dsimp only; omega
    · exact this
theorem farF_le {hs : List BkV} {p e : Nat} (h : p ≤ e) : ∀ k, (farF hs p e k).2 ≤ e
  | 0 => h
  | k + 1 => by
    unfold farF
    split
    · exact untilE_le h
    · exact farF_le h k
theorem farF_max (hs : List BkV) (p e : Nat) : ∀ k s : Nat, s < k → untilE hs (s : Int) p e ≤ (farF hs p e k).2
  | 0, s, h => by omega
  | k + 1, s, h => by
    unfold farF
    by_cases hs' : s = k
    · subst hs'; split
      · exact Nat.le_refl _
      · omega
    · have := farF_max hs p e k s (by omega)
      split
      · dsimp only; omega
      · exact this
theorem farF_is (hs : List BkV) (p e : Nat) : ∀ k, p < (farF hs p e k).2 → 0 ≤ (farF hs p e k).1 ∧ (farF hs p e k).1 < k ∧ untilE hs (farF hs p e k).1 p e = (farF hs p e k).2
  | 0, h => by simp [farF] at h
  | k + 1, h => by
    unfold farF at h ⊢
    split
    · exact ⟨by dsimp only; omega, by dsimp only; omega, rfl⟩
    · rename_i hc
      rw [if_neg hc] at h
      have := farF_is hs p e k h
      exact ⟨this.1, by omega, this.2.2⟩
/-- The seats piece by piece, with so many steps left. -/
def spreadF (hs : List BkV) (S e : Nat) : Nat → Nat → Option (List Int)
  | 0, _ => some []
  | m + 1, p => if e ≤ p then some [] else if (farF hs p e S).2 = p then none else
      (spreadF hs S e m (farF hs p e S).2).map fun r => List.replicate ((farF hs p e S).2 - p) (farF hs p e S).1 ++ r
def spreadV (S P : Int) (hs : List BkV) (on off : Int) : List Int := if trainB S P hs && askB P on off then (spreadF hs S.toNat off.toNat (off - on).toNat on.toNat).getD [] else []
/-- What the seats so far have to do with what is told in the end. -/
def SpInv (hs : List BkV) (S e : Nat) (tot : Option (List Int)) (p : Nat) (out : List Int) : Prop := ∃ m, e - p ≤ m ∧ tot = (spreadF hs S e m p).map fun r => out ++ r
theorem SpInv.start (hs : List BkV) (S e p : Nat) : SpInv hs S e (spreadF hs S e (e - p) p) p [] := ⟨e - p, Nat.le_refl _, by simp⟩
theorem SpInv.done {hs : List BkV} {S e p : Nat} {tot : Option (List Int)} {out : List Int} (h : SpInv hs S e tot p out) (hp : e ≤ p) : tot = some out := by
  obtain ⟨m, _, rfl⟩ := h
  cases m with
  | zero => simp [spreadF]
  | succ m => simp [spreadF, hp]
theorem SpInv.none {hs : List BkV} {S e p : Nat} {tot : Option (List Int)} {out : List Int} (h : SpInv hs S e tot p out) (hp : p < e) (hf : (farF hs p e S).2 = p) : tot = none := by
  obtain ⟨m, hm, rfl⟩ := h
  cases m with
  | zero => omega
  | succ m => unfold spreadF; rw [if_neg (by omega), if_pos hf]; rfl
theorem SpInv.step {hs : List BkV} {S e p : Nat} {tot : Option (List Int)} {out : List Int} (h : SpInv hs S e tot p out) (hp : p < e) (hf : (farF hs p e S).2 ≠ p) : SpInv hs S e tot (farF hs p e S).2 (out ++ List.replicate ((farF hs p e S).2 - p) (farF hs p e S).1) := by
  obtain ⟨m, hm, rfl⟩ := h
  have := farF_ge hs p e S
  cases m with
  | zero => omega
  | succ m =>
    refine ⟨m, by omega, ?_⟩
    rw [spreadF, if_neg (by omega), if_neg hf]
    cases spreadF hs S e m (farF hs p e S).2 with
    | none => rfl
    | some r => simp
end Go.Proofs.YtjbecnflpfjicaaGreat.s14

