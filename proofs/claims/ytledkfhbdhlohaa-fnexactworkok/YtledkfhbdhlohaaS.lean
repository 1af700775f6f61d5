/- Slices of links: copied, compared, marked. -/
import Derived.Test.YtledkfhbdhlohaaA
import Derived.Deep.RegionWith
namespace Go.Proofs.Ytledkfhbdhlohaa
open Go.RowKit
structure LinkV where
  f : Int
  t : Int
  l : Int
  k : Int
  deriving DecidableEq
def LinkV.zero : LinkV := ⟨0, 0, 0, 0⟩
def LinkV.val (e : LinkV) : Value := .agg #[.int .i64 e.f, .int .i64 e.t, .int .i64 e.l, .int .i64 e.k]
def LinkV.vs (e : LinkV) : List Value := [.int .i64 e.f, .int .i64 e.t, .int .i64 e.l, .int .i64 e.k]
def flatLinks (es : List LinkV) : List Value := es.flatMap LinkV.vs
theorem flatLinks_cons (e : LinkV) (es : List LinkV) : flatLinks (e :: es) = .int .i64 e.f :: .int .i64 e.t :: .int .i64 e.l :: .int .i64 e.k :: flatLinks es := rfl
theorem flatLinks_len (es : List LinkV) : (flatLinks es).length = es.length * 4 := by
  induction es with
  | nil => rfl
  | cons e es ih => rw [flatLinks_cons]; simp only [List.length_cons, ih]; omega
theorem flatLinks_app (xs ys : List LinkV) : flatLinks (xs ++ ys) = flatLinks xs ++ flatLinks ys := by simp [flatLinks]
theorem flatLinks_get (es : List LinkV) : ∀ i, i < es.length → (flatLinks es)[i * 4]? = some (.int .i64 (es.getD i LinkV.zero).f) ∧ (flatLinks es)[i * 4 + 1]? = some (.int .i64 (es.getD i LinkV.zero).t) ∧ (flatLinks es)[i * 4 + 2]? = some (.int .i64 (es.getD i LinkV.zero).l) ∧ (flatLinks es)[i * 4 + 3]? = some (.int .i64 (es.getD i LinkV.zero).k) := by
  induction es with
  | nil => intro i hi; simp at hi
  | cons e es ih =>
    intro i hi
    rw [flatLinks_cons]
    cases i with
    | zero => simp
    | succ i =>
      have h := ih i (by simpa using hi)
      have e1 : (i + 1) * 4 = i * 4 + 1 + 1 + 1 + 1 := by omega
      rw [e1]
      simpa using h
/-- The cells behind a slice's address hold the structs es. -/
def Links (w : World) (a : Option Addr) (es : List LinkV) : Prop :=
  es = [] ∨ ∃ b off, a = some ⟨b, off, none⟩ ∧ ∀ i, i < es.length → w.cell? ⟨b, off + i * 4, none⟩ = some (.int .i64 (es.getD i LinkV.zero).f) ∧ w.cell? ⟨b, off + i * 4 + 1, none⟩ = some (.int .i64 (es.getD i LinkV.zero).t) ∧ w.cell? ⟨b, off + i * 4 + 2, none⟩ = some (.int .i64 (es.getD i LinkV.zero).l) ∧ w.cell? ⟨b, off + i * 4 + 3, none⟩ = some (.int .i64 (es.getD i LinkV.zero).k)
theorem Links.below {w w' : World} {a : Option Addr} {es : List LinkV} (h : Links w a es) (hb : Below w.heap.size w w') : Links w' a es := by
  rcases h with h | ⟨b, off, ha, hc⟩
  · exact .inl h
  · exact .inr ⟨b, off, ha, fun i hi => ⟨ble hb (hc i hi).1, ble hb (hc i hi).2.1, ble hb (hc i hi).2.2.1, ble hb (hc i hi).2.2.2⟩⟩
theorem Links.of_owns {w : World} {base g n cap : Nat} {es : List LinkV} (h : w.ownsRow base 40 4 (.slice (some ⟨g, 0, none⟩) n cap) n (flatLinks es)) : Links w (some ⟨g, 0, none⟩) es := by
  refine .inr ⟨g, 0, rfl, fun i hi => ?_⟩
  have hl := h.1
  rw [flatLinks_len] at hl
  obtain ⟨f0, f1, f2, f3⟩ := flatLinks_get es i hi
  refine ⟨?_, ?_, ?_, ?_⟩
  · rw [Nat.zero_add, h.cellAt _ (by omega)]; exact f0
  · rw [Nat.zero_add, h.cellAt _ (by omega)]; exact f1
  · rw [Nat.zero_add, h.cellAt _ (by omega)]; exact f2
  · rw [Nat.zero_add, h.cellAt _ (by omega)]; exact f3
theorem Links.own {w : World} {base n c : Nat} {a : Option Addr} {es : List LinkV} (h : w.ownsRow base 40 4 (.slice a n c) n (flatLinks es)) : Links w a es := by
  rcases h.2 with ⟨_, h0⟩ | ⟨g, cap', cur, he, _⟩
  · left
    have hl := h.1
    rw [flatLinks_len, h0] at hl
    exact List.length_eq_zero_iff.1 (by omega)
  · simp only [Value.slice.injEq] at he
    obtain ⟨rfl, _, rfl⟩ := he
    exact Links.of_owns h
theorem Links.rw {w : World} {base n c : Nat} {a : Option Addr} {es : List LinkV} (h : Rw w base 40 4 (.slice a n c) n (flatLinks es)) : Links w a es := by
  rcases h with h | ⟨h0, h1, _⟩
  · exact Links.own h
  · left
    have := flatLinks_len es
    rw [h1] at this
    simp at this
    exact List.length_eq_zero_iff.1 (by omega)
theorem lenLinks {w : World} {base n : Nat} {v : Value} {es : List LinkV} (h : Rw w base 40 4 v n (flatLinks es)) : es.length = n := by
  have := h.len
  rw [flatLinks_len] at this
  omega
theorem infoLinks : (Try.prog.info? 40).map (fun i => (i.zero, i.size, i.bytes)) = some (some (.agg #[.int .i64 0, .int .i64 0, .int .i64 0, .int .i64 0]), 4, 32) := by kernel_rfl
theorem madeLinks (n : Nat) : (madeCells (Value.agg #[.int .i64 0, .int .i64 0, .int .i64 0, .int .i64 0]).cells (n * 4)).toList = List.replicate (n * 4) (Value.int .i64 0) := by
  apply List.ext_getElem?
  intro j
  by_cases hj : j < n * 4
  · have h4 : j % 4 < 4 := Nat.mod_lt _ (by omega)
    simp only [madeCells, Value.cells]
    generalize hq : j % 4 = q at h4
    match q, h4 with
    | 0, _ => simp [hj, hq]
    | 1, _ => simp [hj, hq]
    | 2, _ => simp [hj, hq]
    | 3, _ => simp [hj, hq]
  · simp [madeCells, hj]
theorem stepLinks (es : List LinkV) (k : Nat) (hk : k < es.length) :
    ((((flatLinks (es.take k) ++ List.replicate ((es.length - k) * 4) (Value.int .i64 0)).set (k * 4) (.int .i64 es[k].f)).set (k * 4 + 1) (.int .i64 es[k].t)).set (k * 4 + 2) (.int .i64 es[k].l)).set (k * 4 + 3) (.int .i64 es[k].k) =
      flatLinks (es.take (k + 1)) ++ List.replicate ((es.length - (k + 1)) * 4) (Value.int .i64 0) := by
  have e1 : (es.length - k) * 4 = (es.length - (k + 1)) * 4 + 1 + 1 + 1 + 1 := by omega
  have e2 : (flatLinks (es.take k)).length = k * 4 := by rw [flatLinks_len]; simp; omega
  rw [List.set_append_right _ _ (by omega), List.set_append_right _ _ (by omega), List.set_append_right _ _ (by omega), List.set_append_right _ _ (by omega), e2, e1,
    List.replicate_succ, List.replicate_succ, List.replicate_succ, List.replicate_succ, List.take_succ_eq_append_getElem hk, flatLinks_app]
  have a0 : k * 4 - k * 4 = 0 := by omega
  have a1 : k * 4 + 1 - k * 4 = 1 := by omega
  have a2 : k * 4 + 2 - k * 4 = 2 := by omega
  have a3 : k * 4 + 3 - k * 4 = 3 := by omega
  rw [a0, a1, a2, a3]
  simp [flatLinks, LinkV.vs]
theorem set_flatLinks (xs ys : List LinkV) (e : LinkV) (x0 x1 x2 x3 : Int) (q : Nat) (hq : q = xs.length) :
    ((((flatLinks (xs ++ e :: ys)).set (q * 4) (.int .i64 x0)).set (q * 4 + 1) (.int .i64 x1)).set (q * 4 + 2) (.int .i64 x2)).set (q * 4 + 3) (.int .i64 x3) = flatLinks (xs ++ ⟨x0, x1, x2, x3⟩ :: ys) := by
  have e2 : (flatLinks xs).length = q * 4 := by rw [flatLinks_len, hq]
  rw [flatLinks_app, flatLinks_app, flatLinks_cons, flatLinks_cons, List.set_append_right _ _ (by omega), List.set_append_right _ _ (by omega), List.set_append_right _ _ (by omega), List.set_append_right _ _ (by omega), e2]
  have a0 : q * 4 - q * 4 = 0 := by omega
  have a1 : q * 4 + 1 - q * 4 = 1 := by omega
  have a2 : q * 4 + 2 - q * 4 = 2 := by omega
  have a3 : q * 4 + 3 - q * 4 = 3 := by omega
  rw [a0, a1, a2, a3]
  simp

set_option maxHeartbeats 400000 in
theorem cSzLinks (a : Option Addr) (n cap : Nat) (left : Int) (w : World) (h0 : 0 ≤ left) (h1 : left ≤ 1048576) (hn : n ≤ maxLen) :
    Calls Try.prog 13 #[.slice a n cap, .int .i64 left] w fun e w' => ∃ r, e = .returned (.int .i64 r) ∧ (r = -1 ∨ (r = left - n ∧ 0 ≤ r)) ∧ w' = w := by
  unfold maxLen at hn
  by_cases hl : left - n < 0
  · go_enter Try.func13, Try.ntmps13
    go_wp2
    go_ret
    exact ⟨_, rfl, .inl rfl, rfl⟩
  · go_enter Try.func13, Try.ntmps13
    go_wp2
    go_ret
    exact ⟨_, rfl, .inr ⟨rfl, by omega⟩, rfl⟩

set_option maxHeartbeats 800000 in
theorem cToLinkV (e : LinkV) (w : World) : Calls Try.prog 26 #[e.val] w fun r w' => r = .returned e.val ∧ Below w.heap.size w w' := by
  obtain ⟨x0, x1, x2, x3⟩ := e
  unfold LinkV.val
  go_enter Try.func26, Try.ntmps26
  go_wp2
  refine bodyPost_ret (v := .agg #[.int .i64 x0, .int .i64 x1, .int .i64 x2, .int .i64 x3]) (by simp [results, Try.results26, go_sem]) rfl ⟨rfl, ?_⟩
  exact btrans (btrans (balloc _ _) (balloc _ _)) (balloc _ _)

set_option maxHeartbeats 800000 in
theorem cToLinks (a : Option Addr) (cap : Nat) (es : List LinkV) (w : World) (he : Links w a es) (hl : es.length ≤ 1048576) :
    Calls Try.prog 16 #[.slice a es.length cap] w fun e w' => ∃ g, e = .returned (.slice (some ⟨g, 0, none⟩) es.length es.length) ∧
      w'.ownsRow w.heap.size 40 4 (.slice (some ⟨g, 0, none⟩) es.length es.length) es.length (flatLinks es) ∧ g = w.heap.size ∧ Below w.heap.size w w' := by
  obtain ⟨i0, hi, hz0, hz1, hz2⟩ := info_parts infoLinks
  go_enter Try.func16, Try.ntmps16
  go_wp2_with (at_make; refine wpList_make_full _ rfl _ _ 28 rfl w.heap.size 40 i0 (.agg #[.int .i64 0, .int .i64 0, .int .i64 0, .int .i64 0]) 4 Try.underlying28 hi hz0 hz1 _ _ _ _ es.length rfl rfl rfl rfl (by rw [hz2]; omega) (by unfold maxLen; omega) (Nat.le_refl _) ?_; intro w1 hown hgrow)
  have hown' : w1.ownsRow w.heap.size 40 4 (.slice (some ⟨w.heap.size, 0, none⟩) es.length es.length) es.length (flatLinks (es.take 0) ++ List.replicate ((es.length - 0) * 4) (Value.int .i64 0)) := by
    rw [madeLinks] at hown
    simpa [flatLinks] using hown
  have hbel : Below w.heap.size w w1 := (Below.refl _ _).grown hgrow (Nat.le_refl _) (fun k hk => by cases hk)
  clear hown hgrow
  go_loopw [4] (fun i wr => ∃ k : Nat, k ≤ es.length ∧ i = .int .i64 k ∧ wr.ownsRow w.heap.size 40 4 (.slice (some ⟨w.heap.size, 0, none⟩) es.length es.length) es.length (flatLinks (es.take k) ++ List.replicate ((es.length - k) * 4) (Value.int .i64 0)) ∧ Below w.heap.size w wr) (fun i _ => es.length - (intOf i).toNat)
  case atStart => exact ⟨0, Nat.zero_le _, rfl, hown', hbel⟩
  case round =>
    obtain ⟨k, hk, rfl, hown, hb⟩ := hrel
    by_cases hlt : k < es.length
    · rcases he with he | ⟨b, off, rfl, hc⟩
      · simp [he] at hlt
      obtain ⟨q0, q1, q2, q3⟩ := hc k hlt
      have p0 := ble hb q0
      have p1 := ble hb q1
      have p2 := ble hb q2
      have p3 := ble hb q3
      have hbs := cell_lt q0
      clear hc q0 q1 q2 q3 hbel hown'
      go_wp2_with fail
      refine (cToLinkV es[k] _).mono ?_
      rintro e w1 ⟨rfl, hb1⟩
      have HB1 := btrans hb hb1
      have O1 := own_keep hown hb1
      have f0 := O1.frozenAt (k * 4)
      have f1 := O1.frozenAt (k * 4 + 1)
      have f2 := O1.frozenAt (k * 4 + 2)
      have f3 := O1.frozenAt (k * 4 + 3)
      have z : ∀ j, j < 4 → w1.cell? ⟨w.heap.size, k * 4 + j, none⟩ = some (.int .i64 0) := by
        intro j hj
        rw [O1.cellAt _ (by omega), List.getElem?_append_right (by rw [flatLinks_len]; simp; omega)]
        simp [List.getElem?_replicate, flatLinks_len]
        omega
      have z0 := z 0 (by omega)
      have z1 := z 1 (by omega)
      have z2 := z 2 (by omega)
      have z3 := z 3 (by omega)
      have O2 := ((((O1.stored (k * 4) (.int .i64 es[k].f)).1.stored (k * 4 + 1) (.int .i64 es[k].t)).1.stored (k * 4 + 2) (.int .i64 es[k].l)).1.stored (k * 4 + 3) (.int .i64 es[k].k)).1
      rw [stepLinks es k hlt] at O2
      have HB2 := ((((HB1.setCell (p := ⟨w.heap.size, k * 4, none⟩) (Nat.le_refl _) (.int .i64 es[k].f)).setCell (p := ⟨w.heap.size, k * 4 + 1, none⟩) (Nat.le_refl _) (.int .i64 es[k].t)).setCell (p := ⟨w.heap.size, k * 4 + 2, none⟩) (Nat.le_refl _) (.int .i64 es[k].l)).setCell (p := ⟨w.heap.size, k * 4 + 3, none⟩) (Nat.le_refl _) (.int .i64 es[k].k))
      clear z O1 hown hb1 hb HB1
      rw [Nat.add_zero] at z0
      unfold LinkV.val
      go_wp2
      go_roundw
      case rel => exact ⟨k + 1, by omega, by go_num, O2, HB2⟩
      case measure => simp [intOf]; omega
    · have hkk : k = es.length := by omega
      subst hkk
      have hown2 : wr.ownsRow w.heap.size 40 4 (.slice (some ⟨w.heap.size, 0, none⟩) es.length es.length) es.length (flatLinks es) := by simpa [flatLinks] using hown
      clear hown hown' hbel he
      go_wp2
      go_ret
      exact ⟨_, rfl, hown2, rfl, hb⟩

set_option maxHeartbeats 800000 in
theorem cEqLinkV (e : LinkV) (w : World) : Calls Try.prog 27 #[e.val, e.val] w fun r w' => r = .returned (.bool true) ∧ Below w.heap.size w w' := by
  obtain ⟨x0, x1, x2, x3⟩ := e
  unfold LinkV.val
  have hW := btrans (balloc w (.cells #[.int .i64 x0, .int .i64 x1, .int .i64 x2, .int .i64 x3] 40)) (balloc _ (.cells #[.int .i64 x0, .int .i64 x1, .int .i64 x2, .int .i64 x3] 40))
  go_enter Try.func27, Try.ntmps27
  go_wp2
  go_ret
  exact ⟨rfl, hW⟩

set_option maxHeartbeats 1600000 in
theorem cEqLinks (a1 a2 : Option Addr) (p1 p2 : Nat) (es : List LinkV) (w : World) (h1 : Links w a1 es) (h2 : Links w a2 es) (hl : es.length ≤ 1048576) :
    Calls Try.prog 24 #[.slice a1 es.length p1, .slice a2 es.length p2] w fun e w' => e = .returned (.bool true) ∧ Below w.heap.size w w' := by
  go_enter Try.func24, Try.ntmps24
  go_wp2
  go_loopw [5] (fun i wr => ∃ k : Nat, k ≤ es.length ∧ i = .int .i64 k ∧ Below w.heap.size w wr) (fun i _ => es.length - (intOf i).toNat)
  case atStart => exact ⟨0, Nat.zero_le _, rfl, Below.refl _ _⟩
  case round =>
    obtain ⟨k, hk, rfl, hb⟩ := hrel
    by_cases hlt : k < es.length
    · rcases h1 with h1 | ⟨b1, o1, rfl, hc1⟩
      · simp [h1] at hlt
      rcases h2 with h2 | ⟨b2, o2, rfl, hc2⟩
      · simp [h2] at hlt
      obtain ⟨q0, q1, q2, q3⟩ := hc1 k hlt
      obtain ⟨r0, r1, r2, r3⟩ := hc2 k hlt
      have p0 := ble hb q0
      have s0 := ble hb r0
      have p1 := ble hb q1
      have s1 := ble hb r1
      have p2 := ble hb q2
      have s2 := ble hb r2
      have p3 := ble hb q3
      have s3 := ble hb r3
      clear hc1 hc2 q0 q1 q2 q3 r0 r1 r2 r3
      go_wp2_with fail
      go_region_with (go_at_call 27; refine (cEqLinkV es[k] _).mono ?_; rintro e w6 ⟨rfl, hb6⟩; have HB6 := btrans hb (undrew hb6))
      all_goals go_wp2
      all_goals go_roundw
      case rel => exact ⟨k + 1, by omega, by go_num, HB6⟩
      case measure => simp [intOf]; omega
      case rel => exact ⟨k + 1, by omega, by go_num, HB6⟩
      case measure => simp [intOf]; omega
    · go_wp2
      go_ret
      exact ⟨rfl, hb⟩
theorem cEqLinksn (n : Nat) (B1 B2 : Nat) (v1 v2 : Value) (es : List LinkV) (w : World) (h1 : Rw w B1 40 4 v1 n (flatLinks es)) (h2 : Rw w B2 40 4 v2 n (flatLinks es)) (hl : n ≤ 1048576) :
    Calls Try.prog 24 #[v1, v2] w fun e w' => e = .returned (.bool true) ∧ Below w.heap.size w w' := by
  obtain ⟨a1, c1, rfl⟩ := h1.form
  obtain ⟨a2, c2, rfl⟩ := h2.form
  have hn := lenLinks h1
  subst hn
  exact cEqLinks a1 a2 c1 c2 es w (Links.rw h1) (Links.rw h2) hl

def markLinkV (k : Int) (i : Nat) : LinkV := ⟨k + 4 * i, k + 4 * i + 1, k + 4 * i + 2, k + 4 * i + 3⟩
def marksLinks (k : Int) (n : Nat) : List LinkV := (List.range n).map (markLinkV k)
theorem marksLinks_len (k : Int) (n : Nat) : (marksLinks k n).length = n := by simp [marksLinks]
theorem marksLinks_succ (k : Int) (n : Nat) : marksLinks k (n + 1) = marksLinks k n ++ [markLinkV k n] := by simp [marksLinks, List.range_succ]
theorem marksLinks_get (k : Int) (n i : Nat) (h : i < n) : (marksLinks k n).getD i LinkV.zero = markLinkV k i := by simp [marksLinks, List.getD, h]
theorem markLinks_step (es : List LinkV) (k : Int) (i : Nat) (hi : i < es.length) :
    ((((flatLinks (marksLinks k i ++ es.drop i)).set (i * 4) (.int .i64 (k + 4 * i))).set (i * 4 + 1) (.int .i64 (k + 4 * i + 1))).set (i * 4 + 2) (.int .i64 (k + 4 * i + 2))).set (i * 4 + 3) (.int .i64 (k + 4 * i + 3)) = flatLinks (marksLinks k (i + 1) ++ es.drop (i + 1)) := by
  rw [List.drop_eq_getElem_cons hi, set_flatLinks _ _ _ _ _ _ _ i (marksLinks_len k i).symm, marksLinks_succ, List.append_assoc]
  rfl

end Go.Proofs.Ytledkfhbdhlohaa
