/- Slices of complex numbers: copied, compared, marked. -/
import Derived.Test.YtapnidhokpkmdaaZD
import Derived.Deep.RegionWith
namespace Go.Proofs.Ytapnidhokpkmdaa
open Go.RowKit Fl
attribute [local go_sem] run_store_float
theorem conv_fin (n : Int) : FloatKind.f64.format.order (floatOfInt .f64 n) (floatOfInt .f64 n) = some .eq := by
  obtain ⟨R, e, hle, hlt⟩ : ∃ R, floatOfInt .f64 n = Ieee.double.word (decide (n < 0)) R ∧ R ≤ 2047 * 2 ^ 52 ∧ R < 2 ^ 63 :=
    ⟨_, nearest_rr (decide (n < 0)) n.natAbs 0 0 (by omega), rr_le _ _, rr_lt _ _⟩
  rw [e]
  rcases self_order (Ieee.double.word (decide (n < 0)) R) with h | h
  · exfalso
    have hr := rg_word (decide (n < 0)) hlt
    generalize Ieee.double.word (decide (n < 0)) R = x at *
    by_cases h1 : R < 2047 * 2 ^ 52
    · have hx : fin x := by unfold fin; rw [hr]; exact h1
      have h2 : Ieee.double.order x x = none := h
      rw [order_eq hx hx] at h2
      cases h2
    · have hx : rg x = 2047 * 2 ^ 52 := by omega
      have h2 : Ieee.double.order x x = none := h
      unfold Ieee.Format.order at h2
      rw [read_inf hx] at h2
      cases hs : sg x <;> rw [hs] at h2 <;> cases h2
  · exact h
def ZV.vs (e : ZV) : List Value := [.float .f64 e.re, .float .f64 e.im]
def flatZs (es : List ZV) : List Value := es.flatMap ZV.vs
theorem flatZs_cons (e : ZV) (es : List ZV) : flatZs (e :: es) = .float .f64 e.re :: .float .f64 e.im :: flatZs es := rfl
theorem flatZs_len (es : List ZV) : (flatZs es).length = es.length * 2 := by
  induction es with
  | nil => rfl
  | cons e es ih => rw [flatZs_cons]; simp only [List.length_cons, ih]; omega
theorem flatZs_app (xs ys : List ZV) : flatZs (xs ++ ys) = flatZs xs ++ flatZs ys := by simp [flatZs]
theorem flatZs_get (es : List ZV) : ∀ i, i < es.length → (flatZs es)[i * 2]? = some (.float .f64 (es.getD i ZV.zero).re) ∧ (flatZs es)[i * 2 + 1]? = some (.float .f64 (es.getD i ZV.zero).im) := by
  induction es with
  | nil => intro i hi; simp at hi
  | cons e es ih =>
    intro i hi
    rw [flatZs_cons]
    cases i with
    | zero => simp
    | succ i =>
      have h := ih i (by simpa using hi)
      have e1 : (i + 1) * 2 = i * 2 + 1 + 1 := by omega
      rw [e1]
      simpa using h
/-- The cells behind a slice's address hold the structs es. -/
def Zs (w : World) (a : Option Addr) (es : List ZV) : Prop :=
  es = [] ∨ ∃ b off, a = some ⟨b, off, none⟩ ∧ ∀ i, i < es.length → w.cell? ⟨b, off + i * 2, none⟩ = some (.float .f64 (es.getD i ZV.zero).re) ∧ w.cell? ⟨b, off + i * 2 + 1, none⟩ = some (.float .f64 (es.getD i ZV.zero).im)
theorem Zs.below {w w' : World} {a : Option Addr} {es : List ZV} (h : Zs w a es) (hb : Below w.heap.size w w') : Zs w' a es := by
  rcases h with h | ⟨b, off, ha, hc⟩
  · exact .inl h
  · exact .inr ⟨b, off, ha, fun i hi => ⟨ble hb (hc i hi).1, ble hb (hc i hi).2⟩⟩
theorem Zs.of_owns {w : World} {base g n cap : Nat} {es : List ZV} (h : w.ownsRow base 26 2 (.slice (some ⟨g, 0, none⟩) n cap) n (flatZs es)) : Zs w (some ⟨g, 0, none⟩) es := by
  refine .inr ⟨g, 0, rfl, fun i hi => ?_⟩
  have hl := h.1
  rw [flatZs_len] at hl
  obtain ⟨f0, f1⟩ := flatZs_get es i hi
  refine ⟨?_, ?_⟩
  · rw [Nat.zero_add, h.cellAt _ (by omega)]; exact f0
  · rw [Nat.zero_add, h.cellAt _ (by omega)]; exact f1
theorem Zs.own {w : World} {base n c : Nat} {a : Option Addr} {es : List ZV} (h : w.ownsRow base 26 2 (.slice a n c) n (flatZs es)) : Zs w a es := by
  rcases h.2 with ⟨_, h0⟩ | ⟨g, cap', cur, he, _⟩
  · left
    have hl := h.1
    rw [flatZs_len, h0] at hl
    exact List.length_eq_zero_iff.1 (by omega)
  · simp only [Value.slice.injEq] at he
    obtain ⟨rfl, _, rfl⟩ := he
    exact Zs.of_owns h
theorem Zs.rw {w : World} {base n c : Nat} {a : Option Addr} {es : List ZV} (h : Rw w base 26 2 (.slice a n c) n (flatZs es)) : Zs w a es := by
  rcases h with h | ⟨h0, h1, _⟩
  · exact Zs.own h
  · left
    have := flatZs_len es
    rw [h1] at this
    simp at this
    exact List.length_eq_zero_iff.1 (by omega)
theorem lenZs {w : World} {base n : Nat} {v : Value} {es : List ZV} (h : Rw w base 26 2 v n (flatZs es)) : es.length = n := by
  have := h.len
  rw [flatZs_len] at this
  omega
theorem infoZs : (Try.prog.info? 26).map (fun i => (i.zero, i.size, i.bytes)) = some (some (.agg #[.float .f64 0, .float .f64 0]), 2, 16) := by kernel_rfl
theorem madeZs (n : Nat) : (madeCells (Value.agg #[.float .f64 0, .float .f64 0]).cells (n * 2)).toList = flatZs (List.replicate n ZV.zero) := by
  apply List.ext_getElem?
  intro j
  by_cases hj : j < n * 2
  · obtain ⟨i, q, hq, rfl⟩ : ∃ i q, q < 2 ∧ j = i * 2 + q := ⟨j / 2, j % 2, Nat.mod_lt _ (by omega), by omega⟩
    have h := flatZs_get (List.replicate n ZV.zero) i (by simp; omega)
    have ez : (List.replicate n ZV.zero).getD i ZV.zero = ZV.zero := by
      by_cases hi : i < n <;> simp [List.getD, hi]
    rw [ez] at h
    simp only [madeCells, Value.cells]
    match q, hq with
    | 0, _ => first | (rw [h.1]; simp [hj, ZV.zero]; done) | (have h := h.1; simp only [Nat.add_zero] at h hj ⊢; rw [h]; simp [hj, ZV.zero])
    | 1, _ => first | (rw [h.2]; simp [hj, ZV.zero]; done) | (have h := h.2; simp only [Nat.add_zero] at h hj ⊢; rw [h]; simp [hj, ZV.zero])
  · have hl := flatZs_len (List.replicate n ZV.zero)
    rw [List.length_replicate] at hl
    rw [List.getElem?_eq_none (l := flatZs _) (by omega)]
    simp [madeCells, hj]
theorem set_flatZs (xs ys : List ZV) (e : ZV) (x0 : Nat) (x1 : Nat) (q : Nat) (hq : q = xs.length) :
    ((flatZs (xs ++ e :: ys)).set (q * 2) (.float .f64 x0)).set (q * 2 + 1) (.float .f64 x1) = flatZs (xs ++ ⟨x0, x1⟩ :: ys) := by
  have e2 : (flatZs xs).length = q * 2 := by rw [flatZs_len, hq]
  rw [flatZs_app, flatZs_app, flatZs_cons, flatZs_cons, List.set_append_right _ _ (by omega), List.set_append_right _ _ (by omega), e2]
  have a0 : q * 2 - q * 2 = 0 := by omega
  have a1 : q * 2 + 1 - q * 2 = 1 := by omega
  rw [a0, a1]
  simp
theorem nextZs (es : List ZV) (k : Nat) (hk : k < es.length) : (es.take k ++ List.replicate (es.length - k) ZV.zero).getD k ZV.zero = ZV.zero := by
  have e : k - (es.take k).length = 0 := by simp; omega
  have e1 : es.length - k = (es.length - (k + 1)) + 1 := by omega
  rw [List.getD, List.getElem?_append_right (by simp; omega), e, e1, List.replicate_succ]
  rfl
theorem stepZs (es : List ZV) (k : Nat) (hk : k < es.length) :
    ((flatZs (es.take k ++ List.replicate (es.length - k) ZV.zero)).set (k * 2) (.float .f64 es[k].re)).set (k * 2 + 1) (.float .f64 es[k].im) = flatZs (es.take (k + 1) ++ List.replicate (es.length - (k + 1)) ZV.zero) := by
  have e1 : es.length - k = (es.length - (k + 1)) + 1 := by omega
  rw [e1, List.replicate_succ, set_flatZs _ _ _ _ _ k (by simp; omega), List.take_succ_eq_append_getElem hk, List.append_assoc]
  rfl

set_option maxHeartbeats 400000 in
theorem cSzZs (a : Option Addr) (n cap : Nat) (left : Int) (w : World) (h0 : 0 ≤ left) (h1 : left ≤ 1048576) (hn : n ≤ maxLen) :
    Calls Try.prog 40 #[.slice a n cap, .int .i64 left] w fun e w' => ∃ r, e = .returned (.int .i64 r) ∧ (r = -1 ∨ (r = left - n ∧ 0 ≤ r)) ∧ w' = w := by
  unfold maxLen at hn
  by_cases hl : left - n < 0
  · go_enter Try.func40, Try.ntmps40
    go_wp2
    go_ret
    exact ⟨_, rfl, .inl rfl, rfl⟩
  · go_enter Try.func40, Try.ntmps40
    go_wp2
    go_ret
    exact ⟨_, rfl, .inr ⟨rfl, by omega⟩, rfl⟩

set_option maxHeartbeats 800000 in
theorem cToZs (a : Option Addr) (cap : Nat) (es : List ZV) (w : World) (he : Zs w a es) (hl : es.length ≤ 1048576) :
    Calls Try.prog 42 #[.slice a es.length cap] w fun e w' => ∃ g, e = .returned (.slice (some ⟨g, 0, none⟩) es.length es.length) ∧
      w'.ownsRow w.heap.size 26 2 (.slice (some ⟨g, 0, none⟩) es.length es.length) es.length (flatZs es) ∧ g = w.heap.size ∧ Below w.heap.size w w' := by
  obtain ⟨i0, hi, hz0, hz1, hz2⟩ := info_parts infoZs
  go_enter Try.func42, Try.ntmps42
  go_wp2_with (at_make; refine wpList_make_full _ rfl _ _ 27 rfl w.heap.size 26 i0 (.agg #[.float .f64 0, .float .f64 0]) 2 Try.underlying27 hi hz0 hz1 _ _ _ _ es.length rfl rfl rfl rfl (by rw [hz2]; omega) (by unfold maxLen; omega) (Nat.le_refl _) ?_; intro w1 hown hgrow)
  have hown' : w1.ownsRow w.heap.size 26 2 (.slice (some ⟨w.heap.size, 0, none⟩) es.length es.length) es.length (flatZs (es.take 0 ++ List.replicate (es.length - 0) ZV.zero)) := by
    rw [madeZs] at hown
    simpa [flatZs] using hown
  have hbel : Below w.heap.size w w1 := (Below.refl _ _).grown hgrow (Nat.le_refl _) (fun k hk => by cases hk)
  clear hown hgrow
  go_loopw [4] (fun i wr => ∃ k : Nat, k ≤ es.length ∧ i = .int .i64 k ∧ wr.ownsRow w.heap.size 26 2 (.slice (some ⟨w.heap.size, 0, none⟩) es.length es.length) es.length (flatZs (es.take k ++ List.replicate (es.length - k) ZV.zero)) ∧ Below w.heap.size w wr) (fun i _ => es.length - (intOf i).toNat)
  case atStart => exact ⟨0, Nat.zero_le _, rfl, hown', hbel⟩
  case round =>
    obtain ⟨k, hk, rfl, hown, hb⟩ := hrel
    by_cases hlt : k < es.length
    · rcases he with he | ⟨b, off, rfl, hc⟩
      · simp [he] at hlt
      obtain ⟨q0, q1⟩ := hc k hlt
      have p0 := ble hb q0
      have p1 := ble hb q1
      have hbs := cell_lt q0
      clear hc q0 q1 hbel hown'
      go_wp2_with fail
      refine (cToZ es[k] _).mono ?_
      rintro e w1 ⟨rfl, hb1⟩
      have HB1 := btrans hb hb1
      have O1 := own_keep hown hb1
      have f0 := O1.frozenAt (k * 2)
      have f1 := O1.frozenAt (k * 2 + 1)
      have hlen : (es.take k ++ List.replicate (es.length - k) ZV.zero).length = es.length := by simp; omega
      have hget := nextZs es k hlt
      have z := flatZs_get (es.take k ++ List.replicate (es.length - k) ZV.zero) k (by omega)
      rw [hget] at z
      simp only [ZV.zero] at z
      have z0 := (O1.cellAt (k * 2) (by omega)).trans z.1
      have z1 := (O1.cellAt (k * 2 + 1) (by omega)).trans z.2
      have O2 := ((O1.stored (k * 2) (.float .f64 es[k].re)).1.stored (k * 2 + 1) (.float .f64 es[k].im)).1
      rw [stepZs es k hlt] at O2
      have HB2 := ((HB1.setCell (p := ⟨w.heap.size, k * 2, none⟩) (Nat.le_refl _) (.float .f64 es[k].re)).setCell (p := ⟨w.heap.size, k * 2 + 1, none⟩) (Nat.le_refl _) (.float .f64 es[k].im))
      clear z hget hlen O1 hown hb1 hb HB1
      unfold ZV.val
      go_wp2
      go_roundw
      case rel => exact ⟨k + 1, by omega, by go_num, O2, HB2⟩
      case measure => simp [intOf]; omega
    · have hkk : k = es.length := by omega
      subst hkk
      have hown2 : wr.ownsRow w.heap.size 26 2 (.slice (some ⟨w.heap.size, 0, none⟩) es.length es.length) es.length (flatZs es) := by simpa [flatZs] using hown
      clear hown hown' hbel he
      go_wp2
      go_ret
      exact ⟨_, rfl, hown2, rfl, hb⟩

theorem cls_get {es fs : List ZV} (h : es.map ZV.c = fs.map ZV.c) {k : Nat} (h1 : k < es.length) (h2 : k < fs.length) : (es[k]).c = (fs[k]).c := by
  have := congrArg (fun l => l[k]?) h
  simpa [h1, h2] using this
set_option maxHeartbeats 1600000 in
theorem cEqZs (a1 a2 : Option Addr) (p1 p2 : Nat) (es fs : List ZV) (w : World) (h1 : Zs w a1 es) (h2 : Zs w a2 fs) (hl : es.length ≤ 1048576) (hc : es.map ZV.c = fs.map ZV.c) :
    Calls Try.prog 43 #[.slice a1 es.length p1, .slice a2 fs.length p2] w fun e w' => e = .returned (.bool true) ∧ Below w.heap.size w w' := by
  have hlen : fs.length = es.length := by have := congrArg List.length hc; simpa using this.symm
  have hget := fun k (h : k < es.length) => cls_get hc h (by omega : k < fs.length)
  rw [hlen]
  go_enter Try.func43, Try.ntmps43
  go_wp2
  go_loopw [5] (fun i wr => ∃ k : Nat, k ≤ es.length ∧ i = .int .i64 k ∧ Below w.heap.size w wr) (fun i _ => es.length - (intOf i).toNat)
  case atStart => exact ⟨0, Nat.zero_le _, rfl, Below.refl _ _⟩
  case round =>
    obtain ⟨k, hk, rfl, hb⟩ := hrel
    by_cases hlt : k < es.length
    · have hlt2 : k < fs.length := by omega
      rcases h1 with h1 | ⟨b1, o1, rfl, hc1⟩
      · simp [h1] at hlt
      rcases h2 with h2 | ⟨b2, o2, rfl, hc2⟩
      · simp [h2] at hlt2
      obtain ⟨q0, q1⟩ := hc1 k hlt
      obtain ⟨r0, r1⟩ := hc2 k hlt2
      have E := hget k hlt
      have e1 : es.getD k ZV.zero = es[k] := by simp [List.getD, hlt]
      have e2 : fs.getD k ZV.zero = fs[k] := by simp [List.getD, hlt2]
      rw [e1] at q0 q1
      rw [e2] at r0 r1
      have p0 := ble hb q0
      have s0 := ble hb r0
      have p1 := ble hb q1
      have s1 := ble hb r1
      generalize es[k] = x at *
      generalize fs[k] = y at *
      obtain ⟨a, b⟩ := x
      obtain ⟨c, d⟩ := y
      dsimp only at p0 p1 s0 s1
      clear hc1 hc2 q0 q1 r0 r1 e1 e2 hget hlt2 hc hlen
      go_wp2_with fail
      go_region_with (go_at_call 35; refine (cEqZ2 a b c d _ E).mono ?_; rintro e w6 ⟨rfl, hb6⟩; have HB6 := btrans hb (undrew hb6))
      all_goals go_wp2
      all_goals go_roundw
      case rel => exact ⟨k + 1, by omega, by go_num, HB6⟩
      case measure => simp [intOf]; omega
      case rel => exact ⟨k + 1, by omega, by go_num, HB6⟩
      case measure => simp [intOf]; omega
    · clear hget hc
      go_wp2
      go_ret
      exact ⟨rfl, hb⟩

def markZV (k : Int) (i : Nat) : ZV := ⟨floatOfInt .f64 (k + 2 * (i : Int)), floatOfInt .f64 (k + 2 * (i : Int) + 1)⟩
def marksZs (k : Int) (n : Nat) : List ZV := (List.range n).map (markZV k)
theorem marksZs_len (k : Int) (n : Nat) : (marksZs k n).length = n := by simp [marksZs]
theorem marksZs_succ (k : Int) (n : Nat) : marksZs k (n + 1) = marksZs k n ++ [markZV k n] := by simp [marksZs, List.range_succ]
theorem marksZs_get (k : Int) (n i : Nat) (h : i < n) : (marksZs k n).getD i ZV.zero = markZV k i := by simp [marksZs, List.getD, h]
theorem markZs_step (es : List ZV) (k : Int) (i : Nat) (hi : i < es.length) :
    ((flatZs (marksZs k i ++ es.drop i)).set (i * 2) (.float .f64 (floatOfInt .f64 (k + 2 * (i : Int))))).set (i * 2 + 1) (.float .f64 (floatOfInt .f64 (k + 2 * (i : Int) + 1))) = flatZs (marksZs k (i + 1) ++ es.drop (i + 1)) := by
  rw [List.drop_eq_getElem_cons hi, set_flatZs _ _ _ _ _ i (marksZs_len k i).symm, marksZs_succ, List.append_assoc]
  rfl

set_option maxHeartbeats 3200000 in
theorem cMarkZsg (B g cap : Nat) (es : List ZV) (k : Int) (w : World) (ho : w.ownsRow B 26 2 (.slice (some ⟨g, 0, none⟩) es.length cap) es.length (flatZs es)) (hl : es.length ≤ 1048576) (hk0 : 0 ≤ k) (hk1 : k ≤ 10000000) :
    Calls Try.prog 44 #[.slice (some ⟨g, 0, none⟩) es.length cap, .int .i64 k] w fun e w' => e = .returned (.int .i64 (k + 2 * es.length)) ∧
      w'.ownsRow B 26 2 (.slice (some ⟨g, 0, none⟩) es.length cap) es.length (flatZs (marksZs k es.length)) ∧ w.grownBy w' (some g) := by
  go_enter Try.func44, Try.ntmps44
  go_wp2
  go_loopw [1, 5] (fun kk i wr => ∃ j : Nat, j ≤ es.length ∧ i = .int .i64 j ∧ kk = .int .i64 (k + 2 * j) ∧ wr.ownsRow B 26 2 (.slice (some ⟨g, 0, none⟩) es.length cap) es.length (flatZs (marksZs k j ++ es.drop j)) ∧ w.grownBy wr (some g)) (fun _ i _ => es.length - (intOf i).toNat)
  case atStart => exact ⟨0, Nat.zero_le _, rfl, by simp, by simpa [marksZs] using ho, World.grownBy.refl _ _⟩
  case round =>
    obtain ⟨j, hj, rfl, rfl, hown, hg⟩ := hrel
    by_cases hlt : j < es.length
    · have hlen : (marksZs k j ++ es.drop j).length = es.length := by rw [List.length_append, marksZs_len, List.length_drop]; omega
      obtain ⟨y0, y1⟩ := flatZs_get (marksZs k j ++ es.drop j) j (by omega)
      have f0 := hown.frozenAt (j * 2)
      have z0 := (hown.cellAt (j * 2) (by omega)).trans y0
      have f1 := hown.frozenAt (j * 2 + 1)
      have z1 := (hown.cellAt (j * 2 + 1) (by omega)).trans y1
      generalize (marksZs k j ++ es.drop j).getD j ZV.zero = E at z0 z1
      clear y0 y1
      obtain ⟨s1, t1⟩ := hown.stored (j * 2) (.float .f64 (floatOfInt .f64 (k + 2 * (j : Int))))
      obtain ⟨s2, t2⟩ := s1.stored (j * 2 + 1) (.float .f64 (floatOfInt .f64 (k + 2 * (j : Int) + 1)))
      rw [markZs_step es k j hlt] at s2
      have hg' := gtrans hg (gtrans t1 (t2))
      have w1 : IntKind.i64.wrap (k + 2 * (j : Int) + 1) = k + 2 * (j : Int) + 1 := (wrap_in _ (by omega) (by omega)).trans (by omega)
      have w2 : IntKind.i64.wrap (k + 2 * (j : Int) + 1 + 1) = k + 2 * ((j : Int) + 1) := (wrap_in _ (by omega) (by omega)).trans (by omega)
      clear hown s1 t1 t2 hg hlen
      go_wp2
      exact ⟨⟨j + 1, by omega, by go_num, by go_num, s2, hg'⟩, by simp [intOf]; omega⟩
    · have hjj : j = es.length := by omega
      subst hjj
      have hown2 : wr.ownsRow B 26 2 (.slice (some ⟨g, 0, none⟩) es.length cap) es.length (flatZs (marksZs k es.length)) := by simpa using hown
      clear hown
      go_wp2
      go_ret
      exact ⟨rfl, hown2, hg⟩

set_option maxHeartbeats 800000 in
/-- A mark on a row that is owned, or is nothing: it grows by a block of the row, if at all. -/
theorem cMarkZs (B n : Nat) (v : Value) (es : List ZV) (k : Int) (w : World) (ho : Rw w B 26 2 v n (flatZs es)) (hl : n ≤ 1048576) (hk0 : 0 ≤ k) (hk1 : k ≤ 10000000) :
    Calls Try.prog 44 #[v, .int .i64 k] w fun e w' => e = .returned (.int .i64 (k + 2 * n)) ∧
      Rw w' B 26 2 v n (flatZs (marksZs k n)) ∧ ∃ r, w.grownBy w' r ∧ ∀ j, r = some j → B ≤ j ∧ v.ownBlock = some j := by
  have hn := lenZs ho
  subst hn
  by_cases h0 : es.length = 0
  · obtain ⟨a, c, rfl⟩ := ho.form
    have hx : es = [] := List.length_eq_zero_iff.1 h0
    subst hx
    clear h0
    go_enter Try.func44, Try.ntmps44
    go_wp2
    go_loop [1, 5] (fun kk i => i = .int .i64 0 ∧ kk = .int .i64 k) (fun _ _ => 0)
    case atStart => exact ⟨rfl, rfl⟩
    case round =>
      obtain ⟨rfl, rfl⟩ := hrel
      go_wp2
      go_ret
      exact ⟨by simp, by simpa [marksZs] using ho, none, World.grownBy.refl _ _, fun j h => by cases h⟩
  · rcases ho with ho | ⟨h1, _⟩
    · rcases ho.2 with ⟨_, h1⟩ | ⟨g, cap, cur, rfl, hB, _⟩
      · omega
      · refine (cMarkZsg B g cap es k w ho hl hk0 hk1).mono ?_
        rintro e w' ⟨rfl, h2, h3⟩
        exact ⟨rfl, .inl h2, some g, h3, fun j h => by cases h; exact ⟨hB, rfl⟩⟩
    · omega

set_option maxHeartbeats 3200000 in
theorem cHeldZsa (ao : Option Addr) (n cap : Nat) (k : Int) (w : World) (he : Zs w ao (marksZs k n)) (hl : n ≤ 1048576) (hk0 : 0 ≤ k) (hk1 : k ≤ 10000000) :
    Calls Try.prog 45 #[.slice ao n cap, .int .i64 k] w fun e w' => e = .returned (.int .i64 (k + 2 * n)) ∧ w' = w := by
  go_enter Try.func45, Try.ntmps45
  go_wp2
  go_loop [1, 5] (fun kk i => ∃ j : Nat, j ≤ n ∧ i = .int .i64 j ∧ kk = .int .i64 (k + 2 * j)) (fun _ i => n - (intOf i).toNat)
  case atStart => exact ⟨0, Nat.zero_le _, rfl, by simp⟩
  case round =>
    obtain ⟨j, hj, rfl, rfl⟩ := hrel
    by_cases hlt : j < n
    · rcases he with he | ⟨b, off, rfl, hc⟩
      · have := marksZs_len k n; rw [he] at this; simp at this; omega
      obtain ⟨p0, p1⟩ := hc j (by rw [marksZs_len]; exact hlt)
      rw [marksZs_get k n j hlt] at p0 p1
      simp only [markZV] at p0 p1
      have w1 : IntKind.i64.wrap (k + 2 * (j : Int) + 1) = k + 2 * (j : Int) + 1 := (wrap_in _ (by omega) (by omega)).trans (by omega)
      have w2 : IntKind.i64.wrap (k + 2 * (j : Int) + 1 + 1) = k + 2 * ((j : Int) + 1) := (wrap_in _ (by omega) (by omega)).trans (by omega)
      have cf := conv_fin
      clear hc
      go_wp2
      exact ⟨⟨j + 1, by omega, by go_num, by go_num⟩, by simp [intOf]; omega⟩
    · have hjj : j = n := by omega
      subst hjj
      clear he
      go_wp2
      go_ret
      exact ⟨rfl, rfl⟩
theorem cHeldZs (B n : Nat) (v : Value) (k : Int) (w : World) (ho : Rw w B 26 2 v n (flatZs (marksZs k n))) (hl : n ≤ 1048576) (hk0 : 0 ≤ k) (hk1 : k ≤ 10000000) :
    Calls Try.prog 45 #[v, .int .i64 k] w fun e w' => e = .returned (.int .i64 (k + 2 * n)) ∧ w' = w := by
  obtain ⟨a, c, rfl⟩ := ho.form
  exact cHeldZsa a n c k w (Zs.rw ho) hl hk0 hk1
end Go.Proofs.Ytapnidhokpkmdaa
