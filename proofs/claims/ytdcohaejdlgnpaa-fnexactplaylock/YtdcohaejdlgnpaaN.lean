/- Slices of needs: copied, compared. -/
import Derived.Test.YtdcohaejdlgnpaaA
import Derived.Deep.RegionWith
namespace Go.Proofs.Ytdcohaejdlgnpaa
open Go.RowKit
structure NeedV where
  point : Int
  pos : Int
  deriving DecidableEq
def NeedV.zero : NeedV := ⟨0, 0⟩
def NeedV.val (e : NeedV) : Value := .agg #[.int .i64 e.point, .int .i64 e.pos]
def NeedV.vs (e : NeedV) : List Value := [.int .i64 e.point, .int .i64 e.pos]
def flatNeeds (es : List NeedV) : List Value := es.flatMap NeedV.vs
theorem flatNeeds_cons (e : NeedV) (es : List NeedV) : flatNeeds (e :: es) = .int .i64 e.point :: .int .i64 e.pos :: flatNeeds es := rfl
theorem flatNeeds_len (es : List NeedV) : (flatNeeds es).length = es.length * 2 := by
  induction es with
  | nil => rfl
  | cons e es ih => rw [flatNeeds_cons]; simp only [List.length_cons, ih]; omega
theorem flatNeeds_app (xs ys : List NeedV) : flatNeeds (xs ++ ys) = flatNeeds xs ++ flatNeeds ys := by simp [flatNeeds]
theorem flatNeeds_get (es : List NeedV) : ∀ i, i < es.length → (flatNeeds es)[i * 2]? = some (.int .i64 (es.getD i NeedV.zero).point) ∧ (flatNeeds es)[i * 2 + 1]? = some (.int .i64 (es.getD i NeedV.zero).pos) := by
  induction es with
  | nil => intro i hi; simp at hi
  | cons e es ih =>
    intro i hi
    rw [flatNeeds_cons]
    cases i with
    | zero => simp
    | succ i =>
      have h := ih i (by simpa using hi)
      have e1 : (i + 1) * 2 = i * 2 + 1 + 1 := by omega
      rw [e1]
      simpa using h
/-- The cells behind a slice's address hold the structs es. -/
def Needs (w : World) (a : Option Addr) (es : List NeedV) : Prop :=
  es = [] ∨ ∃ b off, a = some ⟨b, off, none⟩ ∧ ∀ i, i < es.length → w.cell? ⟨b, off + i * 2, none⟩ = some (.int .i64 (es.getD i NeedV.zero).point) ∧ w.cell? ⟨b, off + i * 2 + 1, none⟩ = some (.int .i64 (es.getD i NeedV.zero).pos)
theorem Needs.below {w w' : World} {a : Option Addr} {es : List NeedV} (h : Needs w a es) (hb : Below w.heap.size w w') : Needs w' a es := by
  rcases h with h | ⟨b, off, ha, hc⟩
  · exact .inl h
  · exact .inr ⟨b, off, ha, fun i hi => ⟨ble hb (hc i hi).1, ble hb (hc i hi).2⟩⟩
theorem Needs.of_owns {w : World} {base g n cap : Nat} {es : List NeedV} (h : w.ownsRow base 79 2 (.slice (some ⟨g, 0, none⟩) n cap) n (flatNeeds es)) : Needs w (some ⟨g, 0, none⟩) es := by
  refine .inr ⟨g, 0, rfl, fun i hi => ?_⟩
  have hl := h.1
  rw [flatNeeds_len] at hl
  obtain ⟨f0, f1⟩ := flatNeeds_get es i hi
  refine ⟨?_, ?_⟩
  · rw [Nat.zero_add, h.cellAt _ (by omega)]; exact f0
  · rw [Nat.zero_add, h.cellAt _ (by omega)]; exact f1
theorem Needs.own {w : World} {base n c : Nat} {a : Option Addr} {es : List NeedV} (h : w.ownsRow base 79 2 (.slice a n c) n (flatNeeds es)) : Needs w a es := by
  rcases h.2 with ⟨_, h0⟩ | ⟨g, cap', cur, he, _⟩
  · left
    have hl := h.1
    rw [flatNeeds_len, h0] at hl
    exact List.length_eq_zero_iff.1 (by omega)
  · simp only [Value.slice.injEq] at he
    obtain ⟨rfl, _, rfl⟩ := he
    exact Needs.of_owns h
theorem Needs.rw {w : World} {base n c : Nat} {a : Option Addr} {es : List NeedV} (h : Rw w base 79 2 (.slice a n c) n (flatNeeds es)) : Needs w a es := by
  rcases h with h | ⟨h0, h1, _⟩
  · exact Needs.own h
  · left
    have := flatNeeds_len es
    rw [h1] at this
    simp at this
    exact List.length_eq_zero_iff.1 (by omega)
theorem lenNeeds {w : World} {base n : Nat} {v : Value} {es : List NeedV} (h : Rw w base 79 2 v n (flatNeeds es)) : es.length = n := by
  have := h.len
  rw [flatNeeds_len] at this
  omega
theorem infoNeeds : (Try.prog.info? 79).map (fun i => (i.zero, i.size, i.bytes)) = some (some (.agg #[.int .i64 0, .int .i64 0]), 2, 16) := by kernel_rfl
theorem madeNeeds (n : Nat) : (madeCells (Value.agg #[.int .i64 0, .int .i64 0]).cells (n * 2)).toList = List.replicate (n * 2) (Value.int .i64 0) := by
  apply List.ext_getElem?
  intro j
  by_cases hj : j < n * 2
  · have h4 : j % 2 < 2 := Nat.mod_lt _ (by omega)
    simp only [madeCells, Value.cells]
    generalize hq : j % 2 = q at h4
    match q, h4 with
    | 0, _ => simp [hj, hq]
    | 1, _ => simp [hj, hq]
  · simp [madeCells, hj]
theorem stepNeeds (es : List NeedV) (k : Nat) (hk : k < es.length) :
    ((flatNeeds (es.take k) ++ List.replicate ((es.length - k) * 2) (Value.int .i64 0)).set (k * 2) (.int .i64 es[k].point)).set (k * 2 + 1) (.int .i64 es[k].pos) =
      flatNeeds (es.take (k + 1)) ++ List.replicate ((es.length - (k + 1)) * 2) (Value.int .i64 0) := by
  have e1 : (es.length - k) * 2 = (es.length - (k + 1)) * 2 + 1 + 1 := by omega
  have e2 : (flatNeeds (es.take k)).length = k * 2 := by rw [flatNeeds_len]; simp; omega
  rw [List.set_append_right _ _ (by omega), List.set_append_right _ _ (by omega), e2, e1,
    List.replicate_succ, List.replicate_succ, List.take_succ_eq_append_getElem hk, flatNeeds_app]
  have a0 : k * 2 - k * 2 = 0 := by omega
  have a1 : k * 2 + 1 - k * 2 = 1 := by omega
  rw [a0, a1]
  simp [flatNeeds, NeedV.vs]
theorem set_flatNeeds (xs ys : List NeedV) (e : NeedV) (x0 x1 : Int) (q : Nat) (hq : q = xs.length) :
    ((flatNeeds (xs ++ e :: ys)).set (q * 2) (.int .i64 x0)).set (q * 2 + 1) (.int .i64 x1) = flatNeeds (xs ++ ⟨x0, x1⟩ :: ys) := by
  have e2 : (flatNeeds xs).length = q * 2 := by rw [flatNeeds_len, hq]
  rw [flatNeeds_app, flatNeeds_app, flatNeeds_cons, flatNeeds_cons, List.set_append_right _ _ (by omega), List.set_append_right _ _ (by omega), e2]
  have a0 : q * 2 - q * 2 = 0 := by omega
  have a1 : q * 2 + 1 - q * 2 = 1 := by omega
  rw [a0, a1]
  simp

set_option maxHeartbeats 400000 in
theorem cSzNeeds (a : Option Addr) (n cap : Nat) (left : Int) (w : World) (h0 : 0 ≤ left) (h1 : left ≤ 1048576) (hn : n ≤ maxLen) :
    Calls Try.prog 87 #[.slice a n cap, .int .i64 left] w fun e w' => ∃ r, e = .returned (.int .i64 r) ∧ (r = -1 ∨ (r = left - n ∧ 0 ≤ r)) ∧ w' = w := by
  unfold maxLen at hn
  by_cases hl : left - n < 0
  · go_enter Try.func87, Try.ntmps87
    go_wp2
    go_ret
    exact ⟨_, rfl, .inl rfl, rfl⟩
  · go_enter Try.func87, Try.ntmps87
    go_wp2
    go_ret
    exact ⟨_, rfl, .inr ⟨rfl, by omega⟩, rfl⟩

set_option maxHeartbeats 800000 in
theorem cToNeedV (e : NeedV) (w : World) : Calls Try.prog 97 #[e.val] w fun r w' => r = .returned e.val ∧ Below w.heap.size w w' := by
  obtain ⟨x0, x1⟩ := e
  unfold NeedV.val
  go_enter Try.func97, Try.ntmps97
  go_wp2
  refine bodyPost_ret (v := .agg #[.int .i64 x0, .int .i64 x1]) (by simp [results, Try.results97, go_sem]) rfl ⟨rfl, ?_⟩
  exact btrans (btrans (balloc _ _) (balloc _ _)) (balloc _ _)

set_option maxHeartbeats 800000 in
theorem cToNeeds (a : Option Addr) (cap : Nat) (es : List NeedV) (w : World) (he : Needs w a es) (hl : es.length ≤ 1048576) :
    Calls Try.prog 88 #[.slice a es.length cap] w fun e w' => ∃ g, e = .returned (.slice (some ⟨g, 0, none⟩) es.length es.length) ∧
      w'.ownsRow w.heap.size 79 2 (.slice (some ⟨g, 0, none⟩) es.length es.length) es.length (flatNeeds es) ∧ g = w.heap.size ∧ Below w.heap.size w w' := by
  obtain ⟨i0, hi, hz0, hz1, hz2⟩ := info_parts infoNeeds
  go_enter Try.func88, Try.ntmps88
  go_wp2_with (at_make; refine wpList_make_full _ rfl _ _ 64 rfl w.heap.size 79 i0 (.agg #[.int .i64 0, .int .i64 0]) 2 Try.underlying64 hi hz0 hz1 _ _ _ _ es.length rfl rfl rfl rfl (by rw [hz2]; omega) (by unfold maxLen; omega) (Nat.le_refl _) ?_; intro w1 hown hgrow)
  have hown' : w1.ownsRow w.heap.size 79 2 (.slice (some ⟨w.heap.size, 0, none⟩) es.length es.length) es.length (flatNeeds (es.take 0) ++ List.replicate ((es.length - 0) * 2) (Value.int .i64 0)) := by
    rw [madeNeeds] at hown
    simpa [flatNeeds] using hown
  have hbel : Below w.heap.size w w1 := (Below.refl _ _).grown hgrow (Nat.le_refl _) (fun k hk => by cases hk)
  clear hown hgrow
  go_loopw [4] (fun i wr => ∃ k : Nat, k ≤ es.length ∧ i = .int .i64 k ∧ wr.ownsRow w.heap.size 79 2 (.slice (some ⟨w.heap.size, 0, none⟩) es.length es.length) es.length (flatNeeds (es.take k) ++ List.replicate ((es.length - k) * 2) (Value.int .i64 0)) ∧ Below w.heap.size w wr) (fun i _ => es.length - (intOf i).toNat)
  case atStart => exact ⟨0, Nat.zero_le _, rfl, hown', hbel⟩
  case round =>
    obtain ⟨k, hk, rfl, hown, hb⟩ := hrel
    by_cases hlt : k < es.length
    · rcases he with he | ⟨b, off, rfl, hc⟩
      · simp [he] at hlt
      obtain ⟨q0, q1⟩ := hc k hlt
      have p0 := ble hb q0
      have p1 := ble hb q1
      have hbs := cell_lt q0
      clear hc q0 q1 hbel hown'
      go_wp2_with fail
      refine (cToNeedV es[k] _).mono ?_
      rintro e w1 ⟨rfl, hb1⟩
      have HB1 := btrans hb hb1
      have O1 := own_keep hown hb1
      have f0 := O1.frozenAt (k * 2)
      have f1 := O1.frozenAt (k * 2 + 1)
      have z : ∀ j, j < 2 → w1.cell? ⟨w.heap.size, k * 2 + j, none⟩ = some (.int .i64 0) := by
        intro j hj
        rw [O1.cellAt _ (by omega), List.getElem?_append_right (by rw [flatNeeds_len]; simp; omega)]
        simp [List.getElem?_replicate, flatNeeds_len]
        omega
      have z0 := z 0 (by omega)
      have z1 := z 1 (by omega)
      have O2 := ((O1.stored (k * 2) (.int .i64 es[k].point)).1.stored (k * 2 + 1) (.int .i64 es[k].pos)).1
      rw [stepNeeds es k hlt] at O2
      have HB2 := ((HB1.setCell (p := ⟨w.heap.size, k * 2, none⟩) (Nat.le_refl _) (.int .i64 es[k].point)).setCell (p := ⟨w.heap.size, k * 2 + 1, none⟩) (Nat.le_refl _) (.int .i64 es[k].pos))
      clear z O1 hown hb1 hb HB1
      rw [Nat.add_zero] at z0
      unfold NeedV.val
      go_wp2
      go_roundw
      case rel => exact ⟨k + 1, by omega, by go_num, O2, HB2⟩
      case measure => simp [intOf]; omega
    · have hkk : k = es.length := by omega
      subst hkk
      have hown2 : wr.ownsRow w.heap.size 79 2 (.slice (some ⟨w.heap.size, 0, none⟩) es.length es.length) es.length (flatNeeds es) := by simpa [flatNeeds] using hown
      clear hown hown' hbel he
      go_wp2
      go_ret
      exact ⟨_, rfl, hown2, rfl, hb⟩

set_option maxHeartbeats 800000 in
theorem cEqNeedV (e : NeedV) (w : World) : Calls Try.prog 98 #[e.val, e.val] w fun r w' => r = .returned (.bool true) ∧ Below w.heap.size w w' := by
  obtain ⟨x0, x1⟩ := e
  unfold NeedV.val
  have hW := btrans (balloc w (.cells #[.int .i64 x0, .int .i64 x1] 79)) (balloc _ (.cells #[.int .i64 x0, .int .i64 x1] 79))
  go_enter Try.func98, Try.ntmps98
  go_wp2
  go_ret
  exact ⟨rfl, hW⟩

set_option maxHeartbeats 1600000 in
theorem cEqNeeds (a1 a2 : Option Addr) (p1 p2 : Nat) (es : List NeedV) (w : World) (h1 : Needs w a1 es) (h2 : Needs w a2 es) (hl : es.length ≤ 1048576) :
    Calls Try.prog 89 #[.slice a1 es.length p1, .slice a2 es.length p2] w fun e w' => e = .returned (.bool true) ∧ Below w.heap.size w w' := by
  go_enter Try.func89, Try.ntmps89
  go_wp2
  go_loopw [5] (fun i wr => ∃ k : Nat, k ≤ es.length ∧ i = .int .i64 k ∧ Below w.heap.size w wr) (fun i _ => es.length - (intOf i).toNat)
  case atStart => exact ⟨0, Nat.zero_le _, rfl, Below.refl _ _⟩
  case round =>
    obtain ⟨k, hk, rfl, hb⟩ := hrel
    by_cases hlt : k < es.length
    · rcases h1 with h1 | ⟨b1, o1, rfl, hc1⟩
      · simp [h1] at hlt
      rcases h2 with h2 | ⟨b2, o2, rfl, hc2⟩
      · simp [h2] at hlt
      obtain ⟨q0, q1⟩ := hc1 k hlt
      obtain ⟨r0, r1⟩ := hc2 k hlt
      have p0 := ble hb q0
      have s0 := ble hb r0
      have p1 := ble hb q1
      have s1 := ble hb r1
      clear hc1 hc2 q0 q1 r0 r1
      go_wp2_with fail
      go_region_with (go_at_call 98; refine (cEqNeedV es[k] _).mono ?_; rintro e w6 ⟨rfl, hb6⟩; have HB6 := btrans hb (undrew hb6))
      all_goals go_wp2
      all_goals go_roundw
      case rel => exact ⟨k + 1, by omega, by go_num, HB6⟩
      case measure => simp [intOf]; omega
      case rel => exact ⟨k + 1, by omega, by go_num, HB6⟩
      case measure => simp [intOf]; omega
    · go_wp2
      go_ret
      exact ⟨rfl, hb⟩
theorem cEqNeedsn (n : Nat) (B1 B2 : Nat) (v1 v2 : Value) (es : List NeedV) (w : World) (h1 : Rw w B1 79 2 v1 n (flatNeeds es)) (h2 : Rw w B2 79 2 v2 n (flatNeeds es)) (hl : n ≤ 1048576) :
    Calls Try.prog 89 #[v1, v2] w fun e w' => e = .returned (.bool true) ∧ Below w.heap.size w w' := by
  obtain ⟨a1, c1, rfl⟩ := h1.form
  obtain ⟨a2, c2, rfl⟩ := h2.form
  have hn := lenNeeds h1
  subst hn
  exact cEqNeeds a1 a2 c1 c2 es w (Needs.rw h1) (Needs.rw h2) hl
end Go.Proofs.Ytdcohaejdlgnpaa
