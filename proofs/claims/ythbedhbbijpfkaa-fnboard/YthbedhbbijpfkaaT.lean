/- Slices of entries: compared, marked. -/
import Derived.Test.YthbedhbbijpfkaaA
import Derived.Deep.RegionWith
namespace Go.Proofs.Ythbedhbbijpfkaa
open Go.RowKit
structure EntryV where
  t : Int
  c : Int
  deriving DecidableEq
def EntryV.zero : EntryV := ⟨0, 0⟩
def EntryV.val (e : EntryV) : Value := .agg #[.int .i64 e.t, .int .i64 e.c]
def EntryV.vs (e : EntryV) : List Value := [.int .i64 e.t, .int .i64 e.c]
def flatEntries (es : List EntryV) : List Value := es.flatMap EntryV.vs
theorem flatEntries_cons (e : EntryV) (es : List EntryV) : flatEntries (e :: es) = .int .i64 e.t :: .int .i64 e.c :: flatEntries es := rfl
theorem flatEntries_len (es : List EntryV) : (flatEntries es).length = es.length * 2 := by
  induction es with
  | nil => rfl
  | cons e es ih => rw [flatEntries_cons]; simp only [List.length_cons, ih]; omega
theorem flatEntries_app (xs ys : List EntryV) : flatEntries (xs ++ ys) = flatEntries xs ++ flatEntries ys := by simp [flatEntries]
theorem flatEntries_get (es : List EntryV) : ∀ i, i < es.length → (flatEntries es)[i * 2]? = some (.int .i64 (es.getD i EntryV.zero).t) ∧ (flatEntries es)[i * 2 + 1]? = some (.int .i64 (es.getD i EntryV.zero).c) := by
  induction es with
  | nil => intro i hi; simp at hi
  | cons e es ih =>
    intro i hi
    rw [flatEntries_cons]
    cases i with
    | zero => simp
    | succ i =>
      have h := ih i (by simpa using hi)
      have e1 : (i + 1) * 2 = i * 2 + 1 + 1 := by omega
      rw [e1]
      simpa using h
/-- The cells behind a slice's address hold the structs es. -/
def Entries (w : World) (a : Option Addr) (es : List EntryV) : Prop :=
  es = [] ∨ ∃ b off, a = some ⟨b, off, none⟩ ∧ ∀ i, i < es.length → w.cell? ⟨b, off + i * 2, none⟩ = some (.int .i64 (es.getD i EntryV.zero).t) ∧ w.cell? ⟨b, off + i * 2 + 1, none⟩ = some (.int .i64 (es.getD i EntryV.zero).c)
theorem Entries.below {w w' : World} {a : Option Addr} {es : List EntryV} (h : Entries w a es) (hb : Below w.heap.size w w') : Entries w' a es := by
  rcases h with h | ⟨b, off, ha, hc⟩
  · exact .inl h
  · exact .inr ⟨b, off, ha, fun i hi => ⟨ble hb (hc i hi).1, ble hb (hc i hi).2⟩⟩
theorem Entries.of_owns {w : World} {base g n cap : Nat} {es : List EntryV} (h : w.ownsRow base 35 2 (.slice (some ⟨g, 0, none⟩) n cap) n (flatEntries es)) : Entries w (some ⟨g, 0, none⟩) es := by
  refine .inr ⟨g, 0, rfl, fun i hi => ?_⟩
  have hl := h.1
  rw [flatEntries_len] at hl
  obtain ⟨f0, f1⟩ := flatEntries_get es i hi
  refine ⟨?_, ?_⟩
  · rw [Nat.zero_add, h.cellAt _ (by omega)]; exact f0
  · rw [Nat.zero_add, h.cellAt _ (by omega)]; exact f1
theorem Entries.own {w : World} {base n c : Nat} {a : Option Addr} {es : List EntryV} (h : w.ownsRow base 35 2 (.slice a n c) n (flatEntries es)) : Entries w a es := by
  rcases h.2 with ⟨_, h0⟩ | ⟨g, cap', cur, he, _⟩
  · left
    have hl := h.1
    rw [flatEntries_len, h0] at hl
    exact List.length_eq_zero_iff.1 (by omega)
  · simp only [Value.slice.injEq] at he
    obtain ⟨rfl, _, rfl⟩ := he
    exact Entries.of_owns h
theorem Entries.rw {w : World} {base n c : Nat} {a : Option Addr} {es : List EntryV} (h : Rw w base 35 2 (.slice a n c) n (flatEntries es)) : Entries w a es := by
  rcases h with h | ⟨h0, h1, _⟩
  · exact Entries.own h
  · left
    have := flatEntries_len es
    rw [h1] at this
    simp at this
    exact List.length_eq_zero_iff.1 (by omega)
theorem lenEntries {w : World} {base n : Nat} {v : Value} {es : List EntryV} (h : Rw w base 35 2 v n (flatEntries es)) : es.length = n := by
  have := h.len
  rw [flatEntries_len] at this
  omega
theorem infoEntries : (Try.prog.info? 35).map (fun i => (i.zero, i.size, i.bytes)) = some (some (.agg #[.int .i64 0, .int .i64 0]), 2, 16) := by kernel_rfl
theorem madeEntries (n : Nat) : (madeCells (Value.agg #[.int .i64 0, .int .i64 0]).cells (n * 2)).toList = List.replicate (n * 2) (Value.int .i64 0) := by
  apply List.ext_getElem?
  intro j
  by_cases hj : j < n * 2
  · have h4 : j % 2 < 2 := Nat.mod_lt _ (by omega)
    simp only [madeCells, Value.cells]
    generalize hq : j % 2 = q at h4
    match q, h4 with
    | 0, _ => simp [hj, hq]
    | 1, _ => simp [hj, hq]
  · simp [madeCells, hj]
theorem stepEntries (es : List EntryV) (k : Nat) (hk : k < es.length) :
    ((flatEntries (es.take k) ++ List.replicate ((es.length - k) * 2) (Value.int .i64 0)).set (k * 2) (.int .i64 es[k].t)).set (k * 2 + 1) (.int .i64 es[k].c) =
      flatEntries (es.take (k + 1)) ++ List.replicate ((es.length - (k + 1)) * 2) (Value.int .i64 0) := by
  have e1 : (es.length - k) * 2 = (es.length - (k + 1)) * 2 + 1 + 1 := by omega
  have e2 : (flatEntries (es.take k)).length = k * 2 := by rw [flatEntries_len]; simp; omega
  rw [List.set_append_right _ _ (by omega), List.set_append_right _ _ (by omega), e2, e1,
    List.replicate_succ, List.replicate_succ, List.take_succ_eq_append_getElem hk, flatEntries_app]
  have a0 : k * 2 - k * 2 = 0 := by omega
  have a1 : k * 2 + 1 - k * 2 = 1 := by omega
  rw [a0, a1]
  simp [flatEntries, EntryV.vs]
theorem set_flatEntries (xs ys : List EntryV) (e : EntryV) (x0 x1 : Int) (q : Nat) (hq : q = xs.length) :
    ((flatEntries (xs ++ e :: ys)).set (q * 2) (.int .i64 x0)).set (q * 2 + 1) (.int .i64 x1) = flatEntries (xs ++ ⟨x0, x1⟩ :: ys) := by
  have e2 : (flatEntries xs).length = q * 2 := by rw [flatEntries_len, hq]
  rw [flatEntries_app, flatEntries_app, flatEntries_cons, flatEntries_cons, List.set_append_right _ _ (by omega), List.set_append_right _ _ (by omega), e2]
  have a0 : q * 2 - q * 2 = 0 := by omega
  have a1 : q * 2 + 1 - q * 2 = 1 := by omega
  rw [a0, a1]
  simp

set_option maxHeartbeats 800000 in
theorem cEqEntryV (e : EntryV) (w : World) : Calls Try.prog 31 #[e.val, e.val] w fun r w' => r = .returned (.bool true) ∧ Below w.heap.size w w' := by
  obtain ⟨x0, x1⟩ := e
  unfold EntryV.val
  have hW := btrans (balloc w (.cells #[.int .i64 x0, .int .i64 x1] 35)) (balloc _ (.cells #[.int .i64 x0, .int .i64 x1] 35))
  go_enter Try.func31, Try.ntmps31
  go_wp2
  go_ret
  exact ⟨rfl, hW⟩

set_option maxHeartbeats 1600000 in
theorem cEqEntries (a1 a2 : Option Addr) (p1 p2 : Nat) (es : List EntryV) (w : World) (h1 : Entries w a1 es) (h2 : Entries w a2 es) (hl : es.length ≤ 1048576) :
    Calls Try.prog 12 #[.slice a1 es.length p1, .slice a2 es.length p2] w fun e w' => e = .returned (.bool true) ∧ Below w.heap.size w w' := by
  go_enter Try.func12, Try.ntmps12
  go_wp2
  go_loopw [5] (fun i wr => ∃ k : Nat, k ≤ es.length ∧ i = .int .i64 k ∧ Below w.heap.size w wr) (fun i _ => es.length - (intOf i).toNat)
  case atStart => exact ⟨0, Nat.zero_le _, rfl, Below.refl _ _⟩
  case round =>
    obtain ⟨k, hk, rfl, hb⟩ := hrel
    by_cases hlt : k < es.length
    · rcases h1 with h1 | ⟨b1, o1, rfl, hc1⟩
      · simp [h1] at hlt
      rcases h2 with h2 | ⟨b2, o2, rfl, hc2⟩
      · simp [h2] at hlt
      obtain ⟨q0, q1⟩ := hc1 k hlt
      obtain ⟨r0, r1⟩ := hc2 k hlt
      have p0 := ble hb q0
      have s0 := ble hb r0
      have p1 := ble hb q1
      have s1 := ble hb r1
      clear hc1 hc2 q0 q1 r0 r1
      go_wp2_with fail
      go_region_with (go_at_call 31; refine (cEqEntryV es[k] _).mono ?_; rintro e w6 ⟨rfl, hb6⟩; have HB6 := btrans hb (undrew hb6))
      all_goals go_wp2
      all_goals go_roundw
      case rel => exact ⟨k + 1, by omega, by go_num, HB6⟩
      case measure => simp [intOf]; omega
      case rel => exact ⟨k + 1, by omega, by go_num, HB6⟩
      case measure => simp [intOf]; omega
    · go_wp2
      go_ret
      exact ⟨rfl, hb⟩
theorem cEqEntriesn (n : Nat) (B1 B2 : Nat) (v1 v2 : Value) (es : List EntryV) (w : World) (h1 : Rw w B1 35 2 v1 n (flatEntries es)) (h2 : Rw w B2 35 2 v2 n (flatEntries es)) (hl : n ≤ 1048576) :
    Calls Try.prog 12 #[v1, v2] w fun e w' => e = .returned (.bool true) ∧ Below w.heap.size w w' := by
  obtain ⟨a1, c1, rfl⟩ := h1.form
  obtain ⟨a2, c2, rfl⟩ := h2.form
  have hn := lenEntries h1
  subst hn
  exact cEqEntries a1 a2 c1 c2 es w (Entries.rw h1) (Entries.rw h2) hl

def markEntryV (k : Int) (i : Nat) : EntryV := ⟨k + 2 * i, k + 2 * i + 1⟩
def marksEntries (k : Int) (n : Nat) : List EntryV := (List.range n).map (markEntryV k)
theorem marksEntries_len (k : Int) (n : Nat) : (marksEntries k n).length = n := by simp [marksEntries]
theorem marksEntries_succ (k : Int) (n : Nat) : marksEntries k (n + 1) = marksEntries k n ++ [markEntryV k n] := by simp [marksEntries, List.range_succ]
theorem marksEntries_get (k : Int) (n i : Nat) (h : i < n) : (marksEntries k n).getD i EntryV.zero = markEntryV k i := by simp [marksEntries, List.getD, h]
theorem markEntries_step (es : List EntryV) (k : Int) (i : Nat) (hi : i < es.length) :
    ((flatEntries (marksEntries k i ++ es.drop i)).set (i * 2) (.int .i64 (k + 2 * i))).set (i * 2 + 1) (.int .i64 (k + 2 * i + 1)) = flatEntries (marksEntries k (i + 1) ++ es.drop (i + 1)) := by
  rw [List.drop_eq_getElem_cons hi, set_flatEntries _ _ _ _ _ i (marksEntries_len k i).symm, marksEntries_succ, List.append_assoc]
  rfl

set_option maxHeartbeats 3200000 in
theorem cMarkEntriesg (B g cap : Nat) (es : List EntryV) (k : Int) (w : World) (ho : w.ownsRow B 35 2 (.slice (some ⟨g, 0, none⟩) es.length cap) es.length (flatEntries es)) (hl : es.length ≤ 1048576) (hk0 : 0 ≤ k) (hk1 : k ≤ 10000000) :
    Calls Try.prog 15 #[.slice (some ⟨g, 0, none⟩) es.length cap, .int .i64 k] w fun e w' => e = .returned (.int .i64 (k + 2 * es.length)) ∧
      w'.ownsRow B 35 2 (.slice (some ⟨g, 0, none⟩) es.length cap) es.length (flatEntries (marksEntries k es.length)) ∧ w.grownBy w' (some g) := by
  go_enter Try.func15, Try.ntmps15
  go_wp2
  go_loopw [1, 5] (fun kk i wr => ∃ j : Nat, j ≤ es.length ∧ i = .int .i64 j ∧ kk = .int .i64 (k + 2 * j) ∧ wr.ownsRow B 35 2 (.slice (some ⟨g, 0, none⟩) es.length cap) es.length (flatEntries (marksEntries k j ++ es.drop j)) ∧ w.grownBy wr (some g)) (fun _ i _ => es.length - (intOf i).toNat)
  case atStart => exact ⟨0, Nat.zero_le _, rfl, by simp, by simpa [marksEntries] using ho, World.grownBy.refl _ _⟩
  case round =>
    obtain ⟨j, hj, rfl, rfl, hown, hg⟩ := hrel
    by_cases hlt : j < es.length
    · have hlen : (marksEntries k j ++ es.drop j).length = es.length := by rw [List.length_append, marksEntries_len, List.length_drop]; omega
      obtain ⟨y0, y1⟩ := flatEntries_get (marksEntries k j ++ es.drop j) j (by omega)
      have f0 := hown.frozenAt (j * 2)
      have z0 := (hown.cellAt (j * 2) (by omega)).trans y0
      have f1 := hown.frozenAt (j * 2 + 1)
      have z1 := (hown.cellAt (j * 2 + 1) (by omega)).trans y1
      generalize (marksEntries k j ++ es.drop j).getD j EntryV.zero = E at z0 z1
      clear y0 y1
      obtain ⟨s1, t1⟩ := hown.stored (j * 2) (.int .i64 (k + 2 * j))
      obtain ⟨s2, t2⟩ := s1.stored (j * 2 + 1) (.int .i64 (k + 2 * j + 1))
      rw [markEntries_step es k j hlt] at s2
      have hg' := gtrans hg (gtrans t1 (t2))
      have w1 : IntKind.i64.wrap (k + 2 * (j : Int) + 1) = k + 2 * (j : Int) + 1 := (wrap_in _ (by omega) (by omega)).trans (by omega)
      have w2 : IntKind.i64.wrap (k + 2 * (j : Int) + 1 + 1) = k + 2 * ((j : Int) + 1) := (wrap_in _ (by omega) (by omega)).trans (by omega)
      clear hown s1 t1 t2 hg hlen
      go_wp2
      exact ⟨⟨j + 1, by omega, by go_num, by go_num, s2, hg'⟩, by simp [intOf]; omega⟩
    · have hjj : j = es.length := by omega
      subst hjj
      have hown2 : wr.ownsRow B 35 2 (.slice (some ⟨g, 0, none⟩) es.length cap) es.length (flatEntries (marksEntries k es.length)) := by simpa using hown
      clear hown
      go_wp2
      go_ret
      exact ⟨rfl, hown2, hg⟩

set_option maxHeartbeats 800000 in
/-- A mark on a row that is owned, or is nothing: it grows by a block of the row, if at all. -/
theorem cMarkEntries (B n : Nat) (v : Value) (es : List EntryV) (k : Int) (w : World) (ho : Rw w B 35 2 v n (flatEntries es)) (hl : n ≤ 1048576) (hk0 : 0 ≤ k) (hk1 : k ≤ 10000000) :
    Calls Try.prog 15 #[v, .int .i64 k] w fun e w' => e = .returned (.int .i64 (k + 2 * n)) ∧
      Rw w' B 35 2 v n (flatEntries (marksEntries k n)) ∧ ∃ r, w.grownBy w' r ∧ ∀ j, r = some j → B ≤ j ∧ v.ownBlock = some j := by
  have hn := lenEntries ho
  subst hn
  by_cases h0 : es.length = 0
  · obtain ⟨a, c, rfl⟩ := ho.form
    have hx : es = [] := List.length_eq_zero_iff.1 h0
    subst hx
    clear h0
    go_enter Try.func15, Try.ntmps15
    go_wp2
    go_loop [1, 5] (fun kk i => i = .int .i64 0 ∧ kk = .int .i64 k) (fun _ _ => 0)
    case atStart => exact ⟨rfl, rfl⟩
    case round =>
      obtain ⟨rfl, rfl⟩ := hrel
      go_wp2
      go_ret
      exact ⟨by simp, by simpa [marksEntries] using ho, none, World.grownBy.refl _ _, fun j h => by cases h⟩
  · rcases ho with ho | ⟨h1, _⟩
    · rcases ho.2 with ⟨_, h1⟩ | ⟨g, cap, cur, rfl, hB, _⟩
      · omega
      · refine (cMarkEntriesg B g cap es k w ho hl hk0 hk1).mono ?_
        rintro e w' ⟨rfl, h2, h3⟩
        exact ⟨rfl, .inl h2, some g, h3, fun j h => by cases h; exact ⟨hB, rfl⟩⟩
    · omega

set_option maxHeartbeats 3200000 in
theorem cHeldEntriesa (ao : Option Addr) (n cap : Nat) (k : Int) (w : World) (he : Entries w ao (marksEntries k n)) (hl : n ≤ 1048576) (hk0 : 0 ≤ k) (hk1 : k ≤ 10000000) :
    Calls Try.prog 16 #[.slice ao n cap, .int .i64 k] w fun e w' => e = .returned (.int .i64 (k + 2 * n)) ∧ w' = w := by
  go_enter Try.func16, Try.ntmps16
  go_wp2
  go_loop [1, 5] (fun kk i => ∃ j : Nat, j ≤ n ∧ i = .int .i64 j ∧ kk = .int .i64 (k + 2 * j)) (fun _ i => n - (intOf i).toNat)
  case atStart => exact ⟨0, Nat.zero_le _, rfl, by simp⟩
  case round =>
    obtain ⟨j, hj, rfl, rfl⟩ := hrel
    by_cases hlt : j < n
    · rcases he with he | ⟨b, off, rfl, hc⟩
      · have := marksEntries_len k n; rw [he] at this; simp at this; omega
      obtain ⟨p0, p1⟩ := hc j (by rw [marksEntries_len]; exact hlt)
      rw [marksEntries_get k n j hlt] at p0 p1
      simp only [markEntryV] at p0 p1
      have w1 : IntKind.i64.wrap (k + 2 * (j : Int) + 1) = k + 2 * (j : Int) + 1 := (wrap_in _ (by omega) (by omega)).trans (by omega)
      have w2 : IntKind.i64.wrap (k + 2 * (j : Int) + 1 + 1) = k + 2 * ((j : Int) + 1) := (wrap_in _ (by omega) (by omega)).trans (by omega)
      clear hc
      go_wp2
      exact ⟨⟨j + 1, by omega, by go_num, by go_num⟩, by simp [intOf]; omega⟩
    · have hjj : j = n := by omega
      subst hjj
      clear he
      go_wp2
      go_ret
      exact ⟨rfl, rfl⟩
theorem cHeldEntries (B n : Nat) (v : Value) (k : Int) (w : World) (ho : Rw w B 35 2 v n (flatEntries (marksEntries k n))) (hl : n ≤ 1048576) (hk0 : 0 ≤ k) (hk1 : k ≤ 10000000) :
    Calls Try.prog 16 #[v, .int .i64 k] w fun e w' => e = .returned (.int .i64 (k + 2 * n)) ∧ w' = w := by
  obtain ⟨a, c, rfl⟩ := ho.form
  exact cHeldEntriesa a n c k w (Entries.rw ho) hl hk0 hk1
end Go.Proofs.Ythbedhbbijpfkaa
