/- Trains on a line: right lists, the model's TrainsOk, the program's line. -/
import Derived.Test.YtcfapadcgboalaaDoorS
import Derived.Test.YtcfapadcgboalaaDoorM
import Derived.Test.YtcfapadcgboalaaDoorG
namespace Go.Proofs.YtcfapadcgboalaaDoor
open Go.RowKit

def rAt (ts : List SpanV) (k : Nat) : Int := (ts.getD k SpanV.zero).r
def fAt (ts : List SpanV) (k : Nat) : Int := (ts.getD k SpanV.zero).f
/-- The first block that the train at place k may lie on. -/
def freeAt (ts : List SpanV) : Nat → Int
  | 0 => 0
  | k + 1 => fAt ts k + 1
def tOk (n : Int) (ts : List SpanV) (k : Nat) : Bool := decide (freeAt ts k ≤ rAt ts k ∧ rAt ts k ≤ fAt ts k ∧ fAt ts k < n)
def trainsOk (n : Int) (ts : List SpanV) : Bool := inB n 1 100 && (decide (ts.length ≤ 12) && (List.range ts.length).all (tOk n ts))
theorem trains_n {n : Int} {ts : List SpanV} (h : inB n 1 100 = false) : trainsOk n ts = false := by unfold trainsOk; rw [h]; rfl
theorem trains_l {n : Int} {ts : List SpanV} (h : 12 < ts.length) : trainsOk n ts = false := by unfold trainsOk; rw [decide_eq_false (p := ts.length ≤ 12) (by omega)]; simp
theorem trains_t {n : Int} {ts : List SpanV} {k : Nat} (hk : k < ts.length) (h : tOk n ts k = false) : trainsOk n ts = false := by
  unfold trainsOk
  have : (List.range ts.length).all (tOk n ts) = false := by
    cases hq : (List.range ts.length).all (tOk n ts)
    · rfl
    · rw [List.all_eq_true] at hq
      rw [hq k (List.mem_range.2 hk)] at h; cases h
  rw [this]; simp
theorem trains_y {n : Int} {ts : List SpanV} (h1 : inB n 1 100 = true) (h2 : ts.length ≤ 12) (h3 : ∀ j, j < ts.length → tOk n ts j = true) : trainsOk n ts = true := by
  unfold trainsOk
  rw [h1, decide_eq_true h2]
  simp only [Bool.true_and]
  rw [List.all_eq_true]
  intro j hj
  exact h3 j (List.mem_range.1 hj)
theorem trains_of {n : Int} {ts : List SpanV} (h : trainsOk n ts = true) : inB n 1 100 = true ∧ ts.length ≤ 12 ∧ ∀ j, j < ts.length → tOk n ts j = true := by
  unfold trainsOk at h
  simp only [Bool.and_eq_true, decide_eq_true_eq, List.all_eq_true] at h
  exact ⟨h.1, h.2.1, fun j hj => h.2.2 j (List.mem_range.2 hj)⟩
theorem free_pos {n : Int} {ts : List SpanV} : ∀ k, (∀ j, j < k → tOk n ts j = true) → 0 ≤ freeAt ts k
  | 0, _ => by simp [freeAt]
  | k + 1, h => by
    have h0 := free_pos k (fun j hj => h j (by omega))
    have h1 := h k (by omega)
    simp only [tOk, decide_eq_true_eq] at h1
    simp only [freeAt]; omega
theorem spans_cells {w : World} {b off : Nat} {ts : List SpanV} (h : Spans w (some ⟨b, off, none⟩) ts) : ∀ j u, (flatSpans ts)[j]? = some u → w.cell? ((⟨b, off, none⟩ : Addr).add j) = some u := by
  intro j u hu
  rcases h with h | ⟨b', off', ha, hc⟩
  · rw [h] at hu; simp [flatSpans] at hu
  · simp only [Option.some.injEq, Addr.mk.injEq, and_true] at ha
    obtain ⟨rfl, rfl⟩ := ha
    have hj : j < (flatSpans ts).length := (List.getElem?_eq_some_iff.1 hu).1
    rw [flatSpans_len] at hj
    have hi : j / 2 < ts.length := by omega
    obtain ⟨g0, g1⟩ := flatSpans_get ts (j / 2) hi
    obtain ⟨c0, c1⟩ := hc (j / 2) hi
    have e : (⟨b, off, none⟩ : Addr).add j = ⟨b, off + j, none⟩ := by
      by_cases h : j = 0
      · subst h; simp [Addr.add]
      · simp [Addr.add, h]
    rw [e]
    by_cases hp : j % 2 = 0
    · have e2 : j / 2 * 2 = j := by omega
      rw [e2] at g0 c0
      rw [c0, ← hu, g0]
    · have e2 : j / 2 * 2 + 1 = j := by omega
      rw [Nat.add_assoc, e2] at c1
      rw [e2] at g1
      rw [c1, ← hu, g1]
theorem flat_one (ts : List SpanV) : ∀ u ∈ flatSpans ts, u.oneCell' = true := by
  intro u hu
  unfold flatSpans at hu
  rw [List.mem_flatMap] at hu
  obtain ⟨e, _, he⟩ := hu
  simp only [SpanV.vs, List.mem_cons, List.not_mem_nil, or_false] at he
  rcases he with rfl | rfl <;> rfl

set_option maxHeartbeats 1600000 in
theorem cTrainsS (a : Option Addr) (cap : Nat) (n : Int) (ts : List SpanV) (w : World) (he : Spans w a ts) (hl : ts.length ≤ 1048576) :
    Calls Tryd.prog 28 #[.int .i64 n, .slice a ts.length cap] w fun e w' => e = .returned (.bool (trainsOk n ts)) ∧ Below w.heap.size w w' := by
  cases h1 : inB n 1 100
  · have R := hide (trains_n (ts := ts) h1)
    generalize trainsOk n ts = r at *
    go_enter Tryd.func28, Tryd.ntmps28
    go_wp2_with fail
    refine (cIn _ _ _ _).mono ?_
    rintro e w1 ⟨rfl, hw⟩
    subst w1
    rw [h1]
    go_wp2
    go_ret
    exact ⟨ret_bool R.out.symm, Below.refl _ _⟩
  by_cases h2 : 12 < ts.length
  · have R := hide (trains_l (n := n) h2)
    generalize trainsOk n ts = r at *
    have h2' : (12 : Int) < (ts.length : Int) := by omega
    go_enter Tryd.func28, Tryd.ntmps28
    go_wp2_with fail
    refine (cIn _ _ _ _).mono ?_
    rintro e w1 ⟨rfl, hw⟩
    subst w1
    rw [h1]
    go_wp2
    go_ret
    exact ⟨ret_bool R.out.symm, Below.refl _ _⟩
  have h2' : ¬ ((12 : Int) < (ts.length : Int)) := by omega
  have TB : ∀ k, k < ts.length → tOk n ts k = false → trainsOk n ts = false := fun k hk h => trains_t hk h
  have TA : (∀ j, j < ts.length → tOk n ts j = true) → trainsOk n ts = true := fun h => trains_y h1 (by omega) h
  generalize trainsOk n ts = r at *
  obtain ⟨hn1, hn2⟩ := inB_true h1
  go_enter Tryd.func28, Tryd.ntmps28
  go_wp2_with fail
  refine (cIn _ _ _ _).mono ?_
  rintro e w1 ⟨rfl, hw⟩
  subst w1
  rw [h1]
  go_wp2
  go_loopw [5, 6, 7] (fun la i _ wr => ∃ k : Nat, k ≤ ts.length ∧ i = .int .i64 k ∧ la = .int .i64 (freeAt ts k - 1) ∧ (∀ j, j < k → tOk n ts j = true) ∧ Below w.heap.size w wr) (fun _ i _ _ => ts.length - (intOf i).toNat)
  case atStart => exact ⟨0, Nat.zero_le _, rfl, rfl, fun j hj => by omega, Below.refl _ _⟩
  case round =>
    obtain ⟨k, hk, rfl, rfl, hgo, hb⟩ := hrel
    by_cases hlt : k < ts.length
    · rcases he with he | ⟨b, off, rfl, hc⟩
      · simp [he] at hlt
      obtain ⟨q0, q1⟩ := hc k hlt
      have p0 : wr.cell? ⟨b, off + k * 2, none⟩ = some (.int .i64 (rAt ts k)) := ble hb q0
      have p1 : wr.cell? ⟨b, off + k * 2 + 1, none⟩ = some (.int .i64 (fAt ts k)) := ble hb q1
      have E : Hid (tOk n ts k = decide (freeAt ts k ≤ rAt ts k ∧ rAt ts k ≤ fAt ts k ∧ fAt ts k < n)) := rfl
      have ES : Hid (freeAt ts (k + 1) = fAt ts k + 1) := rfl
      have hfp := free_pos k hgo
      have HB := btrans hb (balloc _ (.cells #[.int .i64 (rAt ts k), .int .i64 (fAt ts k)] 34))
      have TBk := TB k hlt
      clear hc q0 q1 TA TB
      generalize rAt ts k = x at *
      generalize fAt ts k = y at *
      generalize freeAt ts k = fr at *
      by_cases c1 : x ≤ fr - 1
      · have R := hide (TBk (by rw [E.out]; exact decide_eq_false (by omega)))
        clear E ES TBk hgo
        go_wp2
        go_ret
        exact ⟨ret_bool R.out.symm, HB⟩
      cases c2 : inB x 0 y
      · have R := hide (TBk (by have := inB_ff c2; rw [E.out]; exact decide_eq_false (by omega)))
        clear E ES TBk hgo
        go_wp2_with fail
        refine (cIn _ _ _ _).mono ?_
        rintro e w1 ⟨rfl, hw⟩
        subst w1
        rw [c2]
        go_wp2
        go_ret
        exact ⟨ret_bool R.out.symm, HB⟩
      have c2' := inB_true c2
      by_cases c3 : n ≤ y
      · have R := hide (TBk (by rw [E.out]; exact decide_eq_false (by omega)))
        clear E ES TBk hgo
        go_wp2_with fail
        refine (cIn _ _ _ _).mono ?_
        rintro e w1 ⟨rfl, hw⟩
        subst w1
        rw [c2]
        go_wp2
        go_ret
        exact ⟨ret_bool R.out.symm, HB⟩
      have hg2 : ∀ j, j < k + 1 → tOk n ts j = true := fun j hj => by
        by_cases e : j = k
        · rw [e, E.out]; exact decide_eq_true (by omega)
        · exact hgo j (by omega)
      clear E TBk hgo
      go_wp2_with fail
      refine (cIn _ _ _ _).mono ?_
      rintro e w1 ⟨rfl, hw⟩
      subst w1
      rw [c2]
      go_wp2
      go_roundw
      case rel => exact ⟨k + 1, by omega, by go_num, by rw [ES.out]; simp, hg2, HB⟩
      case measure => simp [intOf]; omega
    · obtain rfl : k = ts.length := by omega
      have R := hide (TA hgo)
      clear TA TB hgo
      go_wp2
      go_ret
      exact ⟨ret_bool R.out.symm, hb⟩
end Go.Proofs.YtcfapadcgboalaaDoor
