/- Forward, Shrink and Drive of the program. -/
import Derived.Test.YtcfapadcgboalaaDoorZA
namespace Go.Proofs.YtcfapadcgboalaaDoor
open Go.RowKit

theorem mv_neg {n y : Int} {ts : List SpanV} {m : Int} (h : m < 0) : mv n y ts m = none := by unfold mv; rw [if_pos h]
theorem mv_even {n y : Int} {ts : List SpanV} {p : Nat} (h : p % 2 = 0) : mv n y ts (p : Int) = fwd n ts (wrap64 ((p / 2 : Nat) : Int)) y := by
  unfold mv; rw [if_neg (by omega), if_pos (by omega)]; rfl
theorem mv_odd {n y : Int} {ts : List SpanV} {p : Nat} (h : p % 2 = 1) : mv n y ts (p : Int) = shr ts (wrap64 ((p / 2 : Nat) : Int)) := by
  unfold mv; rw [if_neg (by omega), if_neg (by omega)]; rfl

def fwdR (n : Int) (ts : List SpanV) (k y : Int) : Option (List SpanV) := if trainsOk n ts = true then fwd n ts k y else none
def shrR (n : Int) (ts : List SpanV) (k : Int) : Option (List SpanV) := if trainsOk n ts = true then shr ts k else none
theorem fwdR_no {n : Int} {ts : List SpanV} {k y : Int} (h : trainsOk n ts = false) : fwdR n ts k y = none := by unfold fwdR; rw [h]; rfl
theorem fwdR_yes {n : Int} {ts : List SpanV} {k y : Int} (h : trainsOk n ts = true) : fwdR n ts k y = fwd n ts k y := by unfold fwdR; rw [h]; rfl
theorem shrR_no {n : Int} {ts : List SpanV} {k : Int} (h : trainsOk n ts = false) : shrR n ts k = none := by unfold shrR; rw [h]; rfl
theorem shrR_yes {n : Int} {ts : List SpanV} {k : Int} (h : trainsOk n ts = true) : shrR n ts k = shr ts k := by unfold shrR; rw [h]; rfl
theorem nil_row (w : World) (B : Nat) : w.ownsRow B 34 2 (.slice none 0 0) ([] : List SpanV).length (flatSpans []) := World.ownsRow_nil _ _ _ _

set_option maxHeartbeats 1600000 in
theorem cFwdI (a : Option Addr) (cap : Nat) (n : Int) (ts : List SpanV) (k y : Int) (w : World) (he : Spans w a ts) (ha : a = none → cap = 0) (hspot : ∀ x, a = some x → x.spot = none) (hl : ts.length ≤ 1048576) (hg : Glob w) :
    Calls Tryd.prog 9 #[.int .i64 n, .slice a ts.length cap, .int .i64 k, .int .i64 y] w fun e w' => ∃ v, e = .returned (.tuple #[v, .bool (fwdR n ts k y).isSome]) ∧
      w'.ownsRow w.heap.size 34 2 v ((fwdR n ts k y).getD []).length (flatSpans ((fwdR n ts k y).getD [])) ∧ Below w.heap.size w w' := by
  cases h : trainsOk n ts
  · have R := hide (fwdR_no (k := k) (y := y) h)
    generalize fwdR n ts k y = r at *
    go_enter Tryd.func9, Tryd.ntmps9
    go_wp2_with fail
    refine (cLineNo a cap n ts _ he hl h).mono ?_
    rintro e w1 ⟨ev, rfl, hev, hb⟩
    go_wp2_with fail
    refine (cMayNot false ev _ hev (hg.below hb)).mono ?_
    rintro e w2 ⟨rfl, hb2⟩
    have HB := btrans hb hb2
    clear hb hb2
    go_wp2
    go_ret2
    exact ⟨_, by rw [R.out]; rfl, by rw [R.out]; exact nil_row _ _, HB⟩
  have R := hide (fwdR_yes (k := k) (y := y) h)
  generalize fwdR n ts k y = r at *
  have hpos := hg.lt
  have CF := fun b v w' hL => cForwardI w.heap.size b n v ts k y w' hL h
  generalize fwd n ts k y = r' at *
  go_enter Tryd.func9, Tryd.ntmps9
  go_wp2_with fail
  refine (cLineYes a cap n ts _ he ha hspot hl h).mono ?_
  rintro e w1 ⟨b, v, rfl, hL, hb⟩
  go_wp2_with fail
  refine (cMayNot true .nilIface _ (.inl ⟨rfl, rfl⟩) (hg.below hb)).mono ?_
  rintro e w2 ⟨rfl, hb2⟩
  have HB := btrans hb hb2
  have hL2 := hL.below hb2
  clear hb hb2 hL
  go_wp2_with fail
  refine (CF b v _ hL2).mono ?_
  rintro e w3 ⟨ev, rfl, hev, ⟨v', hL3⟩, hb3⟩
  have HB3 := HB.trans hb3
  clear hL2 hb3 CF HB
  cases r' with
  | none =>
    go_wp2_with fail
    refine (cMayNot false ev _ hev (hg.under hpos HB3)).mono ?_
    rintro e w4 ⟨rfl, hb4⟩
    have HB4 := btrans HB3 hb4
    go_wp2
    go_ret2
    exact ⟨_, by rw [R.out]; rfl, by rw [R.out]; exact nil_row _ _, HB4⟩
  | some L =>
    go_wp2_with fail
    refine (cMayNot true ev _ hev (hg.under hpos HB3)).mono ?_
    rintro e w4 ⟨rfl, hb4⟩
    have HB4 := btrans HB3 hb4
    have hL4 := hL3.below hb4
    clear hL3 HB3 hb4
    obtain ⟨b0, b1⟩ := hL4.cells
    go_wp2
    go_ret2
    exact ⟨_, by rw [R.out]; rfl, by rw [R.out]; exact hL4.own, HB4⟩

set_option maxHeartbeats 1600000 in
theorem cShrI (a : Option Addr) (cap : Nat) (n : Int) (ts : List SpanV) (k : Int) (w : World) (he : Spans w a ts) (ha : a = none → cap = 0) (hspot : ∀ x, a = some x → x.spot = none) (hl : ts.length ≤ 1048576) (hg : Glob w) :
    Calls Tryd.prog 11 #[.int .i64 n, .slice a ts.length cap, .int .i64 k] w fun e w' => ∃ v, e = .returned (.tuple #[v, .bool (shrR n ts k).isSome]) ∧
      w'.ownsRow w.heap.size 34 2 v ((shrR n ts k).getD []).length (flatSpans ((shrR n ts k).getD [])) ∧ Below w.heap.size w w' := by
  cases h : trainsOk n ts
  · have R := hide (shrR_no (k := k) h)
    generalize shrR n ts k = r at *
    go_enter Tryd.func11, Tryd.ntmps11
    go_wp2_with fail
    refine (cLineNo a cap n ts _ he hl h).mono ?_
    rintro e w1 ⟨ev, rfl, hev, hb⟩
    go_wp2_with fail
    refine (cMayNot false ev _ hev (hg.below hb)).mono ?_
    rintro e w2 ⟨rfl, hb2⟩
    have HB := btrans hb hb2
    clear hb hb2
    go_wp2
    go_ret2
    exact ⟨_, by rw [R.out]; rfl, by rw [R.out]; exact nil_row _ _, HB⟩
  have R := hide (shrR_yes (k := k) h)
  generalize shrR n ts k = r at *
  have hpos := hg.lt
  have CF := fun b v w' hL => cShrinkI w.heap.size b n v ts k w' hL h
  generalize shr ts k = r' at *
  go_enter Tryd.func11, Tryd.ntmps11
  go_wp2_with fail
  refine (cLineYes a cap n ts _ he ha hspot hl h).mono ?_
  rintro e w1 ⟨b, v, rfl, hL, hb⟩
  go_wp2_with fail
  refine (cMayNot true .nilIface _ (.inl ⟨rfl, rfl⟩) (hg.below hb)).mono ?_
  rintro e w2 ⟨rfl, hb2⟩
  have HB := btrans hb hb2
  have hL2 := hL.below hb2
  clear hb hb2 hL
  go_wp2_with fail
  refine (CF b v _ hL2).mono ?_
  rintro e w3 ⟨ev, rfl, hev, ⟨v', hL3⟩, hb3⟩
  have HB3 := HB.trans hb3
  clear hL2 hb3 CF HB
  cases r' with
  | none =>
    go_wp2_with fail
    refine (cMayNot false ev _ hev (hg.under hpos HB3)).mono ?_
    rintro e w4 ⟨rfl, hb4⟩
    have HB4 := btrans HB3 hb4
    go_wp2
    go_ret2
    exact ⟨_, by rw [R.out]; rfl, by rw [R.out]; exact nil_row _ _, HB4⟩
  | some L =>
    go_wp2_with fail
    refine (cMayNot true ev _ hev (hg.under hpos HB3)).mono ?_
    rintro e w4 ⟨rfl, hb4⟩
    have HB4 := btrans HB3 hb4
    have hL4 := hL3.below hb4
    clear hL3 HB3 hb4
    obtain ⟨b0, b1⟩ := hL4.cells
    go_wp2
    go_ret2
    exact ⟨_, by rw [R.out]; rfl, by rw [R.out]; exact hL4.own, HB4⟩

/-- A move on a list of trains, and how many were refused. -/
def stepD (n y : Int) (s : List SpanV × Int) (m : Int) : List SpanV × Int := ((mv n y s.1 m).getD s.1, s.2 + if (mv n y s.1 m).isSome = true then 0 else 1)
def driveTo (n y : Int) (ts : List SpanV) (ms : List Int) (k : Nat) : List SpanV × Int := (ms.take k).foldl (stepD n y) (ts, 0)
def driveOk (n y : Int) (ts : List SpanV) (ms : List Int) : Bool := trainsOk n ts && (inB y 0 3 && decide (ms.length ≤ 300))
def drive (n y : Int) (ts : List SpanV) (ms : List Int) : List SpanV × Int := if driveOk n y ts ms = true then driveTo n y ts ms ms.length else ([], -1)
theorem drive_no {n y : Int} {ts : List SpanV} {ms : List Int} (h : driveOk n y ts ms = false) : drive n y ts ms = ([], -1) := by unfold drive; rw [h]; rfl
theorem drive_yes {n y : Int} {ts : List SpanV} {ms : List Int} (h1 : trainsOk n ts = true) (h2 : inB y 0 3 = true) (h3 : ms.length ≤ 300) : drive n y ts ms = driveTo n y ts ms ms.length := by
  unfold drive driveOk; rw [h1, h2, decide_eq_true h3]; rfl
theorem driveTo_succ {n y : Int} {ts : List SpanV} {ms : List Int} {k : Nat} (hk : k < ms.length) : driveTo n y ts ms (k + 1) = stepD n y (driveTo n y ts ms k) ms[k] := by
  unfold driveTo; rw [List.take_succ_eq_append_getElem hk, List.foldl_append]; rfl
theorem step_ok {n y : Int} {s : List SpanV × Int} {m : Int} (h : trainsOk n s.1 = true) : trainsOk n (stepD n y s m).1 = true := by
  unfold stepD
  cases hm : mv n y s.1 m with
  | none => exact h
  | some t => exact mv_ok h hm
theorem foldl_ok {n y : Int} (ms : List Int) : ∀ s : List SpanV × Int, trainsOk n s.1 = true → trainsOk n (ms.foldl (stepD n y) s).1 = true := by
  induction ms with
  | nil => intro s h; exact h
  | cons m ms ih => intro s h; exact ih _ (step_ok h)
theorem driveTo_ok {n y : Int} {ts : List SpanV} {ms : List Int} (h : trainsOk n ts = true) (k : Nat) : trainsOk n (driveTo n y ts ms k).1 = true := foldl_ok _ _ h
theorem step_n {n y : Int} {s : List SpanV × Int} {m : Int} : s.2 ≤ (stepD n y s m).2 ∧ (stepD n y s m).2 ≤ s.2 + 1 := by
  unfold stepD
  by_cases h : (mv n y s.1 m).isSome = true
  · simp only [h, if_true]; omega
  · simp only [h]; simp; omega
theorem foldl_n {n y : Int} (ms : List Int) : ∀ s : List SpanV × Int, s.2 ≤ (ms.foldl (stepD n y) s).2 ∧ (ms.foldl (stepD n y) s).2 ≤ s.2 + ms.length := by
  induction ms with
  | nil => intro s; simp
  | cons m ms ih =>
    intro s
    have h1 := ih (stepD n y s m)
    have h2 := step_n (n := n) (y := y) (s := s) (m := m)
    rw [List.foldl_cons, List.length_cons]
    omega
theorem driveTo_n (n y : Int) (ts : List SpanV) (ms : List Int) (k : Nat) : 0 ≤ (driveTo n y ts ms k).2 ∧ (driveTo n y ts ms k).2 ≤ ms.length := by
  have := foldl_n (n := n) (y := y) (ms.take k) (ts, 0)
  rw [List.length_take] at this
  unfold driveTo
  simp only [] at this
  omega
end Go.Proofs.YtcfapadcgboalaaDoor
