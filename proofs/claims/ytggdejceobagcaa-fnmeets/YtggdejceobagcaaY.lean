/- The program's CanFinish, FirstMove and Finish. -/
import Derived.Test.YtggdejceobagcaaX
namespace Go.Proofs.Ytggdejceobagcaa
open Go.RowKit Go.Maps

theorem first_nil {ls : List Int} {ts : List SingleV} (h : finR ls ts = []) : firstOf ls ts = -1 := by
  unfold finR at h
  unfold firstOf
  split
  · next hs =>
    rw [if_pos hs] at h
    cases hf : firstT ls ts with
    | none => rfl
    | some i => rw [fin_some hf] at h; cases h
  · rfl
theorem first_cons {ls : List Int} {ts : List SingleV} {x : Int} {r : List Int} (h : finR ls ts = x :: r) : firstOf ls ts = x := by
  unfold finR at h
  unfold firstOf
  split at h
  · next hs =>
    rw [if_pos hs]
    cases hf : firstT ls ts with
    | none => rw [fin_none hf] at h; cases h
    | some i => rw [fin_some hf] at h; exact (List.cons.inj h).1
  · cases h

section
variable (la tb : Option Addr) (lc tc : Nat) (ls : List Int) (ts : List SingleV) (w : World) (hz : Ints w la ls) (hl : ls.length ≤ 1048576) (hza : ∀ x, la = some x → x.block < w.heap.size) (ht : Singles w tb ts) (htn : tb = none → tc = 0) (hspot : ∀ x, tb = some x → x.spot = none) (hm : ts.length ≤ 1048576)
include hz hl hza ht htn hspot hm
set_option maxHeartbeats 800000 in
theorem cCanI : Calls Try.prog 15 #[.slice la ls.length lc, .slice tb ts.length tc] w fun e w' => e = .returned (.bool (canOk ls ts)) ∧ Below w.heap.size w w' := by
  have C := cFinishing la tb lc tc ls ts w hz hl hza ht htn hspot hm
  go_enter Try.func15, Try.ntmps15
  go_wp2_with fail
  refine C.mono ?_
  rintro e w1 ⟨v, rfl, -, hb⟩
  clear C
  go_wp2
  go_ret
  exact ⟨rfl, hb⟩
set_option maxHeartbeats 800000 in
theorem cFinishI : Calls Try.prog 14 #[.slice la ls.length lc, .slice tb ts.length tc] w fun e w' => ∃ v, e = .returned v ∧ w'.ownsRow w.heap.size 3 1 v (finR ls ts).length ((finR ls ts).map (Value.int .i64)) ∧ Below w.heap.size w w' := by
  have C := cFinishing la tb lc tc ls ts w hz hl hza ht htn hspot hm
  go_enter Try.func14, Try.ntmps14
  go_wp2_with fail
  refine C.mono ?_
  rintro e w1 ⟨v, rfl, O, hb⟩
  clear C
  go_wp2
  go_ret
  exact ⟨v, rfl, O, hb⟩
set_option maxHeartbeats 800000 in
theorem cFirstI : Calls Try.prog 18 #[.slice la ls.length lc, .slice tb ts.length tc] w fun e w' => e = .returned (.int .i64 (firstOf ls ts)) ∧ Below w.heap.size w w' := by
  have C := cFinishing la tb lc tc ls ts w hz hl hza ht htn hspot hm
  cases hF : finR ls ts with
  | nil =>
    have hf := hide (first_nil hF)
    rw [hF] at C
    go_enter Try.func18, Try.ntmps18
    go_wp2_with fail
    refine C.mono ?_
    rintro e w1 ⟨v, rfl, O, hb⟩
    obtain ⟨a, c, rfl⟩ := own_form O
    clear C hF O
    go_wp2
    go_ret
    exact ⟨ret_int hf.out.symm, hb⟩
  | cons x r =>
    have hf := hide (first_cons hF)
    rw [hF] at C
    go_enter Try.func18, Try.ntmps18
    go_wp2_with fail
    refine C.mono ?_
    rintro e w1 ⟨v, rfl, O, hb⟩
    rcases O.2 with ⟨_, h0⟩ | ⟨g, cap, cur, rfl, _⟩
    · simp at h0
    have c0 := O.cellAt 0 (by simp)
    simp at c0
    have hpos : (0 : Int) < ((r.length : Int) + 1) := by omega
    clear C hF O
    go_wp2
    go_ret
    exact ⟨ret_int hf.out.symm, hb⟩
end
end Go.Proofs.Ytggdejceobagcaa
