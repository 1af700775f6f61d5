/- Marking the numbers of a slice of the call's own and finding the marks there again. -/
import Derived.Test.YtmchdclieejohaaG
namespace Go.Proofs.Ytmchdclieejohaa
open Go.RowKit

/-- The numbers k, k + 1, .., n of them. -/
def marks (k : Int) (n : Nat) : List Int := (List.range n).map fun (i : Nat) => k + (i : Int)
theorem marks_len (k : Int) (n : Nat) : (marks k n).length = n := by simp [marks]
theorem marks_get (k : Int) (n i : Nat) (h : i < n) : (marks k n).getD i 0 = k + i := by simp [marks, List.getD, h]

theorem mark_step (xs : List Int) (k : Int) (i : Nat) (h : i < xs.length) :
    (((marks k i).map (Value.int .i64)) ++ ((xs.drop i).map (Value.int .i64))).set i (.int .i64 (k + i)) = ((marks k (i + 1)).map (Value.int .i64)) ++ ((xs.drop (i + 1)).map (Value.int .i64)) := by
  have e2 : i - ((marks k i).map (Value.int .i64)).length = 0 := by simp [marks_len]
  rw [List.set_append_right _ _ (by simp [marks_len]), e2, List.drop_eq_getElem_cons h, List.map_cons, List.set_cons_zero]
  simp [marks, List.range_succ]

set_option maxHeartbeats 800000 in
theorem c52 (B g cap : Nat) (xs : List Int) (k : Int) (w : World) (ho : w.ownsRow B 3 1 (.slice (some ⟨g, 0, none⟩) xs.length cap) xs.length (xs.map (Value.int .i64))) (hl : xs.length ≤ 1048576) (hk0 : 0 ≤ k) (hk1 : k ≤ 10000000) :
    Calls Try.prog 52 #[.slice (some ⟨g, 0, none⟩) xs.length cap, .int .i64 k] w fun e w' => e = .returned (.int .i64 (k + xs.length)) ∧
      w'.ownsRow B 3 1 (.slice (some ⟨g, 0, none⟩) xs.length cap) xs.length ((marks k xs.length).map (Value.int .i64)) ∧ w.grownBy w' (some g) := by
  go_enter Try.func52, Try.ntmps52
  go_wp2
  go_loopw [1, 5] (fun kk i wr => ∃ j : Nat, j ≤ xs.length ∧ kk = .int .i64 (k + j) ∧ i = .int .i64 j ∧ wr.ownsRow B 3 1 (.slice (some ⟨g, 0, none⟩) xs.length cap) xs.length (((marks k j).map (Value.int .i64)) ++ ((xs.drop j).map (Value.int .i64))) ∧ w.grownBy wr (some g)) (fun _ i _ => xs.length - (intOf i).toNat)
  case atStart => exact ⟨0, Nat.zero_le _, by simp, rfl, by simpa [marks] using ho, World.grownBy.refl _ _⟩
  case round =>
    obtain ⟨j, hj, rfl, rfl, hown, hgr⟩ := hrel
    by_cases hlt : j < xs.length
    · have hfr := hown.frozenAt j
      have hcw : wr.cell? ⟨g, j, none⟩ = some (.int .i64 (xs.getD j 0)) := by
        rw [hown.cellAt j (by omega), List.getElem?_append_right (by simp [marks_len])]
        simp [marks_len, List.getD, hlt]
      obtain ⟨hown2, hgr2⟩ := hown.stored j (.int .i64 (k + j))
      rw [mark_step xs k j hlt] at hown2
      have hgr3 : w.grownBy (wr.setCell ⟨g, j, none⟩ (.int .i64 (k + j))) (some g) :=
        ⟨hgr2.os.trans hgr.os, hgr2.tape.trans hgr.tape, hgr2.output.trans hgr.output, Nat.le_trans hgr.size hgr2.size, fun b hb hne => (hgr2.block b (Nat.lt_of_lt_of_le hb hgr.size) hne).trans (hgr.block b hb hne)⟩
      clear hown hgr hgr2
      go_wp2
      go_roundw
      case rel => exact ⟨j + 1, by omega, by go_num, by go_num, hown2, hgr3⟩
      case measure => simp [intOf]; omega
    · obtain rfl : j = xs.length := by omega
      have hown2 : wr.ownsRow B 3 1 (.slice (some ⟨g, 0, none⟩) xs.length cap) xs.length ((marks k xs.length).map (Value.int .i64)) := by simpa using hown
      clear hown ho
      go_wp2
      go_ret
      exact ⟨rfl, hown2, hgr⟩

set_option maxHeartbeats 800000 in
theorem c53 (a : Option Addr) (cap n : Nat) (k : Int) (w : World) (hz : Ints w a (marks k n)) (hl : n ≤ 1048576) (hk0 : 0 ≤ k) (hk1 : k ≤ 10000000) :
    Calls Try.prog 53 #[.slice a n cap, .int .i64 k] w fun e w' => e = .returned (.int .i64 (k + n)) ∧ w' = w := by
  go_enter Try.func53, Try.ntmps53
  go_wp2
  go_loop [1, 5] (fun kk i => ∃ j : Nat, j ≤ n ∧ kk = .int .i64 (k + j) ∧ i = .int .i64 j) (fun _ i => n - (intOf i).toNat)
  case atStart => exact ⟨0, Nat.zero_le _, by simp, rfl⟩
  case round =>
    obtain ⟨j, hj, rfl, rfl⟩ := hrel
    by_cases hlt : j < n
    · rcases hz with hz | ⟨b, off, rfl, hc⟩
      · have := marks_len k n; rw [hz] at this; simp at this; omega
      have hck : w.cell? ⟨b, off + j, none⟩ = some (.int .i64 (k + j)) := (hc j (by rw [marks_len]; exact hlt)).trans (by rw [marks_get k n j hlt])
      have hne : (k + (j : Int) != k + (j : Int)) = false := by simp
      clear hc
      go_wp2
      go_round
      case rel => exact ⟨j + 1, by omega, by go_num, by go_num⟩
      case measure => simp [intOf]; omega
    · obtain rfl : j = n := by omega
      clear hz
      go_wp2
      go_ret
      exact ⟨rfl, rfl⟩
end Go.Proofs.Ytmchdclieejohaa
