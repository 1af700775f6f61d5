/- The model's next spot, done, and MoveOn. -/
import Derived.Test.YtggdejceobagcaaF
import Derived.Test.YtggdejceobagcaaG
namespace Go.Proofs.Ytggdejceobagcaa
open Go.RowKit

set_option maxHeartbeats 400000 in
theorem cNextS (t : SingleV) (w : World) (h0 : -100 ≤ t.s) (h1 : t.s ≤ 100) : Calls Try.prog 53 #[t.val] w fun e w' => e = .returned (.int .i64 (nextS t)) ∧ Below w.heap.size w w' := by
  have E : Hid (nextS t = if t.s < t.d then t.s + 1 else t.s - 1) := rfl
  obtain ⟨s, d⟩ := t
  unfold SingleV.val
  dsimp only at *
  have hb := balloc w (.cells #[.int .i64 s, .int .i64 d] 31)
  by_cases h : s < d
  · rw [if_pos h] at E
    go_enter Try.func53, Try.ntmps53
    go_wp2
    go_ret
    exact ⟨ret_int E.out.symm, hb⟩
  · rw [if_neg h] at E
    go_enter Try.func53, Try.ntmps53
    go_wp2
    go_ret
    exact ⟨ret_int E.out.symm, hb⟩

set_option maxHeartbeats 800000 in
theorem cDoneS (a : Option Addr) (cap : Nat) (ts : List SingleV) (w : World) (hz : Singles w a ts) (hl : ts.length ≤ 1048576) :
    Calls Try.prog 59 #[.slice a ts.length cap] w fun e w' => e = .returned (.bool (doneT ts)) ∧ Below w.heap.size w w' := by
  generalize hr : doneT ts = res
  have hr0 : Hid ((ts.drop 0).all (fun t => decide (t.s = t.d)) = res) := hr
  clear hr
  go_enter Try.func59, Try.ntmps59
  go_wp2
  go_loopw [3] (fun i wr => ∃ k : Nat, k ≤ ts.length ∧ i = .int .i64 k ∧ Hid ((ts.drop k).all (fun t => decide (t.s = t.d)) = res) ∧ Below w.heap.size w wr) (fun i _ => ts.length - (intOf i).toNat)
  case atStart => exact ⟨0, Nat.zero_le _, rfl, hr0, Below.refl _ _⟩
  case round =>
    obtain ⟨k, hk, rfl, hres, hb⟩ := hrel
    clear hr0
    by_cases hlt : k < ts.length
    · rcases hz with h | ⟨b, off, rfl, hcl⟩
      · simp [h] at hlt
      obtain ⟨q0, q1⟩ := hcl k hlt
      replace q0 := ble hb q0
      replace q1 := ble hb q1
      rw [getD_lt hlt] at q0 q1
      have hd := hide ((all_drop (P := fun t : SingleV => decide (t.s = t.d)) hlt).symm.trans hres.out)
      generalize ts[k] = E at *
      obtain ⟨s, d⟩ := E
      dsimp only at *
      clear hcl hres
      by_cases hy : s = d
      · have hf := hide (show (ts.drop (k + 1)).all (fun t => decide (t.s = t.d)) = res by rw [← hd.out, decide_eq_true hy]; rfl)
        subst hy
        clear hd
        go_wp2
        go_quiet (fail)
        go_wp2
        go_roundw
        case rel => exact ⟨k + 1, by omega, by go_num, hf, bdraw hb _⟩
        case measure => simp [intOf]; omega
      · have hf := hide (show res = false by rw [← hd.out, decide_eq_false hy]; rfl)
        clear hd
        go_wp2
        go_quiet (fail)
        go_wp2
        go_ret
        exact ⟨ret_bool hf.out.symm, bdraw hb _⟩
    · obtain rfl : k = ts.length := by omega
      have hf := hide (show res = true by rw [← hres.out, List.drop_length]; rfl)
      clear hz
      go_wp2
      go_ret
      exact ⟨ret_bool hf.out.symm, hb⟩
end Go.Proofs.Ytggdejceobagcaa
