/- The model: who holds a seat. -/
import Derived.Test.YtgnlcehpajbnoaaCN
import Derived.Deep.RegionHeld3
import Derived.Deep.AppendLies
namespace Go.Proofs.Ytgnlcehpajbnoaa
open Go.RowKit Go.Lib
theorem held_at {hs : List BkV} {k : Nat} {s p : Int} (hk : k < hs.length) (h : (hs.getD k BkV.zero).s = s ∧ (hs.getD k BkV.zero).n ≤ p ∧ p < (hs.getD k BkV.zero).f) : heldB hs s p = true := by
  refine heldB_iff.2 ⟨hs[k], List.getElem_mem hk, ?_⟩
  simpa [List.getD, hk] using h
theorem held_none {hs : List BkV} {s p : Int} (h : ∀ j, j < hs.length → ¬ ((hs.getD j BkV.zero).s = s ∧ (hs.getD j BkV.zero).n ≤ p ∧ p < (hs.getD j BkV.zero).f)) : heldB hs s p = false := by
  refine heldB_no.2 fun b hb hc => ?_
  obtain ⟨j, hj, rfl⟩ := List.getElem_of_mem hb
  exact h j hj (by simpa [List.getD, hj] using hc)

set_option maxRecDepth 20000 in
set_option maxHeartbeats 3200000 in
theorem cHeldS (S P : Int) (a : Option Addr) (c : Nat) (hs : List BkV) (s p : Int) (w : World) (hz : Bks w a hs) (hl : hs.length ≤ 1048576) (hok : ∀ j, j < hs.length → 0 ≤ (hs.getD j BkV.zero).f ∧ (hs.getD j BkV.zero).f ≤ 100) :
    Calls Try.prog 59 #[.agg #[.int .i64 S, .int .i64 P, .slice a hs.length c], .int .i64 s, .int .i64 p] w fun e w' => e = .returned (.bool (!heldB hs s p)) ∧ Below w.heap.size w w' := by
  have hW := balloc w (.cells #[.int .i64 S, .int .i64 P, .slice a hs.length c] 26)
  have kt : (w.alloc (.cells #[.int .i64 S, .int .i64 P, .slice a hs.length c] 26)).heap[w.heap.size]? = some (.cells #[.int .i64 S, .int .i64 P, .slice a hs.length c] 26 (0, 0)) := heap_alloc_new w _
  have hyes := fun (k : Nat) hk h => hide (held_at (hs := hs) (k := k) (s := s) (p := p) hk h)
  have hno := fun h => hide (held_none (hs := hs) (s := s) (p := p) h)
  replace hok := hide hok
  generalize heldB hs s p = R at *
  go_enter Try.func59, Try.ntmps59
  go_wp2
  generalize w.alloc (.cells #[.int .i64 S, .int .i64 P, .slice a hs.length c] 26) = W at *
  go_loopw [7] (fun i wr => ∃ k : Nat, i = .int .i64 k ∧ k ≤ hs.length ∧ Below W.heap.size W wr ∧ Hid (∀ j, j < k → ¬ ((hs.getD j BkV.zero).s = s ∧ (hs.getD j BkV.zero).n ≤ p ∧ p < (hs.getD j BkV.zero).f))) (fun i _ => hs.length - (intOf i).toNat)
  case atStart => exact ⟨0, rfl, Nat.zero_le _, Below.refl _ _, hide (fun j hj => by omega)⟩
  case round =>
    obtain ⟨k, rfl, hk, hb, hN⟩ := hrel
    have hbw := btrans hW hb
    obtain ⟨⟨b0, b1, b2⟩, -⟩ := blk3 (blk_keep hb kt)
    clear b0 b1
    by_cases hlt : k < hs.length
    rotate_left
    · obtain rfl : k = hs.length := by omega
      have hR2 : R = false := (hno hN.out).out
      subst hR2
      clear hz kt hyes hno hok
      go_wp2
      go_ret
      exact ⟨rfl, hbw⟩
    rcases hz with h | ⟨hb0, ho, rfl, hc⟩
    · simp [h] at hlt
    obtain ⟨q0, q1, q2, q3⟩ := hc k hlt
    replace q1 := ble hbw q1
    replace q2 := ble hbw q2
    replace q3 := ble hbw q3
    have hhb : hb0 < wr.heap.size := cell_lt q1
    have hf := hok.out k hlt
    have hy := fun h => hyes k hlt h
    have hN2 := fun (h : ¬ ((hs.getD k BkV.zero).s = s ∧ (hs.getD k BkV.zero).n ≤ p ∧ p < (hs.getD k BkV.zero).f)) => hide (fun j (hj : j < k + 1) => if e : j = k then by subst e; exact h else hN.out j (by omega))
    clear hc hyes hno hok q0
    generalize hs.getD k BkV.zero = x at *
    obtain ⟨xi, xs, xn, xf⟩ := x
    dsimp only at *
    have hwf : IntKind.i64.wrap (xf - 1) = xf - 1 := wrap_in _ (by omega) (by omega)
    have C1 := fun V => cIn p xn (xf - 1) V
    by_cases c1 : xs = s
    · have c1' : (xs == s) = true := by simp [c1]
      have c1'' : (s == s) = true := by simp
      cases e1 : inB p xn (xf - 1)
      · rw [e1] at C1
        have hn := hN2 (fun h => by have := inB_ff e1; omega)
        clear hN hy hN2
        subst c1
        go_wp2_with fail
        go_quiet (first | (go_at_call 61; with_reducible refine Calls.quiet_of_same (C1 _)))
        go_wp2
        go_roundw
        case rel => exact ⟨k + 1, by go_num, by omega, bdraw hb _, hn⟩
        case measure => simp [intOf]; omega
      · rw [e1] at C1
        obtain ⟨i1, i2⟩ := inB_true e1
        have hR2 : R = true := (hy ⟨c1, i1, by omega⟩).out
        subst hR2
        subst c1
        clear hN hy hN2
        go_wp2_with fail
        go_quiet (first | (go_at_call 61; with_reducible refine Calls.quiet_of_same (C1 _)))
        go_wp2
        go_ret
        exact ⟨rfl, bdraw hbw _⟩
    · have c1' : (xs == s) = false := by simp [c1]
      have hn := hN2 (fun h => c1 h.1)
      clear hN hy hN2 C1
      go_wp2_with fail
      go_quiet (fail)
      go_wp2
      go_roundw
      case rel => exact ⟨k + 1, by go_num, by omega, bdraw hb _, hn⟩
      case measure => simp [intOf]; omega
end Go.Proofs.Ytgnlcehpajbnoaa
