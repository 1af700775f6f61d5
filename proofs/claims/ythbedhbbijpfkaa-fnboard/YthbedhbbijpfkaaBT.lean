/- What is told already. -/
import Derived.Test.YthbedhbbijpfkaaBO
namespace Go.Proofs.Ythbedhbbijpfkaa
open Go.RowKit
theorem told_drop {os : List (Nat × Nat)} {x : Nat × Nat} {k : Nat} (hk : k < os.length) : decide (x ∈ os.drop k) = (decide (os[k] = x) || decide (x ∈ os.drop (k + 1))) := by
  rw [List.drop_eq_getElem_cons hk, Bool.eq_iff_iff]
  simp only [Bool.or_eq_true, decide_eq_true_eq, List.mem_cons]
  constructor
  · rintro (h | h)
    · exact .inl h.symm
    · exact .inr h
  · rintro (h | h)
    · exact .inl h.symm
    · exact .inr h
theorem entL_get (os : List (Nat × Nat)) {k : Nat} (hk : k < os.length) : (entL os).getD k EntryV.zero = ⟨((os[k]).1 : Int), ((os[k]).2 : Int)⟩ := by simp [entL, List.getD, hk]
set_option maxHeartbeats 800000 in
theorem cTold (a : Option Addr) (cap : Nat) (os : List (Nat × Nat)) (i k : Nat) (w : World) (hz : Entries w a (entL os)) (hl : os.length ≤ 1048576) :
    Calls Try.prog 29 #[.slice a os.length cap, .int .i64 (i : Int), .int .i64 (k : Int)] w fun e w' => e = .returned (.bool (decide ((i, k) ∈ os))) ∧ w' = w := by
  generalize hr : decide ((i, k) ∈ os) = res
  have hr0 : Hid (decide ((i, k) ∈ os.drop 0) = res) := hr
  clear hr
  go_enter Try.func29, Try.ntmps29
  go_wp2
  go_loop [7] (fun ix => ∃ q : Nat, q ≤ os.length ∧ ix = .int .i64 q ∧ Hid (decide ((i, k) ∈ os.drop q) = res)) (fun ix => os.length - (intOf ix).toNat)
  case atStart => exact ⟨0, Nat.zero_le _, rfl, hr0⟩
  case round =>
    obtain ⟨q, hq, rfl, hres⟩ := hrel
    clear hr0
    by_cases hlt : q < os.length
    · have hlt' : (q : Int) < (os.length : Int) := by omega
      have hq0 : (0 : Int) ≤ (q : Int) := by omega
      rcases hz with h | ⟨b, off, rfl, hc⟩
      · have := entL_len os; rw [h] at this; simp at this; omega
      obtain ⟨q0, q1⟩ := hc q (by rw [entL_len]; exact hlt)
      rw [entL_get os hlt] at q0 q1
      have hd := hide ((told_drop (x := (i, k)) hlt).symm.trans hres.out)
      generalize os[q] = y at *
      obtain ⟨yi, yk⟩ := y
      dsimp only at q0 q1
      clear hc hres
      by_cases h1 : yi = i
      · by_cases h2 : yk = k
        · have hf := hide (show res = true by rw [← hd.out]; simp [h1, h2])
          clear hd
          subst h1 h2
          go_wp2
          go_ret
          exact ⟨ret_bool hf.out.symm, rfl⟩
        · have hf := hide (show decide ((i, k) ∈ os.drop (q + 1)) = res by rw [← hd.out]; simp [h2])
          have h3 : ¬ ((yk : Int) = (k : Int)) := by omega
          clear hd
          subst h1
          go_wp2
          go_round
          case rel => exact ⟨q + 1, by omega, by go_num, hf⟩
          case measure => simp [intOf]; omega
      · have hf := hide (show decide ((i, k) ∈ os.drop (q + 1)) = res by rw [← hd.out]; simp [h1])
        have h3 : ¬ ((yi : Int) = (i : Int)) := by omega
        clear hd
        go_wp2
        go_round
        case rel => exact ⟨q + 1, by omega, by go_num, hf⟩
        case measure => simp [intOf]; omega
    · obtain rfl : q = os.length := by omega
      have hf := hide (show res = false by rw [← hres.out, List.drop_length]; simp)
      clear hz
      go_wp2
      go_ret
      exact ⟨ret_bool hf.out.symm, rfl⟩
end Go.Proofs.Ythbedhbbijpfkaa
