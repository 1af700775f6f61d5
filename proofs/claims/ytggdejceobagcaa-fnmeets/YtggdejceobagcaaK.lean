/- The model's keys, and its search. -/
import Derived.Test.YtggdejceobagcaaJ
import Derived.Test.YtggdejceobagcaaMC
import Derived.Test.YtggdejceobagcaaBB
namespace Go.Proofs.Ytggdejceobagcaa
open Go.RowKit

theorem pow_le {M k : Nat} (hM : M ≤ 9) (hk : k ≤ 4) : M ^ k ≤ 6561 :=
  Nat.le_trans (Nat.pow_le_pow_left hM k) (Nat.pow_le_pow_right (by omega) hk : 9 ^ k ≤ 9 ^ 4)

set_option maxHeartbeats 800000 in
theorem cKeyS (a b : Option Addr) (ca cb : Nat) (ls : List Int) (ts : List SingleV) (w : World) (ht : Singles w b ts) (h2 : 2 ≤ ls.length) (h5 : ls.length ≤ 5) (hm : ts.length ≤ 4) (hs : Spots (2 * (ls.length : Int) - 1) ts) :
    Calls Try.prog 66 #[.slice a ls.length ca, .slice b ts.length cb] w fun e w' => e = .returned (.int .i64 (keyN (2 * (ls.length : Int) - 1) ts)) ∧ w' = w := by
  have hrg : ∀ k, k ≤ ts.length → 0 ≤ keyN (2 * (ls.length : Int) - 1) (ts.take k) ∧ keyN (2 * (ls.length : Int) - 1) (ts.take k) < 6561 := by
    intro k hk
    have e : (2 * (ls.length : Int) - 1) = ((2 * ls.length - 1 : Nat) : Int) := by omega
    rw [e] at hs ⊢
    have := keyN_rng (M := 2 * ls.length - 1) (by omega) k (ts.take k) (by simp; omega) (fun t h => hs t (List.mem_of_mem_take h))
    have p := pow_le (M := 2 * ls.length - 1) (k := k) (by omega) (by omega)
    omega
  have hst := keyN_take (2 * (ls.length : Int) - 1) ts
  have hse := fun k (hk : k < ts.length) => hs ts[k] (List.getElem_mem hk)
  generalize hmm : 2 * (ls.length : Int) - 1 = m at *
  have hK0 : keyN m (ts.take 0) = 0 := rfl
  have hKn : Hid (keyN m (ts.take ts.length) = keyN m ts) := by rw [List.take_length]; exact rfl
  generalize keyN m ts = res at *
  generalize hK : (fun k => keyN m (ts.take k)) = K at *
  have hKk : ∀ k, keyN m (ts.take k) = K k := fun k => by rw [← hK]
  simp only [hKk] at hrg hst hK0 hKn
  clear hK hKk hs
  replace hmm := hide hmm
  replace hst := hide hst
  replace hrg := hide hrg
  replace hK0 := hide hK0
  go_enter Try.func66, Try.ntmps66
  go_wp2
  go_loop [5, 6] (fun n i => ∃ k : Nat, k ≤ ts.length ∧ i = .int .i64 k ∧ n = .int .i64 (K k)) (fun _ i => ts.length - (intOf i).toNat)
  case atStart => exact ⟨0, Nat.zero_le _, rfl, by rw [hK0.out]⟩
  case round =>
    obtain ⟨k, hk, rfl, rfl⟩ := hrel
    clear hK0
    by_cases hlt : k < ts.length
    · rcases ht with h | ⟨nb, off, rfl, hcl⟩
      · simp [h] at hlt
      obtain ⟨q0, q1⟩ := hcl k hlt
      rw [getD_lt hlt] at q0 q1
      have st := hide (hst.out k hlt)
      have b1 := hide (hrg.out k hk)
      have b2 := hide (hrg.out (k + 1) hlt)
      have hsk := hse k hlt
      generalize ts[k] = E at *
      obtain ⟨x, d⟩ := E
      dsimp only at *
      generalize hx : K k = kk at *
      clear hcl q1 hst hrg hx hKn hse
      have hp : 0 ≤ kk * m := Int.mul_nonneg b1.out.1 (by omega)
      have hst2 := st.out
      have hb2 := b2.out
      have w1 : IntKind.i64.wrap (kk * (2 * (ls.length : Int) - 1)) = kk * (2 * (ls.length : Int) - 1) := by
        rw [hmm.out]; exact wrap_in _ (by omega) (by omega)
      have w2 : IntKind.i64.wrap (kk * (2 * (ls.length : Int) - 1) + x) = kk * (2 * (ls.length : Int) - 1) + x := by
        rw [hmm.out]; exact wrap_in _ (by omega) (by omega)
      have hF := hide (show kk * (2 * (ls.length : Int) - 1) + x = K (k + 1) by rw [hmm.out]; omega)
      clear hp hst2 hb2 st b1 b2 hsk
      go_wp2
      go_round
      case rel => exact ⟨k + 1, by omega, by go_num, by rw [← hF.out]⟩
      case measure => simp [intOf]; omega
    · obtain rfl : k = ts.length := by omega
      rw [hKn.out]
      clear ht
      go_wp2
      go_ret
      exact ⟨rfl, rfl⟩
end Go.Proofs.Ytggdejceobagcaa
