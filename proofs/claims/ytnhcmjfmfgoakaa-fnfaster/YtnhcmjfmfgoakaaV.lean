/- Bytes of a draw; the walk of the law on roots. -/
import Derived.Test.YtnhcmjfmfgoakaaCT
namespace Go.Proofs.Ytnhcmjfmfgoakaa
open Go.RowKit

/-- The bytes of a slice that came in: behind its address lie the numbers zs, each a byte. -/
def Bytes (w : World) (a : Option Addr) (zs : List Int) : Prop :=
  zs = [] ∨ ∃ b off, a = some ⟨b, off, none⟩ ∧ ∀ i, i < zs.length → w.cell? ⟨b, off + i, none⟩ = some (.int .u8 (zs.getD i 0)) ∧ 0 ≤ zs.getD i 0 ∧ zs.getD i 0 ≤ 255
theorem Bytes.below {w w' : World} {a : Option Addr} {zs : List Int} (h : Bytes w a zs) (hb : Below w.heap.size w w') : Bytes w' a zs := by
  rcases h with h | ⟨b, off, ha, hc⟩
  · exact .inl h
  · exact .inr ⟨b, off, ha, fun i hi => ⟨ble hb (hc i hi).1, (hc i hi).2⟩⟩

set_option maxHeartbeats 400000 in
theorem c22 (a : Option Addr) (cap : Nat) (zs : List Int) (i : Int) (w : World) (hz : Bytes w a zs) (hl : zs.length ≤ 1048576) (hi0 : 0 ≤ i) (hi1 : i ≤ 1000) :
    Calls Try.prog 22 #[.slice a zs.length cap, .int .i64 i] w fun e w' => ∃ r, e = .returned (.int .i64 r) ∧ 0 ≤ r ∧ r ≤ 255 ∧ w' = w := by
  obtain ⟨k, rfl⟩ := Int.eq_ofNat_of_zero_le hi0
  by_cases hlt : k < zs.length
  · rcases hz with hz | ⟨b, off, rfl, hc⟩
    · simp [hz] at hlt
    obtain ⟨hck, h0, h1⟩ := hc k hlt
    have e0 : zs.getD k 0 = zs[k] := by simp [List.getD, hlt]
    rw [e0] at hck h0 h1
    clear hc e0
    go_enter Try.func22, Try.ntmps22
    go_wp2
    go_ret
    exact ⟨_, rfl, by omega, by omega, rfl⟩
  · clear hz
    go_enter Try.func22, Try.ntmps22
    go_wp2
    go_ret
    exact ⟨_, rfl, by omega, by omega, rfl⟩
set_option maxHeartbeats 400000 in
theorem c15 (a : Option Addr) (cap n : Nat) (w : World) (hn : n ≤ maxLen) : Calls Try.prog 15 #[.slice a n cap] w fun e w' => e = .returned (.bool (decide (1048576 < n))) ∧ w' = w := by
  unfold maxLen at hn
  go_enter Try.func15, Try.ntmps15
  go_wp2
  go_ret
  exact ⟨ret_bool (decide_eq_decide.2 (by omega)), rfl⟩

theorem root_max : rootZ 9223372036854775807 = 3037000499 := root_uniq (by omega) (by omega) (by omega) (by omega)
theorem root_sq {k : Int} (h : 0 ≤ k) : rootZ (k * k) = k := root_uniq (Int.mul_nonneg h h) h (Int.le_refl _) (by
  have : (k + 1) * (k + 1) = k * k + 2 * k + 1 := by simp only [Int.mul_add, Int.add_mul, Int.mul_one, Int.one_mul]; omega
  omega)
theorem root_sq1 {k : Int} (h : 1 ≤ k) : rootZ (k * k - 1) = k - 1 := by
  have h1 : (k - 1) * (k - 1) = k * k - 2 * k + 1 := by simp only [Int.mul_sub, Int.sub_mul, Int.mul_one, Int.one_mul]; omega
  have h2 : 1 ≤ k * k := by have := Int.mul_le_mul h h (by omega) (by omega); omega
  exact root_uniq (by omega) (by omega) (by omega) (by rw [Int.sub_add_cancel]; omega)

set_option maxHeartbeats 3200000 in
theorem walk6 (a : Option Addr) (cap : Nat) (zs : List Int) (w : World) (hz : Bytes w a zs) (hl : zs.length ≤ maxLen) :
    Calls Try.prog 6 #[.slice a zs.length cap] w fun e w' => e = .returned (.bool true) ∧ Below w.heap.size w w' := by
  by_cases hbig : 1048576 < zs.length
  · have hb : decide (1048576 < zs.length) = true := by simpa using hbig
    go_enter Try.func6, Try.ntmps6
    go_wp2_with (go_at_call 15; refine (c15 _ _ _ _ hl).mono ?_; rintro e w2 ⟨rfl, hw⟩; obtain rfl := hw.symm)
    go_ret
    exact ⟨rfl, Below.refl _ _⟩
  have hb : decide (1048576 < zs.length) = false := by simpa using hbig
  have hl2 : zs.length ≤ 1048576 := by omega
  clear hbig
  go_enter Try.func6, Try.ntmps6
  go_wp2_with (go_at_call 15; refine (c15 _ _ _ _ hl).mono ?_; rintro e w2 ⟨rfl, hw⟩; obtain rfl := hw.symm)
  go_loop [3, 4] (fun x i => ∃ (k : Nat) (X : Int), k ≤ 6 ∧ i = .int .i64 k ∧ x = .int .i64 X ∧ 0 ≤ X ∧ X < 256 ^ k) (fun _ i => 6 - (intOf i).toNat)
  case atStart => exact ⟨0, 0, by omega, rfl, rfl, by omega, by decide⟩
  case round =>
    obtain ⟨k, X, hk, rfl, rfl, h0, h1⟩ := hrel
    by_cases hlt : k < 6
    · have hp : (256 : Int) ^ (k + 1) = 256 ^ k * 256 := Int.pow_succ ..
      have hq : (256 : Int) ^ k ≤ 256 ^ 5 := by
        have : k = 0 ∨ k = 1 ∨ k = 2 ∨ k = 3 ∨ k = 4 ∨ k = 5 := by omega
        rcases this with rfl | rfl | rfl | rfl | rfl | rfl <;> decide
      generalize hP : (256 : Int) ^ k = P at *
      have hq' : P ≤ 1099511627776 := hq
      clear hq
      go_wp2_with fail
      refine (c22 a cap zs k w hz hl2 (by omega) (by omega)).mono ?_
      rintro e w1 ⟨r, rfl, r0, r1, hw⟩
      obtain rfl := hw.symm
      go_wp2
      go_round
      case rel => exact ⟨k + 1, X * 256 + r, by omega, by go_num, rfl, by omega, by rw [hp]; omega⟩
      case measure => simp [intOf]; omega
    · obtain rfl : k = 6 := by omega
      have h1' : X < 281474976710656 := h1
      clear h1 hb hl
      obtain ⟨g0, g1, g2⟩ := rootZ_is h0
      have g3 := sq_lt g0 (by omega : (0 : Int) ≤ 16777217) (by omega)
      have hR := hide (rfl : rootZ X = rootZ X)
      have hneg := hide (rootZ_neg (x := -X - 1) (by omega))
      have hmax := hide root_max
      generalize hr : rootZ X = r at *
      have hr := hide hr
      have q1 : 0 ≤ r * r := Int.mul_nonneg g0 g0
      have q2 : (r + 1) * (r + 1) = r * r + 2 * r + 1 := by simp only [Int.mul_add, Int.add_mul, Int.mul_one, Int.one_mul]; omega
      have e1 : IntKind.i64.wrap (r * r) = r * r := wrap_in _ (by omega) (by omega)
      have e2 : IntKind.i64.wrap ((r + 1) * (r + 1)) = (r + 1) * (r + 1) := wrap_in _ (by omega) (by omega)
      have k0 : 0 ≤ X % 3037000499 := Int.emod_nonneg _ (by omega)
      have k1 : X % 3037000499 < 3037000499 := Int.emod_lt_of_pos _ (by omega)
      generalize hKe : X % 3037000499 = K at *
      have q3 : K * K ≤ 3037000498 * 3037000498 := Int.mul_le_mul (by omega) (by omega) k0 (by omega)
      have q4 : 0 ≤ K * K := Int.mul_nonneg k0 k0
      have e4 : IntKind.i64.wrap (K * K) = K * K := wrap_in _ (by omega) (by omega)
      have e5 : IntKind.i64.wrap (K * K - 1) = K * K - 1 := wrap_in _ (by omega) (by omega)
      have hs := hide (root_sq k0)
      have hs1 : Hid (1 ≤ K → rootZ (K * K - 1) = K - 1) := fun h => root_sq1 h
      have n1 : ¬ r < 0 := by omega
      have n2 : ¬ 33554432 < r := by omega
      have n3 : ¬ X < r * r := by omega
      have n4 : ¬ (r + 1) * (r + 1) ≤ X := by omega
      clear q2
      go_wp2_with fail
      refine (c25 X w (by omega) (by omega)).mono ?_
      rintro e w2 ⟨rfl, hw⟩
      obtain rfl := hw.symm
      rw [hr.out]
      go_wp2_with fail
      refine (c25 (K * K) w (by omega) (by omega)).mono ?_
      rintro e w2 ⟨rfl, hw⟩
      obtain rfl := hw.symm
      rw [hs.out]
      go_wp2_with fail
      refine (c25 (-X - 1) w (by omega) (by omega)).mono ?_
      rintro e w2 ⟨rfl, hw⟩
      obtain rfl := hw.symm
      rw [hneg.out]
      by_cases hK : K = 0
      · subst hK
        go_wp2_with fail
        refine (c25 9223372036854775807 w (by omega) (by omega)).mono ?_
        rintro e w2 ⟨rfl, hw⟩
        obtain rfl := hw.symm
        rw [hmax.out]
        go_wp2
        go_ret
        exact ⟨rfl, Below.refl _ _⟩
      · have hs2 := hide (hs1.out (by omega))
        go_wp2_with fail
        refine (c25 (K * K - 1) w (by omega) (by omega)).mono ?_
        rintro e w2 ⟨rfl, hw⟩
        obtain rfl := hw.symm
        rw [hs2.out]
        go_wp2_with fail
        refine (c25 9223372036854775807 w (by omega) (by omega)).mono ?_
        rintro e w2 ⟨rfl, hw⟩
        obtain rfl := hw.symm
        rw [hmax.out]
        go_wp2
        go_ret
        exact ⟨rfl, Below.refl _ _⟩
end Go.Proofs.Ytnhcmjfmfgoakaa
