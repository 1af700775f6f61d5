/- Draws: a number below another, once in so many, a size, a new cursor. -/
import Derived.Test.YtnhcmjfmfgoakaaW
namespace Go.Proofs.Ytnhcmjfmfgoakaa
open Go.RowKit

theorem rem_in {x n : Int} (hx : 0 ≤ x) (hn : 1 ≤ n) (hn1 : n ≤ 1000000) : IntKind.i64.wrap (x.tmod n) = x % n ∧ 0 ≤ x % n ∧ x % n < n := by
  have h0 : 0 ≤ x % n := Int.emod_nonneg _ (by omega)
  have h1 : x % n < n := Int.emod_lt_of_pos _ (by omega)
  refine ⟨?_, h0, h1⟩
  rw [Int.tmod_eq_emod_of_nonneg hx]
  exact wrap_in _ (by omega) (by omega)

set_option maxHeartbeats 1600000 in
theorem c55 (cb cap : Nat) (a : Option Addr) (zs : List Int) (n : Int) (w : World) (hc : Cur w cb a cap zs) (hl : zs.length ≤ 1048576) (hn : 1 ≤ n) (hn1 : n ≤ 1000000) :
    Calls Try.prog 55 #[.pointer (some ⟨cb, 0, none⟩), .int .i64 n] w fun e w' => ∃ r, e = .returned (.int .i64 r) ∧ 0 ≤ r ∧ r < n ∧ Cur w' cb a cap zs ∧ w.grownBy w' (some cb) := by
  by_cases h2 : n ≤ 256
  · go_enter Try.func55, Try.ntmps55
    go_wp2_with fail
    refine (c58 cb cap a zs _ hc hl).mono ?_
    rintro e w1 ⟨r, rfl, r0, r1, C1, G1⟩
    obtain ⟨q1, q2, q3⟩ := rem_in r0 hn hn1
    go_wp2
    go_ret
    exact ⟨_, rfl, by omega, by omega, C1, G1⟩
  · go_enter Try.func55, Try.ntmps55
    go_wp2_with fail
    refine (c58 cb cap a zs _ hc hl).mono ?_
    rintro e w1 ⟨x, rfl, x0, x1, C1, G1⟩
    go_wp2_with fail
    refine (c58 cb cap a zs _ C1 hl).mono ?_
    rintro e w2 ⟨y, rfl, y0, y1, C2, G2⟩
    go_wp2_with fail
    refine (c58 cb cap a zs _ C2 hl).mono ?_
    rintro e w3 ⟨z, rfl, z0, z1, C3, G3⟩
    obtain ⟨q1, q2, q3⟩ := rem_in (x := x * 65536 + y * 256 + z) (by omega) hn hn1
    go_wp2
    go_ret
    exact ⟨_, rfl, by omega, by omega, C3, grown_trans (grown_trans G1 G2) G3⟩

set_option maxHeartbeats 800000 in
theorem c56 (cb cap : Nat) (a : Option Addr) (zs : List Int) (n : Int) (w : World) (hc : Cur w cb a cap zs) (hl : zs.length ≤ 1048576) (hn : 1 ≤ n) (hn1 : n ≤ 1000000) :
    Calls Try.prog 56 #[.pointer (some ⟨cb, 0, none⟩), .int .i64 n] w fun e w' => ∃ r, e = .returned (.bool r) ∧ Cur w' cb a cap zs ∧ w.grownBy w' (some cb) := by
  go_enter Try.func56, Try.ntmps56
  go_wp2_with fail
  refine (c55 cb cap a zs n _ hc hl hn hn1).mono ?_
  rintro e w1 ⟨r, rfl, r0, r1, C1, G1⟩
  go_wp2
  go_ret
  exact ⟨_, rfl, C1, G1⟩

set_option maxHeartbeats 800000 in
theorem c43 (a : Option Addr) (n cap : Nat) (m : Int) (w : World) (hl : n ≤ 1048576) (hm : 2 ≤ m) (hm1 : m ≤ 1000000) :
    Calls Try.prog 43 #[.slice a n cap, .int .i64 m] w fun e w' => ∃ r, e = .returned (.int .i64 r) ∧ 2 ≤ r ∧ r ≤ m ∧ w' = w := by
  by_cases h : m < 2 + (n : Int) / 16
  · go_enter Try.func43, Try.ntmps43
    go_wp2
    go_ret
    exact ⟨_, rfl, by omega, by omega, rfl⟩
  · go_enter Try.func43, Try.ntmps43
    go_wp2
    go_ret
    exact ⟨_, rfl, by omega, by omega, rfl⟩

theorem mask30 (x : Int) : 0 ≤ bits .and .i64 x 1073741823 ∧ bits .and .i64 x 1073741823 ≤ 1073741823 := by
  have e : bits .and .i64 x 1073741823 = IntKind.i64.wrap (((BitVec.ofInt 64 x &&& BitVec.ofInt 64 1073741823).toNat : Nat) : Int) := rfl
  have h : (BitVec.ofInt 64 x &&& BitVec.ofInt 64 1073741823).toNat ≤ 1073741823 := by
    rw [BitVec.toNat_and]
    exact Nat.le_trans Nat.and_le_right (by decide)
  generalize (BitVec.ofInt 64 x &&& BitVec.ofInt 64 1073741823).toNat = n at *
  rw [e, wrap_in _ (by omega) (by omega)]
  omega

set_option maxRecDepth 20000 in
set_option maxHeartbeats 1600000 in
theorem c40 (a : Option Addr) (cap : Nat) (zs : List Int) (w : World) (hz : Bytes w a zs) (hl : zs.length ≤ 1048576) :
    Calls Try.prog 40 #[.slice a zs.length cap] w fun e w' => ∃ cb, e = .returned (.pointer (some ⟨cb, 0, none⟩)) ∧ w.heap.size ≤ cb ∧ Cur w' cb a cap zs ∧ Below w.heap.size w w' := by
  go_enter Try.func40, Try.ntmps40
  go_wp2
  go_loop [3, 4] (fun h i => ∃ (k : Nat) (H : Int), k ≤ zs.length ∧ i = .int .i64 k ∧ h = .int .i64 H) (fun _ i => zs.length - (intOf i).toNat)
  case atStart => exact ⟨0, _, Nat.zero_le _, rfl, rfl⟩
  case round =>
    obtain ⟨k, H, hk, rfl, rfl⟩ := hrel
    have cur : Cur (w.alloc (.cells #[.slice a zs.length cap, .int .i64 0, .int .i64 H] 59)) w.heap.size a cap zs := by
      refine ⟨⟨0, H, by omega, by omega, heap_alloc_new w _⟩, hz.below (balloc _ _), ?_⟩
      rintro b off rfl hne
      rcases hz with hz | ⟨b', off', ha, hc⟩
      · exact absurd hz hne
      · simp only [Option.some.injEq, Addr.mk.injEq] at ha
        have := cell_lt (hc 0 (by cases zs <;> simp_all)).1
        omega
    by_cases l1 : k < zs.length
    · by_cases l2 : k < 4000
      · rcases hz with hz | ⟨b, off, rfl, hc⟩
        · simp [hz] at l1
        obtain ⟨hck, h0, h1⟩ := hc k l1
        clear cur
        go_wp2
        go_round
        case rel => exact ⟨k + 1, _, by omega, by go_num, rfl⟩
        case measure => simp [intOf]; omega
      · go_wp2
        go_ret
        exact ⟨_, rfl, Nat.le_refl _, cur, balloc _ _⟩
    · go_wp2
      go_ret
      exact ⟨_, rfl, Nat.le_refl _, cur, balloc _ _⟩
end Go.Proofs.Ytnhcmjfmfgoakaa
