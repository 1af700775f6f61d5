/- The rules of a border, as the program has them; the least of numbers. -/
import Derived.Test.YtnhcmjfmfgoakaaE
namespace Go.Proofs.Ytnhcmjfmfgoakaa
open Go.RowKit

theorem bdraw {B : Nat} {a w : World} (h : Below B a w) (n : Nat) : Below B a (w.drewN n) := h.trans (Go.Joins.below_draws B w n)
theorem undrew {w w1 : World} (h : Below w.drew.heap.size w.drew w1) : Below w.heap.size w w1 := ⟨h.os, h.tape, h.output, h.size, h.block⟩
/-- A motor on a course, with the squares so far. -/
def profV (m : MotorV) (cs sq : Value) : Value := .agg #[.int .i64 m.u, .int .i64 m.d, .int .i64 m.t, cs, sq]

set_option maxHeartbeats 800000 in
theorem c45 (m : MotorV) (cs sq : Value) (b : Int) (w : World) (h0 : 0 ≤ m.t) (h1 : m.t ≤ 90) :
    Calls Try.prog 45 #[profV m cs sq, .int .i64 b] w fun e w' => e = .returned (.int .i64 (m.t * m.t)) ∧ Below w.heap.size w w' := by
  obtain ⟨u, d, t⟩ := m
  unfold profV
  replace h0 : 0 ≤ t := h0
  replace h1 : t ≤ 90 := h1
  have hs := sq_wrap h0 h1
  have hW := balloc w (.cells #[.int .i64 u, .int .i64 d, .int .i64 t, cs, sq] 52)
  go_enter Try.func45, Try.ntmps45
  go_wp2
  go_ret
  exact ⟨rfl, hW⟩

set_option maxHeartbeats 800000 in
theorem c46 (a : Option Addr) (cap b : Nat) (m : MotorV) (sq : Value) (zs : List Int) (w : World) (hz : Ints w a zs) (hb0 : 1 ≤ b) (hb : b < zs.length) (_hl : zs.length ≤ 200) (hy : 0 ≤ zs.getD (b - 1) 0 ∧ zs.getD (b - 1) 0 ≤ 90) :
    Calls Try.prog 46 #[profV m (.slice a zs.length cap) sq, .int .i64 b] w fun e w' => e = .returned (.int .i64 (zs.getD (b - 1) 0 * zs.getD (b - 1) 0)) ∧ Below w.heap.size w w' := by
  obtain ⟨u, d, t⟩ := m
  unfold profV
  rcases hz with hz | ⟨B, o, rfl, hc⟩
  · simp [hz] at hb
  obtain ⟨q, rfl⟩ : ∃ q, b = q + 1 := ⟨b - 1, by omega⟩
  have hck := hc (q) (by omega)
  have hbw := cell_lt hck
  clear hc
  rw [show zs.getD ((q + 1) - 1) 0 = zs.getD (q) 0 by simp] at *
  generalize zs.getD (q) 0 = x at *
  have hs := sq_wrap hy.1 hy.2
  have hqq : (q : Int) + 1 < (zs.length : Int) := by omega
  have hW := balloc w (.cells #[.int .i64 u, .int .i64 d, .int .i64 t, .slice (some ⟨B, o, none⟩) zs.length cap, sq] 52)
  go_enter Try.func46, Try.ntmps46
  go_wp2
  go_quiet (fail)
  go_wp2
  go_ret
  exact ⟨rfl, bdraw hW _⟩

set_option maxHeartbeats 800000 in
theorem c47 (a : Option Addr) (cap b : Nat) (m : MotorV) (sq : Value) (zs : List Int) (w : World) (hz : Ints w a zs) (hb0 : 1 ≤ b) (hb : b < zs.length) (_hl : zs.length ≤ 200) (hy : 0 ≤ zs.getD (b) 0 ∧ zs.getD (b) 0 ≤ 90) :
    Calls Try.prog 47 #[profV m (.slice a zs.length cap) sq, .int .i64 b] w fun e w' => e = .returned (.int .i64 (zs.getD (b) 0 * zs.getD (b) 0)) ∧ Below w.heap.size w w' := by
  obtain ⟨u, d, t⟩ := m
  unfold profV
  rcases hz with hz | ⟨B, o, rfl, hc⟩
  · simp [hz] at hb
  obtain ⟨q, rfl⟩ : ∃ q, b = q + 1 := ⟨b - 1, by omega⟩
  have hck := hc (q + 1) (by omega)
  have hbw := cell_lt hck
  clear hc
  rw [show zs.getD ((q + 1)) 0 = zs.getD (q + 1) 0 by simp] at *
  generalize zs.getD (q + 1) 0 = x at *
  have hs := sq_wrap hy.1 hy.2
  have hqq : (q : Int) + 1 < (zs.length : Int) := by omega
  have hW := balloc w (.cells #[.int .i64 u, .int .i64 d, .int .i64 t, .slice (some ⟨B, o, none⟩) zs.length cap, sq] 52)
  go_enter Try.func47, Try.ntmps47
  go_wp2
  go_quiet (fail)
  go_wp2
  go_ret
  exact ⟨rfl, bdraw hW _⟩

set_option maxHeartbeats 800000 in
theorem c48 (a : Option Addr) (cap b : Nat) (m : MotorV) (cs : Value) (xs : List Int) (w : World) (hz : Ints w a xs) (hb0 : 1 ≤ b) (hb : b + 1 < xs.length) (hl : xs.length ≤ 201) (hy : 0 ≤ xs.getD (b - 1) 0 ∧ xs.getD (b - 1) 0 ≤ 8100) (h0 : 0 ≤ m.u) (h1 : m.u ≤ 200) :
    Calls Try.prog 48 #[profV m cs (.slice a xs.length cap), .int .i64 b] w fun e w' => e = .returned (.int .i64 (xs.getD (b - 1) 0 + m.u)) ∧ Below w.heap.size w w' := by
  obtain ⟨u, d, t⟩ := m
  unfold profV
  replace h0 : 0 ≤ u := h0
  replace h1 : u ≤ 200 := h1
  rcases hz with hz | ⟨B, o, rfl, hc⟩
  · simp [hz] at hb
  obtain ⟨q, rfl⟩ : ∃ q, b = q + 1 := ⟨b - 1, by omega⟩
  have hck := hc (q) (by omega)
  have hbw := cell_lt hck
  clear hc
  rw [show xs.getD ((q + 1) - 1) 0 = xs.getD (q) 0 by simp] at *
  generalize xs.getD (q) 0 = x at *
  obtain ⟨y0, y1⟩ := hy
  have hqq : (q : Int) + 1 + 1 < (xs.length : Int) := by omega
  have hW := balloc w (.cells #[.int .i64 u, .int .i64 d, .int .i64 t, cs, .slice (some ⟨B, o, none⟩) xs.length cap] 52)
  go_enter Try.func48, Try.ntmps48
  go_wp2
  go_quiet (fail)
  go_wp2
  go_ret
  exact ⟨rfl, bdraw hW _⟩

set_option maxHeartbeats 800000 in
theorem c49 (a : Option Addr) (cap b : Nat) (m : MotorV) (cs : Value) (xs : List Int) (w : World) (hz : Ints w a xs) (hb0 : 1 ≤ b) (hb : b + 1 < xs.length) (hl : xs.length ≤ 201) (hy : 0 ≤ xs.getD (b + 1) 0 ∧ xs.getD (b + 1) 0 ≤ 8100) (h0 : 0 ≤ m.d) (h1 : m.d ≤ 400) :
    Calls Try.prog 49 #[profV m cs (.slice a xs.length cap), .int .i64 b] w fun e w' => e = .returned (.int .i64 (xs.getD (b + 1) 0 + m.d)) ∧ Below w.heap.size w w' := by
  obtain ⟨u, d, t⟩ := m
  unfold profV
  replace h0 : 0 ≤ d := h0
  replace h1 : d ≤ 400 := h1
  rcases hz with hz | ⟨B, o, rfl, hc⟩
  · simp [hz] at hb
  obtain ⟨q, rfl⟩ : ∃ q, b = q + 1 := ⟨b - 1, by omega⟩
  have hck := hc (q + 1 + 1) (by omega)
  have hbw := cell_lt hck
  clear hc
  rw [show xs.getD ((q + 1) + 1) 0 = xs.getD (q + 1 + 1) 0 by simp] at *
  generalize xs.getD (q + 1 + 1) 0 = x at *
  obtain ⟨y0, y1⟩ := hy
  have hqq : (q : Int) + 1 + 1 < (xs.length : Int) := by omega
  have hW := balloc w (.cells #[.int .i64 u, .int .i64 d, .int .i64 t, cs, .slice (some ⟨B, o, none⟩) xs.length cap] 52)
  go_enter Try.func49, Try.ntmps49
  go_wp2
  go_quiet (fail)
  go_wp2
  go_ret
  exact ⟨rfl, bdraw hW _⟩

def leastL (a : Int) (ys : List Int) : Int := ys.foldl lo a
theorem leastL_succ (a : Int) (ys : List Int) (k : Nat) (h : k < ys.length) : leastL a (ys.take (k + 1)) = lo (leastL a (ys.take k)) (ys.getD k 0) := by
  unfold leastL
  rw [List.take_succ_eq_append_getElem h, List.foldl_append]
  simp [List.getD, h]

set_option maxHeartbeats 800000 in
theorem c57 (a : Option Addr) (cap : Nat) (x : Int) (ys : List Int) (w : World) (hz : Ints w a ys) (hl : ys.length ≤ 200) :
    Calls Try.prog 57 #[.int .i64 x, .slice a ys.length cap] w fun e w' => e = .returned (.int .i64 (leastL x ys)) ∧ w' = w := by
  go_enter Try.func57, Try.ntmps57
  go_wp2
  go_loop [0, 6, 9] (fun f _ i => ∃ k : Nat, k ≤ ys.length ∧ i = .int .i64 k ∧ f = .int .i64 (leastL x (ys.take k))) (fun _ _ i => ys.length - (intOf i).toNat)
  case atStart => exact ⟨0, Nat.zero_le _, rfl, rfl⟩
  case round =>
    obtain ⟨k, hk, rfl, rfl⟩ := hrel
    by_cases hlt : k < ys.length
    · rcases hz with hz | ⟨b, off, rfl, hc⟩
      · simp [hz] at hlt
      have hck := hc k hlt
      have hs := hide (leastL_succ x ys k hlt)
      clear hc
      generalize leastL x (ys.take k) = A at *
      generalize ys.getD k 0 = y at *
      by_cases hlo : y < A
      · have hY : Hid (leastL x (ys.take (k + 1)) = y) := by show _ = _; rw [hs.out]; simp [lo, hlo]
        go_wp2
        go_round
        case rel => exact ⟨k + 1, by omega, by go_num, by rw [hY.out]⟩
        case measure => simp [intOf]; omega
      · have hY : Hid (leastL x (ys.take (k + 1)) = A) := by show _ = _; rw [hs.out]; simp [lo, hlo]
        go_wp2
        go_round
        case rel => exact ⟨k + 1, by omega, by go_num, by rw [hY.out]⟩
        case measure => simp [intOf]; omega
    · obtain rfl : k = ys.length := by omega
      have hs := hide (show leastL x (ys.take ys.length) = leastL x ys by rw [List.take_length])
      generalize leastL x (ys.take ys.length) = A at *
      go_wp2
      go_ret
      exact ⟨ret_int hs.out, rfl⟩
end Go.Proofs.Ytnhcmjfmfgoakaa
