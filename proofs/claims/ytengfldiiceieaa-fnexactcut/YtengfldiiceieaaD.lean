/- The laws' helpers over nets: size, copy, comparison. -/
import Derived.Test.YtengfldiiceieaaC
import Derived.Deep.RegionWith
namespace Go.Proofs.Ytengfldiiceieaa
open Go.RowKit

set_option maxHeartbeats 400000 in
theorem c57 (a : Option Addr) (n cap : Nat) (left : Int) (w : World) (h0 : 0 ≤ left) (h1 : left ≤ 1048576) (hn : n ≤ maxLen) :
    Calls Try.prog 57 #[.slice a n cap, .int .i64 left] w fun e w' => ∃ r, e = .returned (.int .i64 r) ∧ (r = -1 ∨ (r = left - n ∧ 0 ≤ r)) ∧ w' = w := by
  unfold maxLen at hn
  by_cases hl : left - n < 0
  · go_enter Try.func57, Try.ntmps57
    go_wp2
    go_ret
    exact ⟨_, rfl, .inl rfl, rfl⟩
  · go_enter Try.func57, Try.ntmps57
    go_wp2
    go_ret
    exact ⟨_, rfl, .inr ⟨rfl, by omega⟩, rfl⟩

set_option maxHeartbeats 400000 in
theorem c28 (a : Option Addr) (n cap : Nat) (x : Value) (left : Int) (w : World) (h0 : 0 ≤ left) (h1 : left ≤ 1048576) (hn : n ≤ maxLen) :
    Calls Try.prog 28 #[.agg #[x, .slice a n cap], .int .i64 left] w fun e w' => ∃ r, e = .returned (.int .i64 r) ∧ (r = -1 ∨ (r = left - n ∧ 0 ≤ r)) ∧ Below w.heap.size w w' := by
  have hW := balloc w (.cells #[x, .slice a n cap] 44)
  go_enter Try.func28, Try.ntmps28
  go_wp2_with fail
  refine (c57 a n cap left _ h0 h1 hn).mono ?_
  rintro e w1 ⟨r, rfl, hr, rfl⟩
  rcases hr with rfl | ⟨hr, hr0⟩
  · go_wp2
    go_ret
    exact ⟨_, rfl, .inl rfl, hW⟩
  · have HR := hide hr
    clear hr
    go_wp2
    go_ret
    exact ⟨_, rfl, .inr ⟨HR.out, hr0⟩, hW⟩

theorem below_set {B b o : Nat} {w w1 : World} {v : Value} (h : B ≤ b) (g : Below B w w1) : Below B w (w1.setCell ⟨b, o, none⟩ v) := g.setCell h _

set_option maxHeartbeats 800000 in
theorem c72 (e : EdgeV) (w : World) : Calls Try.prog 72 #[e.val] w fun r w' => r = .returned e.val ∧ Below w.heap.size w w' := by
  obtain ⟨a, b, l, m⟩ := e
  unfold EdgeV.val
  go_enter Try.func72, Try.ntmps72
  go_wp2
  refine bodyPost_ret (v := .agg #[.int .i64 a, .int .i64 b, .int .i64 l, .int .i64 m]) (by simp [results, Try.results72, go_sem]) rfl ⟨rfl, ?_⟩
  exact btrans (btrans (balloc _ _) (balloc _ _)) (balloc _ _)

set_option maxHeartbeats 800000 in
theorem c73 (e : EdgeV) (w : World) : Calls Try.prog 73 #[e.val, e.val] w fun r w' => r = .returned (.bool true) ∧ Below w.heap.size w w' := by
  obtain ⟨a, b, l, m⟩ := e
  unfold EdgeV.val
  have hW := btrans (balloc w (.cells #[.int .i64 a, .int .i64 b, .int .i64 l, .int .i64 m] 41)) (balloc _ (.cells #[.int .i64 a, .int .i64 b, .int .i64 l, .int .i64 m] 41))
  go_enter Try.func73, Try.ntmps73
  go_wp2
  go_ret
  exact ⟨rfl, hW⟩

theorem undrew {w w1 : World} (h : Below w.drew.heap.size w.drew w1) : Below w.heap.size w w1 := ⟨h.os, h.tape, h.output, h.size, h.block⟩

set_option maxHeartbeats 1600000 in
theorem c60 (a1 a2 : Option Addr) (p1 p2 : Nat) (es : List EdgeV) (w : World) (h1 : Edges w a1 es) (h2 : Edges w a2 es) (hl : es.length ≤ 1048576) :
    Calls Try.prog 60 #[.slice a1 es.length p1, .slice a2 es.length p2] w fun e w' => e = .returned (.bool true) ∧ Below w.heap.size w w' := by
  go_enter Try.func60, Try.ntmps60
  go_wp2
  go_loopw [5] (fun i wr => ∃ k : Nat, k ≤ es.length ∧ i = .int .i64 k ∧ Below w.heap.size w wr) (fun i _ => es.length - (intOf i).toNat)
  case atStart => exact ⟨0, Nat.zero_le _, rfl, Below.refl _ _⟩
  case round =>
    obtain ⟨k, hk, rfl, hb⟩ := hrel
    by_cases hlt : k < es.length
    · rcases h1 with h1 | ⟨b1, o1, rfl, hc1⟩
      · simp [h1] at hlt
      rcases h2 with h2 | ⟨b2, o2, rfl, hc2⟩
      · simp [h2] at hlt
      obtain ⟨q0, q1, q2, q3⟩ := hc1 k hlt
      obtain ⟨r0, r1, r2, r3⟩ := hc2 k hlt
      have p0 := ble hb q0
      have p1 := ble hb q1
      have p2 := ble hb q2
      have p3 := ble hb q3
      have s0 := ble hb r0
      have s1 := ble hb r1
      have s2 := ble hb r2
      have s3 := ble hb r3
      clear hc1 hc2 q0 q1 q2 q3 r0 r1 r2 r3
      go_wp2_with fail
      go_region_with (go_at_call 73; refine (c73 es[k] _).mono ?_; rintro e w6 ⟨rfl, hb6⟩; have HB6 := btrans hb (undrew hb6))
      all_goals go_wp2
      all_goals go_roundw
      case rel => exact ⟨k + 1, by omega, by go_num, HB6⟩
      case measure => simp [intOf]; omega
      case rel => exact ⟨k + 1, by omega, by go_num, HB6⟩
      case measure => simp [intOf]; omega
    · go_wp2
      go_ret
      exact ⟨rfl, hb⟩

set_option maxHeartbeats 800000 in
theorem c32 (a1 a2 : Option Addr) (p1 p2 : Nat) (n : Int) (es : List EdgeV) (w : World) (h1 : Edges w a1 es) (h2 : Edges w a2 es) (hl : es.length ≤ 1048576) :
    Calls Try.prog 32 #[.agg #[.int .i64 n, .slice a1 es.length p1], .agg #[.int .i64 n, .slice a2 es.length p2]] w fun e w' => e = .returned (.bool true) ∧ Below w.heap.size w w' := by
  have hW := btrans (balloc w (.cells #[.int .i64 n, .slice a1 es.length p1] 26)) (balloc _ (.cells #[.int .i64 n, .slice a2 es.length p2] 26))
  go_enter Try.func32, Try.ntmps32
  go_wp2_with fail
  refine (c60 a1 a2 p1 p2 es _ (h1.below hW) (h2.below hW) hl).mono ?_
  rintro e w1 ⟨rfl, hb⟩
  have HB := btrans hW hb
  go_wp2
  go_ret
  exact ⟨rfl, HB⟩
end Go.Proofs.Ytengfldiiceieaa
