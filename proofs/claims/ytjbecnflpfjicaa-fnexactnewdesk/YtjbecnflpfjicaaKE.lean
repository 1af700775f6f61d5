/- Lists that are empty, and what holds them: compared, marked, held. -/
import Derived.Test.YtjbecnflpfjicaaLM
namespace Go.Proofs.Ytjbecnflpfjicaa
open Go.RowKit
set_option maxHeartbeats 400000 in
theorem cEqE0 (a1 a2 : Option Addr) (p1 p2 : Nat) (w : World) : Calls Try.prog 21 #[.slice a1 0 p1, .slice a2 0 p2] w fun e w' => e = .returned (.bool true) ∧ Below w.heap.size w w' := by
  go_enter Try.func21, Try.ntmps21
  go_wp2
  go_loopw [5] (fun i wr => i = .int .i64 0 ∧ Below w.heap.size w wr) (fun i _ => 0)
  case atStart => exact ⟨rfl, Below.refl _ _⟩
  case round =>
    obtain ⟨rfl, hb⟩ := hrel
    go_wp2
    go_ret
    exact ⟨rfl, hb⟩
set_option maxHeartbeats 400000 in
theorem cEqT0 (a1 a2 : Option Addr) (p1 p2 : Nat) (w : World) : Calls Try.prog 10 #[.slice a1 0 p1, .slice a2 0 p2] w fun e w' => e = .returned (.bool true) ∧ Below w.heap.size w w' := by
  go_enter Try.func10, Try.ntmps10
  go_wp2
  go_loopw [5] (fun i wr => i = .int .i64 0 ∧ Below w.heap.size w wr) (fun i _ => 0)
  case atStart => exact ⟨rfl, Below.refl _ _⟩
  case round =>
    obtain ⟨rfl, hb⟩ := hrel
    go_wp2
    go_ret
    exact ⟨rfl, hb⟩
set_option maxHeartbeats 400000 in
theorem cEqB0 (a1 a2 : Option Addr) (p1 p2 : Nat) (w : World) : Calls Try.prog 23 #[.slice a1 0 p1, .slice a2 0 p2] w fun e w' => e = .returned (.bool true) ∧ Below w.heap.size w w' := by
  go_enter Try.func23, Try.ntmps23
  go_wp2
  go_loopw [5] (fun i wr => i = .int .i64 0 ∧ Below w.heap.size w wr) (fun i _ => 0)
  case atStart => exact ⟨rfl, Below.refl _ _⟩
  case round =>
    obtain ⟨rfl, hb⟩ := hrel
    go_wp2
    go_ret
    exact ⟨rfl, hb⟩
set_option maxHeartbeats 400000 in
theorem cMarkE0 (a : Option Addr) (p : Nat) (k : Int) (w : World) : Calls Try.prog 26 #[.slice a 0 p, .int .i64 k] w fun e w' => e = .returned (.int .i64 k) ∧ Below w.heap.size w w' := by
  go_enter Try.func26, Try.ntmps26
  go_wp2
  go_loopw [1, 5] (fun q i wr => q = .int .i64 k ∧ i = .int .i64 0 ∧ Below w.heap.size w wr) (fun _ i _ => 0)
  case atStart => exact ⟨rfl, rfl, Below.refl _ _⟩
  case round =>
    obtain ⟨rfl, rfl, hb⟩ := hrel
    go_wp2
    go_ret
    exact ⟨rfl, hb⟩
set_option maxHeartbeats 400000 in
theorem cMarkT0 (a : Option Addr) (p : Nat) (k : Int) (w : World) : Calls Try.prog 14 #[.slice a 0 p, .int .i64 k] w fun e w' => e = .returned (.int .i64 k) ∧ Below w.heap.size w w' := by
  go_enter Try.func14, Try.ntmps14
  go_wp2
  go_loopw [1, 5] (fun q i wr => q = .int .i64 k ∧ i = .int .i64 0 ∧ Below w.heap.size w wr) (fun _ i _ => 0)
  case atStart => exact ⟨rfl, rfl, Below.refl _ _⟩
  case round =>
    obtain ⟨rfl, rfl, hb⟩ := hrel
    go_wp2
    go_ret
    exact ⟨rfl, hb⟩
set_option maxHeartbeats 400000 in
theorem cMarkB0 (a : Option Addr) (p : Nat) (k : Int) (w : World) : Calls Try.prog 29 #[.slice a 0 p, .int .i64 k] w fun e w' => e = .returned (.int .i64 k) ∧ Below w.heap.size w w' := by
  go_enter Try.func29, Try.ntmps29
  go_wp2
  go_loopw [1, 5] (fun q i wr => q = .int .i64 k ∧ i = .int .i64 0 ∧ Below w.heap.size w wr) (fun _ i _ => 0)
  case atStart => exact ⟨rfl, rfl, Below.refl _ _⟩
  case round =>
    obtain ⟨rfl, rfl, hb⟩ := hrel
    go_wp2
    go_ret
    exact ⟨rfl, hb⟩
set_option maxHeartbeats 400000 in
theorem cHeldE0 (a : Option Addr) (p : Nat) (k : Int) (w : World) : Calls Try.prog 32 #[.slice a 0 p, .int .i64 k] w fun e w' => e = .returned (.int .i64 k) ∧ Below w.heap.size w w' := by
  go_enter Try.func32, Try.ntmps32
  go_wp2
  go_loopw [1, 5] (fun q i wr => q = .int .i64 k ∧ i = .int .i64 0 ∧ Below w.heap.size w wr) (fun _ i _ => 0)
  case atStart => exact ⟨rfl, rfl, Below.refl _ _⟩
  case round =>
    obtain ⟨rfl, rfl, hb⟩ := hrel
    go_wp2
    go_ret
    exact ⟨rfl, hb⟩
set_option maxHeartbeats 400000 in
theorem cHeldT0 (a : Option Addr) (p : Nat) (k : Int) (w : World) : Calls Try.prog 18 #[.slice a 0 p, .int .i64 k] w fun e w' => e = .returned (.int .i64 k) ∧ Below w.heap.size w w' := by
  go_enter Try.func18, Try.ntmps18
  go_wp2
  go_loopw [1, 5] (fun q i wr => q = .int .i64 k ∧ i = .int .i64 0 ∧ Below w.heap.size w wr) (fun _ i _ => 0)
  case atStart => exact ⟨rfl, rfl, Below.refl _ _⟩
  case round =>
    obtain ⟨rfl, rfl, hb⟩ := hrel
    go_wp2
    go_ret
    exact ⟨rfl, hb⟩
set_option maxHeartbeats 400000 in
theorem cHeldB0 (a : Option Addr) (p : Nat) (k : Int) (w : World) : Calls Try.prog 34 #[.slice a 0 p, .int .i64 k] w fun e w' => e = .returned (.int .i64 k) ∧ Below w.heap.size w w' := by
  go_enter Try.func34, Try.ntmps34
  go_wp2
  go_loopw [1, 5] (fun q i wr => q = .int .i64 k ∧ i = .int .i64 0 ∧ Below w.heap.size w wr) (fun _ i _ => 0)
  case atStart => exact ⟨rfl, rfl, Below.refl _ _⟩
  case round =>
    obtain ⟨rfl, rfl, hb⟩ := hrel
    go_wp2
    go_ret
    exact ⟨rfl, hb⟩
set_option maxHeartbeats 800000 in
theorem cEqN0 (x : Int) (a1 a2 : Option Addr) (p1 p2 : Nat) (w : World) : Calls Try.prog 9 #[.agg #[.int .i64 x, .slice a1 0 p1], .agg #[.int .i64 x, .slice a2 0 p2]] w fun e w' => e = .returned (.bool true) ∧ Below w.heap.size w w' := by
  have HB := btrans (balloc w (.cells #[.int .i64 x, .slice a1 0 p1] 24)) (balloc _ (.cells #[.int .i64 x, .slice a2 0 p2] 24))
  go_enter Try.func9, Try.ntmps9
  go_wp2_with fail
  refine (cEqE0 _ _ _ _ _).mono ?_
  rintro e w1 ⟨rfl, hb⟩
  replace HB := btrans HB hb
  go_wp2
  go_ret
  exact ⟨rfl, HB⟩
set_option maxHeartbeats 800000 in
theorem cEqR0 (x y : Int) (a1 a2 : Option Addr) (p1 p2 : Nat) (w : World) : Calls Try.prog 11 #[.agg #[.int .i64 x, .int .i64 y, .slice a1 0 p1], .agg #[.int .i64 x, .int .i64 y, .slice a2 0 p2]] w fun e w' => e = .returned (.bool true) ∧ Below w.heap.size w w' := by
  have HB := btrans (balloc w (.cells #[.int .i64 x, .int .i64 y, .slice a1 0 p1] 28)) (balloc _ (.cells #[.int .i64 x, .int .i64 y, .slice a2 0 p2] 28))
  go_enter Try.func11, Try.ntmps11
  go_wp2_with fail
  refine (cEqB0 _ _ _ _ _).mono ?_
  rintro e w1 ⟨rfl, hb⟩
  replace HB := btrans HB hb
  go_wp2
  go_ret
  exact ⟨rfl, HB⟩
set_option maxHeartbeats 800000 in
theorem cMarkN0 (x : Int) (a1 : Option Addr) (p1 : Nat) (k : Int) (w : World) (h0 : 0 ≤ k) : Calls Try.prog 13 #[.agg #[.int .i64 x, .slice a1 0 p1], .int .i64 k] w fun e w' => e = .returned (.int .i64 k) ∧ Below w.heap.size w w' := by
  have HB := balloc w (.cells #[.int .i64 x, .slice a1 0 p1] 24)
  have h1 : ¬ k < 0 := by omega
  go_enter Try.func13, Try.ntmps13
  go_wp2_with fail
  refine (cMarkE0 _ _ _ _).mono ?_
  rintro e w1 ⟨rfl, hb⟩
  replace HB := btrans HB hb
  go_wp2
  go_ret
  exact ⟨rfl, HB⟩
set_option maxHeartbeats 800000 in
theorem cHeldN0 (x : Int) (a1 : Option Addr) (p1 : Nat) (k : Int) (w : World) (h0 : 0 ≤ k) : Calls Try.prog 17 #[.agg #[.int .i64 x, .slice a1 0 p1], .int .i64 k] w fun e w' => e = .returned (.int .i64 k) ∧ Below w.heap.size w w' := by
  have HB := balloc w (.cells #[.int .i64 x, .slice a1 0 p1] 24)
  have h1 : ¬ k < 0 := by omega
  go_enter Try.func17, Try.ntmps17
  go_wp2_with fail
  refine (cHeldE0 _ _ _ _).mono ?_
  rintro e w1 ⟨rfl, hb⟩
  replace HB := btrans HB hb
  go_wp2
  go_ret
  exact ⟨rfl, HB⟩
set_option maxHeartbeats 800000 in
theorem cMarkR0 (x y : Int) (a1 : Option Addr) (p1 : Nat) (k : Int) (w : World) (h0 : 0 ≤ k) : Calls Try.prog 15 #[.agg #[.int .i64 x, .int .i64 y, .slice a1 0 p1], .int .i64 k] w fun e w' => e = .returned (.int .i64 k) ∧ Below w.heap.size w w' := by
  have HB := balloc w (.cells #[.int .i64 x, .int .i64 y, .slice a1 0 p1] 28)
  have h1 : ¬ k < 0 := by omega
  go_enter Try.func15, Try.ntmps15
  go_wp2_with fail
  refine (cMarkB0 _ _ _ _).mono ?_
  rintro e w1 ⟨rfl, hb⟩
  replace HB := btrans HB hb
  go_wp2
  go_ret
  exact ⟨rfl, HB⟩
set_option maxHeartbeats 800000 in
theorem cHeldR0 (x y : Int) (a1 : Option Addr) (p1 : Nat) (k : Int) (w : World) (h0 : 0 ≤ k) : Calls Try.prog 19 #[.agg #[.int .i64 x, .int .i64 y, .slice a1 0 p1], .int .i64 k] w fun e w' => e = .returned (.int .i64 k) ∧ Below w.heap.size w w' := by
  have HB := balloc w (.cells #[.int .i64 x, .int .i64 y, .slice a1 0 p1] 28)
  have h1 : ¬ k < 0 := by omega
  go_enter Try.func19, Try.ntmps19
  go_wp2_with fail
  refine (cHeldB0 _ _ _ _).mono ?_
  rintro e w1 ⟨rfl, hb⟩
  replace HB := btrans HB hb
  go_wp2
  go_ret
  exact ⟨rfl, HB⟩
end Go.Proofs.Ytjbecnflpfjicaa
