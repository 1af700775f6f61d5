/- Equal lists, equal lockings. -/
import Derived.Test.YtpgjllefhlanpaaV
import Derived.Test.YtpgjllefhlanpaaCP
namespace Go.Proofs.Ytpgjllefhlanpaa
open Go.RowKit

set_option maxHeartbeats 800000 in
theorem cSame (a1 a2 : Option Addr) (c1 c2 : Nat) (xs : List Int) (w : World) (h1 : Ints w a1 xs) (h2 : Ints w a2 xs) (hl : xs.length ≤ 1048576) :
    Calls Try.prog 16 #[.slice a1 xs.length c1, .slice a2 xs.length c2] w fun e w' => e = .returned (.bool true) ∧ Below w.heap.size w w' := by
  go_enter Try.func16, Try.ntmps16
  go_wp2
  go_loopw [5] (fun i wr => ∃ k : Nat, k ≤ xs.length ∧ i = .int .i64 k ∧ Below w.heap.size w wr) (fun i _ => xs.length - (intOf i).toNat)
  case atStart => exact ⟨0, Nat.zero_le _, rfl, Below.refl _ _⟩
  case round =>
    obtain ⟨k, hk, rfl, hb⟩ := hrel
    by_cases hlt : k < xs.length
    · rcases h1 with h | ⟨b1, o1, rfl, q1⟩
      · simp [h] at hlt
      rcases h2 with h | ⟨b2, o2, rfl, q2⟩
      · simp [h] at hlt
      have p1 := ble hb (q1 k hlt)
      have p2 := ble hb (q2 k hlt)
      clear q1 q2
      generalize xs.getD k 0 = y at *
      go_wp2
      go_quiet (fail)
      go_wp2
      go_roundw
      case rel => exact ⟨k + 1, by omega, by go_num, bdraw hb _⟩
      case measure => simp [intOf]; omega
    · obtain rfl : k = xs.length := by omega
      clear h1 h2
      go_wp2
      go_ret
      exact ⟨rfl, hb⟩

set_option maxHeartbeats 800000 in
theorem cSameB (a1 a2 : Option Addr) (c1 c2 : Nat) (xs : List Bool) (w : World) (h1 : Bools w a1 xs) (h2 : Bools w a2 xs) (hl : xs.length ≤ 1048576) :
    Calls Try.prog 29 #[.slice a1 xs.length c1, .slice a2 xs.length c2] w fun e w' => e = .returned (.bool true) ∧ Below w.heap.size w w' := by
  go_enter Try.func29, Try.ntmps29
  go_wp2
  go_loopw [5] (fun i wr => ∃ k : Nat, k ≤ xs.length ∧ i = .int .i64 k ∧ Below w.heap.size w wr) (fun i _ => xs.length - (intOf i).toNat)
  case atStart => exact ⟨0, Nat.zero_le _, rfl, Below.refl _ _⟩
  case round =>
    obtain ⟨k, hk, rfl, hb⟩ := hrel
    by_cases hlt : k < xs.length
    · rcases h1 with h | ⟨b1, o1, rfl, q1⟩
      · simp [h] at hlt
      rcases h2 with h | ⟨b2, o2, rfl, q2⟩
      · simp [h] at hlt
      have p1 := ble hb (q1 k hlt)
      have p2 := ble hb (q2 k hlt)
      clear q1 q2
      generalize xs.getD k false = y at *
      go_wp2
      go_quiet (fail)
      go_wp2
      go_roundw
      case rel => exact ⟨k + 1, by omega, by go_num, bdraw hb _⟩
      case measure => simp [intOf]; omega
    · obtain rfl : k = xs.length := by omega
      clear h1 h2
      go_wp2
      go_ret
      exact ⟨rfl, hb⟩

set_option maxHeartbeats 1600000 in
theorem cSameL (x y z x' y' z' : Option Addr) (cx cy cz cx' cy' cz' : Nat) (l : LockV) (w : World) (h1 : LockIn w x y z l) (h2 : LockIn w x' y' z' l) (hS : LSmall l) :
    Calls Try.prog 14 #[lockVal x cx y cy z cz l, lockVal x' cx' y' cy' z' cz' l] w fun e w' => e = .returned (.bool true) ∧ Below w.heap.size w w' := by
  unfold lockVal
  have hb0 := btrans (balloc w (.cells #[.slice x l.pos.length cx, .slice y l.set.length cy, .slice z l.taken.length cz] 33)) (balloc _ (.cells #[.slice x' l.pos.length cx', .slice y' l.set.length cy', .slice z' l.taken.length cz'] 33))
  have K0 : ((w.alloc (.cells #[.slice x l.pos.length cx, .slice y l.set.length cy, .slice z l.taken.length cz] 33)).alloc (.cells #[.slice x' l.pos.length cx', .slice y' l.set.length cy', .slice z' l.taken.length cz'] 33)).heap[w.heap.size]? = some (.cells #[.slice x l.pos.length cx, .slice y l.set.length cy, .slice z l.taken.length cz] 33 (0, 0)) := two_blocks1 _ _ _
  have K1 : ((w.alloc (.cells #[.slice x l.pos.length cx, .slice y l.set.length cy, .slice z l.taken.length cz] 33)).alloc (.cells #[.slice x' l.pos.length cx', .slice y' l.set.length cy', .slice z' l.taken.length cz'] 33)).heap[w.heap.size + 1]? = some (.cells #[.slice x' l.pos.length cx', .slice y' l.set.length cy', .slice z' l.taken.length cz'] 33 (0, 0)) := two_blocks2 _ _ _
  replace h1 := h1.below hb0
  replace h2 := h2.below hb0
  have HB := hb0
  obtain ⟨⟨a0, a1, a2⟩, -⟩ := blk3 K0
  obtain ⟨⟨b0, b1, b2⟩, -⟩ := blk3 K1
  go_enter Try.func14, Try.ntmps14
  go_wp2_with fail
  generalize ((w.alloc (.cells #[.slice x l.pos.length cx, .slice y l.set.length cy, .slice z l.taken.length cz] 33)).alloc (.cells #[.slice x' l.pos.length cx', .slice y' l.set.length cy', .slice z' l.taken.length cz'] 33)) = W at *
  refine (cSame x x' cx cx' l.pos _ h1.pos h2.pos hS.pos).mono ?_
  rintro e w1 ⟨rfl, hb⟩
  replace h1 := h1.below hb
  replace h2 := h2.below hb
  replace HB := btrans HB hb
  replace K0 := blk_keep hb K0
  replace K1 := blk_keep hb K1
  clear a0 a1 a2 b0 b1 b2 hb hb0
  obtain ⟨⟨a0, a1, a2⟩, -⟩ := blk3 K0
  obtain ⟨⟨b0, b1, b2⟩, -⟩ := blk3 K1
  go_wp2_with fail
  refine (cSameB y y' cy cy' l.set _ h1.set h2.set hS.set).mono ?_
  rintro e w2 ⟨rfl, hb⟩
  replace h1 := h1.below hb
  replace h2 := h2.below hb
  replace HB := btrans HB hb
  replace K0 := blk_keep hb K0
  replace K1 := blk_keep hb K1
  clear a0 a1 a2 b0 b1 b2 hb
  obtain ⟨⟨a0, a1, a2⟩, -⟩ := blk3 K0
  obtain ⟨⟨b0, b1, b2⟩, -⟩ := blk3 K1
  go_wp2_with fail
  refine (cSameB z z' cz cz' l.taken _ h1.taken h2.taken hS.taken).mono ?_
  rintro e w3 ⟨rfl, hb⟩
  replace HB := btrans HB hb
  clear a0 a1 a2 b0 b1 b2 hb K0 K1 h1 h2
  go_wp2
  go_ret
  exact ⟨rfl, HB⟩
end Go.Proofs.Ytpgjllefhlanpaa
