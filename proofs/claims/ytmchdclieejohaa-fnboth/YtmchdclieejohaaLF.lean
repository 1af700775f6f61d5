/- Patterns compared by the laws. -/
import Derived.Test.YtmchdclieejohaaLE
namespace Go.Proofs.Ytmchdclieejohaa
open Go.RowKit

set_option maxHeartbeats 800000 in
theorem cSameInts (a1 a2 : Option Addr) (c1 c2 : Nat) (xs : List Int) (w : World) (h1 : Ints w a1 xs) (h2 : Ints w a2 xs) (hl1 : xs.length ≤ 1048576) :
    Calls Try.prog 38 #[.slice a1 xs.length c1, .slice a2 xs.length c2] w fun e w' => e = .returned (.bool true) ∧ Below w.heap.size w w' := by
  go_enter Try.func38, Try.ntmps38
  go_wp2
  go_loopw [5] (fun i wr => ∃ k : Nat, k ≤ xs.length ∧ i = .int .i64 k ∧ Below w.heap.size w wr) (fun i _ => xs.length - (intOf i).toNat)
  case atStart => exact ⟨0, Nat.zero_le _, rfl, Below.refl _ _⟩
  case round =>
    obtain ⟨k, hk, rfl, hb⟩ := hrel
    by_cases hlt : k < xs.length
    · rcases h1 with h1 | ⟨b1, o1, rfl, hc1⟩
      · simp [h1] at hlt
      rcases h2 with h2 | ⟨b2, o2, rfl, hc2⟩
      · simp [h2] at hlt
      have hk1 := ble hb (hc1 k hlt)
      have hk2 := ble hb (hc2 k hlt)
      clear hc1 hc2
      generalize xs.getD k 0 = z at *
      go_wp2
      go_quiet (fail)
      go_wp2
      go_roundw
      case rel => exact ⟨k + 1, by omega, by go_num, bdraw hb _⟩
      case measure => simp [intOf]; omega
    · go_wp2
      go_ret
      exact ⟨rfl, hb⟩

set_option maxHeartbeats 1600000 in
theorem cSamePat (a1 a2 a3 a4 : Option Addr) (p1 p2 p3 p4 : Nat) (zs es : List Int) (W F T : Int) (w : World) (h1 : Ints w a1 zs) (h2 : Ints w a2 es) (h3 : Ints w a3 zs) (h4 : Ints w a4 es) (hl1 : zs.length ≤ 1048576) (hl2 : es.length ≤ 1048576) :
    Calls Try.prog 14 #[.agg #[.int .i64 W, .int .i64 F, .int .i64 T, .slice a1 zs.length p1, .slice a2 es.length p2], .agg #[.int .i64 W, .int .i64 F, .int .i64 T, .slice a3 zs.length p3, .slice a4 es.length p4]] w fun e w' =>
      e = .returned (.bool true) ∧ Below w.heap.size w w' := by
  have HA := btrans (balloc w (.cells #[.int .i64 W, .int .i64 F, .int .i64 T, .slice a1 zs.length p1, .slice a2 es.length p2] 26)) (balloc _ (.cells #[.int .i64 W, .int .i64 F, .int .i64 T, .slice a3 zs.length p3, .slice a4 es.length p4] 26))
  have k0 := old5 (.cells #[.int .i64 W, .int .i64 F, .int .i64 T, .slice a3 zs.length p3, .slice a4 es.length p4] 26) (new5 w (.cells #[.int .i64 W, .int .i64 F, .int .i64 T, .slice a1 zs.length p1, .slice a2 es.length p2] 26) _ rfl)
  have k1 := new5 (w.alloc (.cells #[.int .i64 W, .int .i64 F, .int .i64 T, .slice a1 zs.length p1, .slice a2 es.length p2] 26)) (.cells #[.int .i64 W, .int .i64 F, .int .i64 T, .slice a3 zs.length p3, .slice a4 es.length p4] 26) (w.heap.size + 1) (by simp)
  go_enter Try.func14, Try.ntmps14
  go_wp2_with fail
  refine (cSameInts a1 a3 p1 p3 zs _ (h1.below HA) (h3.below HA) hl1).mono ?_
  rintro e w1 ⟨rfl, hb1⟩
  have HB1 := btrans HA hb1
  obtain ⟨⟨x0, x1, x2, x3, x4⟩, -⟩ := blk5 ((hb1.block _ (lt_of_block k0)).trans k0)
  obtain ⟨⟨y0, y1, y2, y3, y4⟩, -⟩ := blk5 ((hb1.block _ (lt_of_block k1)).trans k1)
  clear HA hb1 k0 k1
  go_wp2_with fail
  refine (cSameInts a2 a4 p2 p4 es _ (h2.below HB1) (h4.below HB1) hl2).mono ?_
  rintro e w2 ⟨rfl, hb2⟩
  have HB2 := btrans HB1 hb2
  clear HB1 hb2
  go_wp2
  go_ret
  exact ⟨rfl, HB2⟩
end Go.Proofs.Ytmchdclieejohaa
