/- Two trains alike. -/
import Derived.Test.YtgnlcehpajbnoaaXA
import Derived.Test.YtgnlcehpajbnoaaDN
import Derived.Test.YtgnlcehpajbnoaaCN
import Derived.Deep.RegionHeld3
import Derived.BigQuiet
namespace Go.Proofs.Ytgnlcehpajbnoaa
open Go.RowKit

set_option maxRecDepth 20000 in
set_option maxHeartbeats 1600000 in
theorem cSameTr (a1 a2 : Option Addr) (c1 c2 : Nat) (S P : Int) (hs : List BkV) (w : World) (h1 : Bks w a1 hs) (h2 : Bks w a2 hs) (hl : hs.length ≤ 1048576) :
    Calls Try.prog 19 #[.agg #[.int .i64 S, .int .i64 P, .slice a1 hs.length c1], .agg #[.int .i64 S, .int .i64 P, .slice a2 hs.length c2]] w fun e w' => e = .returned (.bool true) ∧ Below w.heap.size w w' := by
  have hW := btrans (balloc w (.cells #[.int .i64 S, .int .i64 P, .slice a1 hs.length c1] 26)) (balloc _ (.cells #[.int .i64 S, .int .i64 P, .slice a2 hs.length c2] 26))
  obtain ⟨k0, k1⟩ := blocks2 w (.cells #[.int .i64 S, .int .i64 P, .slice a1 hs.length c1] 26) (.cells #[.int .i64 S, .int .i64 P, .slice a2 hs.length c2] 26)
  have g1 := h1.below hW
  have g2 := h2.below hW
  go_enter Try.func19, Try.ntmps19
  go_wp2
  generalize ((w.alloc (.cells #[.int .i64 S, .int .i64 P, .slice a1 hs.length c1] 26)).alloc (.cells #[.int .i64 S, .int .i64 P, .slice a2 hs.length c2] 26)) = W at *
  go_loopw [5] (fun i wr => ∃ k : Nat, k ≤ hs.length ∧ i = .int .i64 k ∧ Below W.heap.size W wr) (fun i _ => hs.length - (intOf i).toNat)
  case atStart => exact ⟨0, Nat.zero_le _, rfl, Below.refl _ _⟩
  case round =>
    obtain ⟨k, hk, rfl, hb⟩ := hrel
    obtain ⟨⟨t0, t1, t2⟩, -⟩ := blk3 (blk_keep hb k0)
    obtain ⟨⟨u0, u1, u2⟩, -⟩ := blk3 (blk_keep hb k1)
    by_cases hlt : k < hs.length
    · rcases g1 with h | ⟨b1, o1, rfl, q1⟩
      · simp [h] at hlt
      rcases g2 with h | ⟨b2, o2, rfl, q2⟩
      · simp [h] at hlt
      obtain ⟨p0, p1, p2, p3⟩ := q1 k hlt
      obtain ⟨r0, r1, r2, r3⟩ := q2 k hlt
      replace p0 := ble hb p0
      replace p1 := ble hb p1
      replace p2 := ble hb p2
      replace p3 := ble hb p3
      replace r0 := ble hb r0
      replace r1 := ble hb r1
      replace r2 := ble hb r2
      replace r3 := ble hb r3
      clear q1 q2 h1 h2
      generalize hs.getD k BkV.zero = y at *
      obtain ⟨yi, ys, yn, yf⟩ := y
      dsimp only at *
      go_wp2_with fail
      go_quiet (fail)
      go_wp2
      go_roundw
      case rel => exact ⟨k + 1, by omega, by go_num, bdraw hb _⟩
      case measure => simp [intOf]; omega
    · obtain rfl : k = hs.length := by omega
      clear h1 h2 g1 g2
      go_wp2
      go_ret
      exact ⟨rfl, btrans hW hb⟩
end Go.Proofs.Ytgnlcehpajbnoaa
