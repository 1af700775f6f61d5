/- Plants and lockings compared. -/
import Derived.Test.YtdcohaejdlgnpaaCQ
namespace Go.Proofs.Ytdcohaejdlgnpaa
open Go.RowKit

set_option maxHeartbeats 800000 in
theorem cEqRoute (a1 b1 a2 b2 : Option Addr) (p1 q1 p2 q2 : Nat) (r : RouteV) (w : World) (h1 : Needs w a1 r.needs) (h2 : Ints w b1 r.blocks) (h3 : Needs w a2 r.needs) (h4 : Ints w b2 r.blocks) (hl : r.needs.length ≤ 1048576) (hm : r.blocks.length ≤ 1048576) :
    Calls Try.prog 78 #[.agg #[.slice a1 r.needs.length p1, .slice b1 r.blocks.length q1], .agg #[.slice a2 r.needs.length p2, .slice b2 r.blocks.length q2]] w fun e w' => e = .returned (.bool true) ∧ Below w.heap.size w w' := by
  have HB := btrans (balloc w (.cells #[.slice a1 r.needs.length p1, .slice b1 r.blocks.length q1] 66)) (balloc _ (.cells #[.slice a2 r.needs.length p2, .slice b2 r.blocks.length q2] 66))
  have g2 : (((w.alloc (.cells #[.slice a1 r.needs.length p1, .slice b1 r.blocks.length q1] 66)).alloc (.cells #[.slice a2 r.needs.length p2, .slice b2 r.blocks.length q2] 66)).cell? ⟨w.heap.size, 1, none⟩ = some (.slice b1 r.blocks.length q1)) := by simp [go_sem]
  have g3 : (((w.alloc (.cells #[.slice a1 r.needs.length p1, .slice b1 r.blocks.length q1] 66)).alloc (.cells #[.slice a2 r.needs.length p2, .slice b2 r.blocks.length q2] 66)).cell? ⟨w.heap.size + 1, 1, none⟩ = some (.slice b2 r.blocks.length q2)) := by simp [go_sem]
  go_enter Try.func78, Try.ntmps78
  go_wp2_with fail
  refine (cEqNeeds a1 a2 p1 p2 r.needs _ (h1.below HB) (h3.below HB) hl).mono ?_
  rintro e w1 ⟨rfl, hb⟩
  replace g2 := ble hb g2
  replace g3 := ble hb g3
  replace HB := btrans HB hb
  clear hb
  go_wp2_with fail
  refine (cEqInts b1 b2 q1 q2 r.blocks _ (h2.below HB) (h4.below HB) (by unfold maxLen; omega)).mono ?_
  rintro e w2 ⟨rfl, hb⟩
  replace HB := btrans HB hb
  clear hb g2 g3
  go_wp2
  go_ret
  exact ⟨rfl, HB⟩

set_option maxHeartbeats 1600000 in
theorem cEqRoutes (a1 a2 : Option Addr) (p1 p2 : Nat) (rs : List RouteV) (w : World) (h1 : Routes w a1 rs) (h2 : Routes w a2 rs) (hl : rs.length ≤ 1048576) (he : ∀ r ∈ rs, r.needs.length ≤ 1048576 ∧ r.blocks.length ≤ 1048576) :
    Calls Try.prog 56 #[.slice a1 rs.length p1, .slice a2 rs.length p2] w fun e w' => e = .returned (.bool true) ∧ Below w.heap.size w w' := by
  go_enter Try.func56, Try.ntmps56
  go_wp2
  go_loopw [5] (fun i wr => ∃ k : Nat, k ≤ rs.length ∧ i = .int .i64 k ∧ Below w.heap.size w wr) (fun i _ => rs.length - (intOf i).toNat)
  case atStart => exact ⟨0, Nat.zero_le _, rfl, Below.refl _ _⟩
  case round =>
    obtain ⟨k, hk, rfl, hb⟩ := hrel
    by_cases hlt : k < rs.length
    · obtain ⟨b, off, n, cn, m, cm, rfl, c1, c2, -, c3, c4⟩ := (h1.below hb).at hlt
      obtain ⟨b', off', n', cn', m', cm', rfl, d1, d2, -, d3, d4⟩ := (h2.below hb).at hlt
      have e0 : rs.getD k RouteV.zero = rs[k] := by simp [List.getD, hlt]
      have hek := he rs[k] (List.getElem_mem hlt)
      rw [e0] at c1 c2 c3 c4 d1 d2 d3 d4
      have CE := fun (w1 : World) (hb1 : Below wr.heap.size wr w1) => cEqRoute n m n' m' cn cm cn' cm' rs[k] w1 (c3.below hb1) (c4.below hb1) (d3.below hb1) (d4.below hb1) hek.1 hek.2
      generalize rs[k] = R at *
      clear c3 c4 d3 d4 e0 hek h1 h2
      go_wp2_with fail
      go_region_with (go_at_call 78; refine (CE _ (bdraw (Below.refl _ _) 1)).mono ?_; rintro e w6 ⟨rfl, hb6⟩; have HB6 := btrans hb (undrew hb6))
      all_goals go_wp2
      all_goals go_roundw
      case rel => exact ⟨k + 1, by omega, by go_num, HB6⟩
      case measure => simp [intOf]; omega
      case rel => exact ⟨k + 1, by omega, by go_num, HB6⟩
      case measure => simp [intOf]; omega
    · go_wp2
      go_ret
      exact ⟨rfl, hb⟩

set_option maxHeartbeats 800000 in
theorem cEqPlant (a1 b1 a2 b2 : Option Addr) (p1 q1 p2 q2 : Nat) (p : PlantV) (w : World) (h1 : PlantIn w a1 b1 p) (h2 : PlantIn w a2 b2 p) (hS : Small p) :
    Calls Try.prog 16 #[plantVal a1 p1 b1 q1 p, plantVal a2 p2 b2 q2 p] w fun e w' => e = .returned (.bool true) ∧ Below w.heap.size w w' := by
  obtain ⟨U, B, R⟩ := p
  obtain ⟨hU, hR⟩ := h1
  obtain ⟨hU2, hR2⟩ := h2
  obtain ⟨s1, s2, s3⟩ := hS
  dsimp only at *
  unfold plantVal
  dsimp only
  have HB := btrans (balloc w (.cells #[.slice a1 U.length p1, .int .i64 B, .slice b1 R.length q1] 30)) (balloc _ (.cells #[.slice a2 U.length p2, .int .i64 B, .slice b2 R.length q2] 30))
  have G : ∀ w1, Below ((w.alloc (.cells #[.slice a1 U.length p1, .int .i64 B, .slice b1 R.length q1] 30)).alloc (.cells #[.slice a2 U.length p2, .int .i64 B, .slice b2 R.length q2] 30)).heap.size ((w.alloc (.cells #[.slice a1 U.length p1, .int .i64 B, .slice b1 R.length q1] 30)).alloc (.cells #[.slice a2 U.length p2, .int .i64 B, .slice b2 R.length q2] 30)) w1 → (w1.cell? ⟨w.heap.size, 1, none⟩ = some (.int .i64 B) ∧ w1.cell? ⟨w.heap.size, 2, none⟩ = some (.slice b1 R.length q1) ∧ w1.cell? ⟨w.heap.size + 1, 1, none⟩ = some (.int .i64 B) ∧ w1.cell? ⟨w.heap.size + 1, 2, none⟩ = some (.slice b2 R.length q2)) := fun w1 hb =>
    ⟨ble hb (by simp [go_sem]), ble hb (by simp [go_sem]), ble hb (by simp [go_sem]), ble hb (by simp [go_sem])⟩
  go_enter Try.func16, Try.ntmps16
  go_wp2_with fail
  refine (cEqInts a1 a2 p1 p2 U _ (hU.below HB) (hU2.below HB) (by unfold maxLen; omega)).mono ?_
  rintro e w1 ⟨rfl, hb⟩
  obtain ⟨g1, g2, g3, g4⟩ := G w1 hb
  replace HB := btrans HB hb
  clear hb G
  go_wp2_with fail
  refine (cEqRoutes b1 b2 q1 q2 R _ (hR.below HB) (hR2.below HB) s2 s3).mono ?_
  rintro e w2 ⟨rfl, hb⟩
  replace HB := btrans HB hb
  clear hb g1 g2 g3 g4
  go_wp2
  go_ret
  exact ⟨rfl, HB⟩

set_option maxHeartbeats 800000 in
theorem cEqLock (a1 b1 c1 a2 b2 c2 : Option Addr) (p1 q1 r1 p2 q2 r2 : Nat) (l : LockV) (w : World) (h1 : LockIn w a1 b1 c1 l) (h2 : LockIn w a2 b2 c2 l) (hS : LSmall l) :
    Calls Try.prog 21 #[lockVal a1 p1 b1 q1 c1 r1 l, lockVal a2 p2 b2 q2 c2 r2 l] w fun e w' => e = .returned (.bool true) ∧ Below w.heap.size w w' := by
  obtain ⟨U, B, R⟩ := l
  obtain ⟨hU, hB, hR⟩ := h1
  obtain ⟨hU2, hB2, hR2⟩ := h2
  obtain ⟨s1, s2, s3⟩ := hS
  dsimp only at *
  unfold lockVal
  dsimp only
  have HB := btrans (balloc w (.cells #[.slice a1 U.length p1, .slice b1 B.length q1, .slice c1 R.length r1] 38)) (balloc _ (.cells #[.slice a2 U.length p2, .slice b2 B.length q2, .slice c2 R.length r2] 38))
  have G : ∀ w1, Below ((w.alloc (.cells #[.slice a1 U.length p1, .slice b1 B.length q1, .slice c1 R.length r1] 38)).alloc (.cells #[.slice a2 U.length p2, .slice b2 B.length q2, .slice c2 R.length r2] 38)).heap.size ((w.alloc (.cells #[.slice a1 U.length p1, .slice b1 B.length q1, .slice c1 R.length r1] 38)).alloc (.cells #[.slice a2 U.length p2, .slice b2 B.length q2, .slice c2 R.length r2] 38)) w1 → (w1.cell? ⟨w.heap.size, 1, none⟩ = some (.slice b1 B.length q1) ∧ w1.cell? ⟨w.heap.size, 2, none⟩ = some (.slice c1 R.length r1) ∧ w1.cell? ⟨w.heap.size + 1, 1, none⟩ = some (.slice b2 B.length q2) ∧ w1.cell? ⟨w.heap.size + 1, 2, none⟩ = some (.slice c2 R.length r2)) := fun w1 hb =>
    ⟨ble hb (by simp [go_sem]), ble hb (by simp [go_sem]), ble hb (by simp [go_sem]), ble hb (by simp [go_sem])⟩
  go_enter Try.func21, Try.ntmps21
  go_wp2_with fail
  refine (cEqInts a1 a2 p1 p2 U _ (hU.below HB) (hU2.below HB) (by unfold maxLen; omega)).mono ?_
  rintro e w1 ⟨rfl, hb⟩
  obtain ⟨g1, g2, g3, g4⟩ := G w1 hb
  replace HB := btrans HB hb
  clear hb G
  go_wp2_with fail
  refine (cEqBools b1 b2 q1 q2 B _ (hB.below HB) (hB2.below HB) (by unfold maxLen; omega)).mono ?_
  rintro e w2 ⟨rfl, hb⟩
  replace HB := btrans HB hb
  replace g2 := ble hb g2
  replace g4 := ble hb g4
  clear hb g1 g3
  go_wp2_with fail
  refine (cEqBools c1 c2 r1 r2 R _ (hR.below HB) (hR2.below HB) (by unfold maxLen; omega)).mono ?_
  rintro e w3 ⟨rfl, hb⟩
  replace HB := btrans HB hb
  clear hb g2 g4
  go_wp2
  go_ret
  exact ⟨rfl, HB⟩
end Go.Proofs.Ytdcohaejdlgnpaa
