/- The call at which a leg ends, and the one at which it begins. -/
import Derived.Test.YtajeiiebddnchaaGreatDoorRC
namespace Go.Proofs.YtajeiiebddnchaaGreatDoor
open Go.RowKit

set_option maxRecDepth 20000 in
set_option maxHeartbeats 1600000 in
theorem cOff (a : Option Addr) (cap : Nat) (ts : List TripV) (t f : Nat) (o : Int) (w : World) (hz : Trips w a ts) (ht : t < ts.length) (hf : f < ncA ts t) :
    Calls Tryz.prog 26 #[.agg #[.int .i64 t, .int .i64 o, .int .i64 f], .slice a ts.length cap] w fun e w' => e = .returned (hcA ts t f).val ∧ Below w.heap.size w w' := by
  obtain ⟨b, off, n, cn, rfl, -, c2, hcn, hHl⟩ := hz.at ht
  have c2' : w.cell? ⟨b, off + t * 2 + 1, none⟩ = some (.slice n (ncA ts t) cn) := c2
  obtain ⟨b2, off2, rfl, q0, q1, q2⟩ := call_cells hHl hf
  have hb := cell_lt c2'
  have hb2 := cell_lt q0
  have ht' : (t : Int) < (ts.length : Int) := by omega
  have hf' : (f : Int) < (ncA ts t : Int) := by omega
  have ht0 : (0 : Int) ≤ (t : Int) := Int.natCast_nonneg _
  have hf0 : (0 : Int) ≤ (f : Int) := Int.natCast_nonneg _
  clear c2 hcn hHl hz
  generalize hcA ts t f = c at *
  generalize ncA ts t = nc at *
  obtain ⟨c0, c1, c3⟩ := c
  unfold HaltV.val
  dsimp only at *
  go_enter Tryz.func26, Tryz.ntmps26
  go_wp2_with fail
  go_region
  all_goals go_wp2
  all_goals refine bodyPost_ret (v := .agg #[.int .i64 c0, .int .i64 c1, .int .i64 c3]) (by simp [results, Tryz.results26, go_sem]) rfl ⟨rfl, ?_⟩
  all_goals exact (btrans (balloc _ _) (balloc _ _)).drew

set_option maxRecDepth 20000 in
set_option maxHeartbeats 1600000 in
theorem cOn (a : Option Addr) (cap : Nat) (ts : List TripV) (t f : Nat) (o : Int) (w : World) (hz : Trips w a ts) (ht : t < ts.length) (hf : f < ncA ts t) :
    Calls Tryz.prog 27 #[.agg #[.int .i64 t, .int .i64 f, .int .i64 o], .slice a ts.length cap] w fun e w' => e = .returned (hcA ts t f).val ∧ Below w.heap.size w w' := by
  obtain ⟨b, off, n, cn, rfl, -, c2, hcn, hHl⟩ := hz.at ht
  have c2' : w.cell? ⟨b, off + t * 2 + 1, none⟩ = some (.slice n (ncA ts t) cn) := c2
  obtain ⟨b2, off2, rfl, q0, q1, q2⟩ := call_cells hHl hf
  have hb := cell_lt c2'
  have hb2 := cell_lt q0
  have ht' : (t : Int) < (ts.length : Int) := by omega
  have hf' : (f : Int) < (ncA ts t : Int) := by omega
  have ht0 : (0 : Int) ≤ (t : Int) := Int.natCast_nonneg _
  have hf0 : (0 : Int) ≤ (f : Int) := Int.natCast_nonneg _
  clear c2 hcn hHl hz
  generalize hcA ts t f = c at *
  generalize ncA ts t = nc at *
  obtain ⟨c0, c1, c3⟩ := c
  unfold HaltV.val
  dsimp only at *
  go_enter Tryz.func27, Tryz.ntmps27
  go_wp2_with fail
  go_region
  all_goals go_wp2
  all_goals refine bodyPost_ret (v := .agg #[.int .i64 c0, .int .i64 c1, .int .i64 c3]) (by simp [results, Tryz.results27, go_sem]) rfl ⟨rfl, ?_⟩
  all_goals exact (btrans (balloc _ _) (balloc _ _)).drew
end Go.Proofs.YtajeiiebddnchaaGreatDoor
