/- The edge of a run, in the model. -/
import Derived.Test.YthfknkmabjgklaaAQ
import Derived.Deep.RegionHeld3
namespace Go.Proofs.Ythfknkmabjgklaa
open Go.RowKit
/-- The edge that the model tells for a leg. -/
def runE (es : List EdgeV) (ts : List TripV) (i p : Nat) : Int := (joinA es ((clA ts i).getD p HaltV.zero).n ((clA ts i).getD (p + 1) HaltV.zero).n).1
theorem runE_edge {n : Int} {es : List EdgeV} {ts : List TripV} (hR : Ridden n es ts) {i p : Nat} (hi : i < ts.length) (hp : p + 1 < (clA ts i).length) : runE es ts i p = edgeR (legsV es ts) i p := by
  have h := hR.2.2 i hi p (by omega)
  unfold runE edgeR legsV
  rw [joinA_yes h]
  simp [legsTo, List.getD, show p < (clA ts i).length - 1 by omega, useOf]
set_option maxRecDepth 20000 in
set_option maxHeartbeats 3200000 in
theorem cEdgeL (a : Option Addr) (cap : Nat) (n : Int) (es : List EdgeV) (ta : Option Addr) (tc : Nat) (ts : List TripV) (i p : Nat) (f o : Int) (w : World) (he : Edges w a es) (hl : es.length ≤ 1048576) (hz : Trips w ta ts) (hR : Ridden n es ts) (hi : i < ts.length) (hp : p + 1 < (clA ts i).length) :
    Calls Try.prog 46 #[.agg #[.int .i64 n, .slice a es.length cap], .slice ta ts.length tc, .agg #[.int .i64 (i : Int), .int .i64 (p : Int), .int .i64 f, .int .i64 o]] w fun e w' => e = .returned (.int .i64 (edgeR (legsV es ts) i p)) ∧ Below w.heap.size w w' := by
  have HB := btrans (balloc w (.cells #[.int .i64 n, .slice a es.length cap] 32)) (balloc _ (.cells #[.int .i64 (i : Int), .int .i64 (p : Int), .int .i64 f, .int .i64 o] 72))
  obtain ⟨hX, hY⟩ := two_blocksL w (.cells #[.int .i64 n, .slice a es.length cap] 32) (.cells #[.int .i64 (i : Int), .int .i64 (p : Int), .int .i64 f, .int .i64 o] 72)
  have hl24 : ts.length ≤ 24 := hR.2.1.1
  have hNd : ∀ j, j < (clA ts i).length → 0 ≤ ((clA ts i).getD j HaltV.zero).n ∧ ((clA ts i).getD j HaltV.zero).n ≤ 29 := fun j h => (call_parts (call_at (trip_parts (hR.2.1.2.1 i hi)).2.2.2.1 h)).1
  have hCl := table_trip hR.2.1 hi
  have hy := (hNd (p + 1) hp).1
  have E := hide (runE_edge hR hi hp)
  unfold runE at E
  obtain ⟨tb, toff, na, nc, rfl, c1, c2, hcap, c3⟩ := hz.at hi
  change w.cell? _ = some (.slice na (clA ts i).length nc) at c2
  change Halts w na (clA ts i) at c3
  generalize edgeR (legsV es ts) i p = rr at *
  generalize clA ts i = cs at *
  obtain ⟨l1, l2⟩ := hCl
  rcases c3 with h | ⟨b, off, rfl, hc⟩
  · simp [h] at l1
  obtain ⟨q0, -, -⟩ := hc p (by omega)
  obtain ⟨p0, -, -⟩ := hc (p + 1) hp
  have CE := fun V (hV : Edges V a es) => cEdgeS a cap n es (cs.getD p HaltV.zero).n (cs.getD (p + 1) HaltV.zero).n V hV hl hy
  rw [E.out] at CE
  generalize (cs.getD p HaltV.zero).n = xn at *
  generalize (cs.getD (p + 1) HaltV.zero).n = yn at *
  have i0 : (0 : Int) ≤ (i : Int) := by omega
  have i1 : (i : Int) < (ts.length : Int) := by omega
  have j0 : (0 : Int) ≤ (p : Int) := by omega
  have j1 : (p : Int) < (cs.length : Int) := by omega
  have j2 : (0 : Int) ≤ (p : Int) + 1 := by omega
  have j3 : (p : Int) + 1 < (cs.length : Int) := by omega
  have j4 : IntKind.i64.wrap ((p : Int) + 1) = (p : Int) + 1 := wrap_in _ (by omega) (by omega)
  have j5 : ((p : Int) + 1).toNat = p + 1 := by omega
  have hE := he.below (HB.drew)
  clear hNd hc hR E c1 hcap hz hy
  replace c2 := ble HB c2
  replace q0 := ble HB q0
  replace p0 := ble HB p0
  go_enter Try.func46, Try.ntmps46
  go_wp2_with fail
  obtain ⟨⟨x0, x1⟩, -⟩ := blk2 hX
  obtain ⟨⟨z0, z1, z2, z3⟩, -⟩ := blk4 hY
  generalize (w.alloc (.cells #[.int .i64 n, .slice a es.length cap] 32)).alloc (.cells #[.int .i64 (i : Int), .int .i64 (p : Int), .int .i64 f, .int .i64 o] 72) = wu at *
  obtain ⟨r2, hr2⟩ : ∃ r2, w.heap.size + 1 = r2 := ⟨_, rfl⟩
  rw [hr2] at hY z0 z1 z2 z3 ⊢
  go_region_held3 (fun w' => w'.cell? ⟨w.heap.size, 0, none⟩ = some (.int .i64 n) ∧ w'.cell? ⟨w.heap.size, 1, none⟩ = some (.slice a es.length cap) ∧ w'.cell? ⟨r2, 0, none⟩ = some (.int .i64 (i : Int)) ∧ w'.cell? ⟨r2, 1, none⟩ = some (.int .i64 (p : Int)) ∧ w'.cell? ⟨tb, toff + i * 2 + 1, none⟩ = some (.slice (some ⟨b, off, none⟩) cs.length nc) ∧ w'.cell? ⟨b, off + p * 3, none⟩ = some (.int .i64 xn) ∧ w'.cell? ⟨b, off + (p + 1) * 3, none⟩ = some (.int .i64 yn)) (go_keep) (
    (go_at_call 56; with_reducible refine (CE _ hE).mono ?_; rintro e wb ⟨rfl, hbb⟩; have Bb := undrew hbb; clear hbb; obtain ⟨⟨v0, v1⟩, -⟩ := blk2 (blk_keep Bb hX); obtain ⟨⟨v2, v3, v4, v5⟩, -⟩ := blk4 (blk_keep Bb hY); have v6 := ble Bb c2; have v7 := ble Bb q0; have v8 := ble Bb p0))
  have HB2 := btrans HB Bb
  go_wp2
  go_ret
  exact ⟨rfl, HB2⟩
end Go.Proofs.Ythfknkmabjgklaa
