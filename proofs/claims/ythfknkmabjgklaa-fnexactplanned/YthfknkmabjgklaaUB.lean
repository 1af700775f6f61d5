/- Ridden of the model. -/
import Derived.Test.YthfknkmabjgklaaUA
import Derived.Deep.RegionHeld3
namespace Go.Proofs.Ythfknkmabjgklaa
open Go.RowKit

set_option maxRecDepth 20000 in
set_option maxHeartbeats 6400000 in
theorem cRiddenS (a : Option Addr) (cap : Nat) (n : Int) (es : List EdgeV) (ta : Option Addr) (tc : Nat) (ts : List TripV) (w : World) (he : Edges w a es) (hl : es.length ≤ 1048576) (hz : Trips w ta ts) (hS : Small ts) :
    Calls Try.prog 29 #[.agg #[.int .i64 n, .slice a es.length cap], .slice ta ts.length tc] w (AnsIff w (Ridden n es ts)) := by
  have hW := balloc w (.cells #[.int .i64 n, .slice a es.length cap] 32)
  have X := one_block w (.cells #[.int .i64 n, .slice a es.length cap] 32)
  go_enter Try.func29, Try.ntmps29
  go_wp2_with fail
  refine (cNetS a cap n es _ (he.below hW) hl).mono ?_
  rintro e w1 ⟨rfl, hb1⟩
  have HB := btrans hW hb1
  replace X := blk_keep hb1 X
  clear hW hb1
  cases hN : netB n es
  · have hF : Hid (¬ Ridden n es ts) := hide (fun h => by rw [h.1] at hN; cases hN)
    clear hN
    go_wp2
    go_ret
    exact AnsIff.no hF.out HB
  replace hN := hide hN
  obtain ⟨⟨x0, x1⟩, -⟩ := blk2 X
  go_wp2_with fail
  refine (cTableS ta tc ts _ (hz.below HB) hS).mono ?_
  rintro e w2 ⟨r, rfl, hr, hb2⟩
  replace HB := btrans HB hb2
  replace X := blk_keep hb2 X
  clear hb2 x0 x1
  cases r
  · have hF : Hid (¬ Ridden n es ts) := hide (fun h => by have := hr.2 h.2.1; cases this)
    clear hr hN
    go_wp2
    go_ret
    exact AnsIff.no hF.out HB
  have hT := hide (hr.1 rfl)
  have hT24 : ts.length ≤ 24 := hT.out.1
  clear hr
  go_wp2
  go_loopw [5, 6] (fun i _ wr => ∃ k : Nat, k ≤ ts.length ∧ i = .int .i64 k ∧ Hid (∀ i, i < k → Rode es (clA ts i) ((clA ts i).length - 1)) ∧ Below w.heap.size w wr ∧ wr.heap[w.heap.size]? = some (.cells #[.int .i64 n, .slice a es.length cap] 32)) (fun i _ _ => ts.length - (intOf i).toNat)
  case atStart => exact ⟨0, Nat.zero_le _, rfl, hide (fun i h => by omega), HB, X⟩
  case round =>
    obtain ⟨k, hk, rfl, hR, hb, X⟩ := hrel
    clear HB
    by_cases hlt : k < ts.length
    · have hlt' : (k : Int) < (ts.length : Int) := by omega
      obtain ⟨tb, toff, na, nc, rfl, c1, c2, hcap, c3⟩ := hz.at hlt
      have hCl := table_trip hT.out hlt
      have hNd : Hid (∀ j, j < (clA ts k).length → 0 ≤ ((clA ts k).getD j HaltV.zero).n ∧ ((clA ts k).getD j HaltV.zero).n ≤ 29) := hide (fun j h => (call_parts (call_at (trip_parts (hT.out.2.1 k hlt)).2.2.2.1 h)).1)
      have hNo : Hid (∀ j, j < (clA ts k).length - 1 → ¬ placeE es ((clA ts k).getD j HaltV.zero).n ((clA ts k).getD (j + 1) HaltV.zero).n < es.length → ¬ Ridden n es ts) := hide (fun j hj h1 h2 => h1 (h2.2.2 k hlt j hj))
      change w.cell? _ = some (.slice na (clA ts k).length nc) at c2
      change Halts w na (clA ts k) at c3
      generalize hcl : clA ts k = cs at *
      replace hcl := hide hcl
      obtain ⟨l1, l2⟩ := hCl
      rcases c3 with h | ⟨b, off, rfl, hc⟩
      · simp [h] at l1
      replace hc := hide hc
      clear c1 hcap
      go_wp2
      obtain ⟨wo, rfl⟩ : ∃ wo, wo = wr := ⟨wr, rfl⟩
      go_loopw [6] (fun i wr => ∃ j : Nat, j + 1 ≤ cs.length ∧ i = .int .i64 ((j : Int) + 1) ∧ Hid (Rode es cs j) ∧ Below w.heap.size w wr ∧ wr.heap[w.heap.size]? = some (.cells #[.int .i64 n, .slice a es.length cap] 32)) (fun i _ => cs.length - (intOf i).toNat)
      case atStart => exact ⟨0, by omega, rfl, hide (fun j h => by omega), hb, X⟩
      case round =>
        obtain ⟨j, hj, rfl, hQ, hb, X⟩ := hrel
        have c2 := ble hb c2
        have e1 : ((j : Int) + 1).toNat = j + 1 := by omega
        have e2 : (0 : Int) ≤ (j : Int) + 1 := by omega
        have e4 : IntKind.i64.wrap ((j : Int) + 1 - 1) = (j : Int) := (wrap_in _ (by omega) (by omega)).trans (by omega)
        have e5 : IntKind.i64.wrap (j : Int) = (j : Int) := wrap_in _ (by omega) (by omega)
        have e6 : (0 : Int) ≤ (j : Int) := by omega
        by_cases hjl : j + 1 < cs.length
        · have hjl' : (j : Int) + 1 < (cs.length : Int) := by omega
          have hjl2 : (j : Int) < (cs.length : Int) := by omega
          have e3 : IntKind.i64.wrap ((j : Int) + 1 + 1) = (j : Int) + 1 + 1 := wrap_in _ (by omega) (by omega)
          obtain ⟨q0, -, -⟩ := hc.out j (by omega)
          obtain ⟨p0, -, -⟩ := hc.out (j + 1) hjl
          replace q0 := ble hb q0
          replace p0 := ble hb p0
          have hNj := fun h => hide (hNo.out j (by omega) h)
          have hYj := fun h => hide (hQ.out.succ (k := j) h)
          have hy := (hNd.out (j + 1) hjl).1
          have CE := fun V (hV : Edges V a es) => cEdgeS a cap n es (cs.getD j HaltV.zero).n (cs.getD (j + 1) HaltV.zero).n V hV hl hy
          generalize cs.getD j HaltV.zero = x at *
          generalize cs.getD (j + 1) HaltV.zero = y at *
          obtain ⟨xn, xa, xd⟩ := x
          obtain ⟨yn, ya, yd⟩ := y
          dsimp only at *
          obtain ⟨⟨x0, x1⟩, -⟩ := blk2 X
          have hE := he.below hb.drew
          clear hNo hQ hc hy
          by_cases hp : placeE es xn yn < es.length
          · have hJ := hide (show (joinA es xn yn).1 = (placeE es xn yn : Int) by rw [joinA_yes hp])
            have hR2 := hYj hp
            generalize (joinA es xn yn).1 = rr at *
            have hrr : ¬ rr < 0 := by rw [hJ.out]; omega
            clear hNj hYj hp hJ
            go_wp2_with fail
            go_region_held3 (fun w' => w'.cell? ⟨w.heap.size, 0, none⟩ = some (.int .i64 n) ∧ w'.cell? ⟨w.heap.size, 1, none⟩ = some (.slice a es.length cap) ∧ w'.cell? ⟨tb, toff + k * 2 + 1, none⟩ = some (.slice (some ⟨b, off, none⟩) cs.length nc) ∧ w'.cell? ⟨b, off + j * 3, none⟩ = some (.int .i64 xn) ∧ w'.cell? ⟨b, off + (j + 1) * 3, none⟩ = some (.int .i64 yn)) (go_keep) (
              (go_at_call 56; with_reducible refine (CE _ hE).mono ?_; rintro e wb ⟨rfl, hbb⟩; have Bb := undrew hbb; clear hbb; obtain ⟨⟨v0, v1⟩, -⟩ := blk2 (blk_keep Bb X); have v2 := ble Bb c2; have v3 := ble Bb q0; have v4 := ble Bb p0))
            have hb2 := btrans hb Bb
            have X2 := blk_keep Bb X
            clear v0 v1 v2 v3 v4 Bb
            go_wp2
            go_roundw
            case rel => exact ⟨j + 1, by omega, by go_num, hR2, hb2, X2⟩
            case measure => simp [intOf]; omega
          · have hJ := hide (show (joinA es xn yn).1 = -1 by rw [joinA_no hp])
            have hF := hNj hp
            generalize (joinA es xn yn).1 = rr at *
            have hrr : rr < 0 := by rw [hJ.out]; omega
            clear hNj hYj hp hJ
            go_wp2_with fail
            go_region_held3 (fun w' => w'.cell? ⟨w.heap.size, 0, none⟩ = some (.int .i64 n) ∧ w'.cell? ⟨w.heap.size, 1, none⟩ = some (.slice a es.length cap) ∧ w'.cell? ⟨tb, toff + k * 2 + 1, none⟩ = some (.slice (some ⟨b, off, none⟩) cs.length nc) ∧ w'.cell? ⟨b, off + j * 3, none⟩ = some (.int .i64 xn) ∧ w'.cell? ⟨b, off + (j + 1) * 3, none⟩ = some (.int .i64 yn)) (go_keep) (
              (go_at_call 56; with_reducible refine (CE _ hE).mono ?_; rintro e wb ⟨rfl, hbb⟩; have Bb := undrew hbb; clear hbb; obtain ⟨⟨v0, v1⟩, -⟩ := blk2 (blk_keep Bb X); have v2 := ble Bb c2; have v3 := ble Bb q0; have v4 := ble Bb p0))
            have hb2 := btrans hb Bb
            go_wp2
            go_ret
            exact AnsIff.no hF.out hb2
        · have hjl' : ¬ ((j : Int) + 1 < (cs.length : Int)) := by omega
          have hje : j = cs.length - 1 := by omega
          have hR2 : Hid (∀ i, i < k + 1 → Rode es (clA ts i) ((clA ts i).length - 1)) := hide (fun i hi => by
            by_cases e : i = k
            · subst e; rw [hcl.out, ← hje]; exact hQ.out
            · exact hR.out i (by omega))
          clear hQ hR hNo hc
          go_wp2
          go_roundw
          case rel => exact ⟨k + 1, by omega, by go_num, hR2, hb, X⟩
          case measure => simp [intOf]; omega
    · have hlt' : ¬ ((k : Int) < (ts.length : Int)) := by omega
      obtain rfl : k = ts.length := by omega
      have hF : Hid (Ridden n es ts) := hide ⟨hN.out, hT.out, hR.out⟩
      clear hR
      go_wp2
      go_ret
      exact AnsIff.yes hF.out hb
end Go.Proofs.Ythfknkmabjgklaa
