/- The walk of the law on Fastest. -/
import Derived.Test.YtpfnnpgielnaeaaFT
import Derived.Test.YtpfnnpgielnaeaaMK
namespace Go.Proofs.Ytpfnnpgielnaeaa
open Go.RowKit
theorem grow_belowJ {w0 w w' : World} {r : Option Nat} (hb : Below w0.heap.size w0 w) (h : w.grownBy w' r) (hr : ∀ k, r = some k → w0.heap.size ≤ k) : Below w0.heap.size w0 w' :=
  ⟨h.os.trans hb.os, h.tape.trans hb.tape, h.output.trans hb.output, Nat.le_trans hb.size h.size, fun k hk => (h.block k (Nat.lt_of_lt_of_le hk hb.size) (fun e => by have := hr k e.symm; omega)).trans (hb.block k hk)⟩

set_option maxRecDepth 20000 in
set_option maxHeartbeats 3200000 in
theorem walkFastest (a : Option Addr) (cap : Nat) (ts : List TripV) (f u m ch : Int) (w : World) (hz : Trips w a ts) (hB : Big ts) :
    Calls Try.prog 8 #[.slice a ts.length cap, .int .i64 f, .int .i64 u, .int .i64 m, .int .i64 ch] w fun e w' => e = .returned (.bool true) ∧ Below w.heap.size w w' := by
  go_enter Try.func8, Try.ntmps8
  go_wp2_with fail
  refine (cSzTrips a cap ts 1048576 _ hz (by omega) (by omega) hB).mono ?_
  rintro e w1 ⟨r, rfl, hr, hb⟩
  have HB := btrans (Below.refl _ _) hb
  clear hb
  rcases hr with rfl | ⟨hr0, hr1, hS⟩
  · go_wp2
    go_ret
    exact ⟨rfl, HB⟩
  have hr0' : ¬ (r < 0) := by omega
  clear hr1 hB
  go_wp2_with fail
  refine (cToTrips a cap ts _ (hz.below HB) hS).mono ?_
  rintro e w2 ⟨rfl, o1, hb⟩
  replace HB := btrans HB hb
  clear hb
  go_wp2_with fail
  refine (cFastS _ _ ts f u m ch _ o1.read hS).mono ?_
  rintro e w5 ⟨v5, rfl, L, hP, O5, hb⟩
  have hs5 := HB.size
  replace HB := btrans HB hb
  replace O5 := own_base O5 hs5
  have hbl5 := own_blk_lt O5
  have hL20 : L.length ≤ 1048576 := by have := hP.small; omega
  replace hP := hide hP
  clear hb o1 hs5
  go_wp2_with fail
  refine (cToTripsA a cap ts _ (hz.below HB) hS).mono ?_
  rintro e w7 ⟨rfl, o2, T2, hb⟩
  have hg7 : w5.heap.size < w7.heap.size := by obtain ⟨_, _, h, _⟩ := o2; exact owns_lt h
  have hs6 := HB.size
  replace O5 := own_keep O5 hb
  replace HB := btrans HB hb
  clear hb
  go_wp2_with fail
  refine (cFastI _ _ ts f u m ch _ o2.read hS).mono ?_
  rintro e w8 ⟨v8, rfl, L', hP', O8, hb⟩
  have hLL : L' = L := hP'.uniq hP.out
  subst hLL
  have hB8 := own_from O8 (Nat.le_refl _)
  replace O5 := own_keep O5 hb
  replace T2 := T2.below hb
  replace HB := btrans HB hb
  replace o2 := o2.below hb
  clear hb hP'
  generalize L' = L at *
  go_wp2_with fail
  refine (cEqIntsn _ _ L.length v8 v5 L _ rfl O8 O5 (by unfold maxLen; omega)).mono ?_
  rintro e w8b ⟨rfl, hb⟩
  replace HB := btrans HB hb
  replace o2 := o2.below hb
  replace T2 := T2.below hb
  replace O5 := own_keep O5 hb
  replace O8 := own_keep O8 hb
  clear hb
  go_wp2_with fail
  refine (cToTrips a cap ts _ (hz.below HB) hS).mono ?_
  rintro e w9 ⟨rfl, o3, hb⟩
  replace HB := btrans HB hb
  replace o2 := o2.below hb
  replace T2 := T2.below hb
  replace O5 := own_keep O5 hb
  replace O8 := own_keep O8 hb
  clear hb
  go_wp2_with fail
  refine (cEqTrips _ _ _ _ ts _ o2.read o3.read hS).mono ?_
  rintro e w10 ⟨rfl, hb⟩
  replace HB := btrans HB hb
  replace T2 := T2.below hb
  replace O5 := own_keep O5 hb
  replace O8 := own_keep O8 hb
  clear hb o2 o3
  go_wp2_with fail
  refine (cMarkTrips _ _ ts _ _ T2 (by omega) hS (by omega) (by omega)).mono ?_
  rintro e w12 ⟨k12, rfl, hk12, S12⟩
  have hk0 : ¬ k12 < 0 := by omega
  replace hk12 := hide hk12
  replace O5 := own_span O5 S12 (fun k hk => .inl (by have := hbl5 _ hk; omega))
  replace O8 := own_span O8 S12 (fun k hk => .inr (hB8 _ hk))
  replace HB := S12.below HB (by omega)
  clear S12 T2
  go_wp2_with fail
  refine (cEqIntsn _ _ L.length v8 v5 L _ rfl O8 O5 (by unfold maxLen; omega)).mono ?_
  rintro e w13 ⟨rfl, hb⟩
  replace HB := btrans HB hb
  replace O5 := own_keep O5 hb
  replace O8 := own_keep O8 hb
  clear hb
  go_wp2_with fail
  refine (cMarkInts _ L.length v8 L 1 _ rfl O8 hL20 (by omega) (by omega)).mono ?_
  rintro e w14 ⟨rfl, R8, G14⟩
  replace O5 := own_far O5 G14 (fun k hk e => by have h1 := hbl5 _ hk; have h2 := hB8 k e.symm; omega)
  replace HB := grow_belowJ HB G14 (fun k e => by have h2 := hB8 k e; omega)
  clear G14 O8
  have hneg : ¬ ((1 : Int) + (L.length : Int) < 0) := by omega
  go_wp2_with fail
  refine (cHeldInts _ L.length v8 1 _ R8 hL20 (by omega) (by omega)).mono ?_
  rintro e w15 ⟨rfl, hw⟩
  subst w15
  go_wp2_with fail
  refine (cToTrips a cap ts _ (hz.below HB) hS).mono ?_
  rintro e w17 ⟨rfl, o4, hb⟩
  replace HB := btrans HB hb
  replace O5 := own_keep O5 hb
  replace R8 := own_keep R8 hb
  clear hb
  go_wp2_with fail
  refine (cFastI _ _ ts f u m ch _ o4.read hS).mono ?_
  rintro e w18 ⟨v9, rfl, L2, hP2, O9, hb⟩
  have hLL : L2 = L := hP2.uniq hP.out
  rw [hLL] at O9
  replace HB := btrans HB hb
  replace O5 := own_keep O5 hb
  replace R8 := own_keep R8 hb
  clear hb o4 hLL hP2
  go_wp2_with fail
  refine (cEqIntsn _ _ L.length v9 v5 L _ rfl O9 O5 (by unfold maxLen; omega)).mono ?_
  rintro e w19 ⟨rfl, hb⟩
  replace HB := btrans HB hb
  replace R8 := own_keep R8 hb
  clear hb O9 O5
  go_wp2_with fail
  refine (cHeldInts _ L.length v8 1 _ R8 hL20 (by omega) (by omega)).mono ?_
  rintro e w20 ⟨rfl, hw⟩
  subst w20
  clear R8
  go_wp2
  go_ret
  exact ⟨rfl, HB⟩
end Go.Proofs.Ytpfnnpgielnaeaa
