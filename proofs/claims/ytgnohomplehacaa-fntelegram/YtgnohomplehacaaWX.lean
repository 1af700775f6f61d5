/- The law of Axles. -/
import Derived.Test.YtgnohomplehacaaAS
namespace Go.Proofs.Ytgnohomplehacaa
open Go.RowKit
set_option maxRecDepth 100000 in
set_option maxHeartbeats 3200000 in
theorem walkAxles (a : Option Addr) (cap : Nat) (ts : List TelV) (w : World) (hR : Tels w a ts) (hB : Big ts) (hY : ByT ts) :
    Calls Try.prog 12 #[.slice a ts.length cap] w fun e w' => e = .returned (.bool true) ∧ Below w.heap.size w w' := by
  go_enter Try.func12, Try.ntmps12
  go_wp2_with fail
  refine (cSzTels a cap ts w hR hB).mono ?_
  rintro e w1 ⟨r, rfl, hr, HB⟩
  rcases hr with rfl | ⟨hr, hS⟩
  · go_wp2
    go_ret
    exact ⟨rfl, HB⟩
  have hr' : ¬ (r < 0) := by omega
  have hSl := hS.1
  have hSe := hide hS.2
  clear hB
  go_wp2_with fail
  refine (cToTels a cap ts _ (hR.below HB) hS).mono ?_
  rintro e w2 ⟨rfl, ⟨cs, T1⟩, hb⟩
  replace HB := btrans HB hb
  clear hb
  go_wp2_with fail
  refine (cAxS _ _ ts _ T1.tels hS hY).mono ?_
  rintro e w3 ⟨rfl, hb⟩
  replace HB := btrans HB hb
  clear hb T1
  generalize hP : axA ts = P at *
  replace hP := hide hP
  obtain ⟨p1, p2⟩ := P
  go_wp2_with fail
  refine (cToTels a cap ts _ (hR.below HB) hS).mono ?_
  rintro e w4 ⟨rfl, ⟨cs2, T2⟩, hb⟩
  replace HB := btrans HB hb
  clear hb
  go_wp2_with fail
  refine (cAxI _ _ ts _ T2.tels hS hY).mono ?_
  rintro e w5 ⟨rfl, hb⟩
  rw [hP.out]
  replace HB := btrans HB hb
  replace T2 := T2.below hb
  clear hb
  go_wp2_with fail
  refine (cToTels a cap ts _ (hR.below HB) hS).mono ?_
  rintro e w6 ⟨rfl, ⟨cs3, T3⟩, hb⟩
  replace HB := btrans HB hb
  replace T2 := T2.below hb
  clear hb
  go_wp2_with fail
  refine (cEqTels _ _ _ _ ts _ T2.tels T3.tels hSl hSe.out).mono ?_
  rintro e w7 ⟨rfl, hb⟩
  replace HB := btrans HB hb
  clear hb T2 T3
  go_wp2
  go_ret
  exact ⟨rfl, HB⟩
end Go.Proofs.Ytgnohomplehacaa
