/- The walk of the law on StockText. -/
import Derived.Test.YtfffnekbdegclaaDoorTW
namespace Go.Proofs.YtfffnekbdegclaaDoor
open Go.RowKit
set_option maxRecDepth 20000 in
set_option maxHeartbeats 12800000 in
theorem walkStockText (ea : Option Addr) (ec : Nat) (es : List UV) (w : World) (ht : Tab w) (he : Us w ea es) (ne : es.length ≤ maxLen) :
    Calls Tryd.prog 4 #[.slice ea es.length ec] w fun e w' => e = .returned (.bool true) ∧ Below w.heap.size w w' := by
  have HB := Below.refl w.heap.size w
  go_enter Tryd.func4, Tryd.ntmps4
  go_wp2_with fail
  refine (cSzUs ea _ ec 1048576 _ (by omega) (by omega) ne).mono ?_
  rintro e w1 ⟨r1, rfl, hr, hw⟩
  subst w1
  rcases hr with rfl | ⟨hr, hr0⟩
  · go_wp2
    go_ret
    exact ⟨rfl, HB⟩
  have le : es.length ≤ 1048576 := by omega
  have hr51 : ¬ r1 < 0 := by omega
  have hr61 : r1 ≤ 1048576 := by omega
  have hr71 := hr0
  clear hr hr0
  have CS : ∀ g w, Us w (some ⟨g, 0, none⟩) es → Calls Tryd.prog 16 #[.slice (some ⟨g, 0, none⟩) es.length es.length] w (fun e w' => e = .returned (S (stockL es)) ∧ Below w.heap.size w w') := fun g w h => cStockS _ _ es w h (by unfold maxLen; omega)
  have CI : ∀ g w, Tab w → Us w (some ⟨g, 0, none⟩) es → Calls Tryd.prog 15 #[.slice (some ⟨g, 0, none⟩) es.length es.length] w (fun e w' => e = .returned (S (stockL es)) ∧ Below w.heap.size w w') := fun g w ht h => cStockI _ _ es w ht h (by unfold maxLen; omega)
  generalize stockL es = R at CS CI
  go_wp2_with fail
  refine (cToUs ea ec es _ (he.below HB) le).mono ?_
  rintro e w2 ⟨ge0, rfl, Oe0, hge0, hb⟩
  clear hge0
  replace HB := btrans HB hb
  clear hb
  go_wp2_with fail
  refine (CS _ _ (Us.of_owns Oe0)).mono ?_
  rintro e w3 ⟨rfl, hb⟩
  clear Oe0
  replace HB := btrans HB hb
  clear hb
  go_wp2_with fail
  have Se := HB.size
  refine (cToUs ea ec es _ (he.below HB) le).mono ?_
  rintro e w4 ⟨ge1, rfl, Oe1, hge1, hb⟩
  clear hge1
  replace HB := btrans HB hb
  clear hb
  go_wp2_with fail
  refine (CI _ _ (ht.below HB) (Us.of_owns Oe1)).mono ?_
  rintro e w5 ⟨rfl, hb⟩
  replace HB := btrans HB hb
  replace Oe1 := own_keep Oe1 hb
  clear hb
  go_wp2_with fail
  refine (cToUs ea ec es _ (he.below HB) le).mono ?_
  rintro e w6 ⟨g5, rfl, O5, hg5, hb⟩
  clear hg5
  replace HB := btrans HB hb
  replace Oe1 := own_keep Oe1 hb
  clear hb
  go_wp2_with fail
  refine (cEqUs _ _ _ _ es _ (Us.of_owns Oe1) (Us.of_owns O5) le).mono ?_
  rintro e w7 ⟨rfl, hb⟩
  clear O5
  replace HB := btrans HB hb
  replace Oe1 := own_keep Oe1 hb
  clear hb
  go_wp2
  go_ret
  exact ⟨rfl, HB⟩

end Go.Proofs.YtfffnekbdegclaaDoor
