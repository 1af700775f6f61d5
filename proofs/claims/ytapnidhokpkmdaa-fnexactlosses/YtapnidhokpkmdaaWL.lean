/- The law of Losses. -/
import Derived.Test.YtapnidhokpkmdaaZH
namespace Go.Proofs.Ytapnidhokpkmdaa
open Go.RowKit Fl
set_option maxRecDepth 20000 in
set_option maxHeartbeats 12800000 in
theorem walkLosses (la : Option Addr) (lc : Nat) (ls : List ZV) (da : Option Addr) (dc : Nat) (ds : List ZV) (w : World) (hl : Zs w la ls) (nl : ls.length ≤ maxLen) (hd : Zs w da ds) (nd : ds.length ≤ maxLen) :
    Calls Try.prog 12 #[.slice la ls.length lc, .slice da ds.length dc] w fun e w' => e = .returned (.bool true) ∧ Below w.heap.size w w' := by
  have HB := Below.refl w.heap.size w
  go_enter Try.func12, Try.ntmps12
  go_wp2_with fail
  refine (cSzZs la _ lc 1048576 _ (by omega) (by omega) nl).mono ?_
  rintro e w1 ⟨r1, rfl, hr, hw⟩
  subst w1
  rcases hr with rfl | ⟨hr, hr0⟩
  · go_wp2
    go_ret
    exact ⟨rfl, HB⟩
  have ll : ls.length ≤ 1048576 := by omega
  have hr51 : ¬ r1 < 0 := by omega
  have hr61 : r1 ≤ 1048576 := by omega
  have hr71 := hr0
  clear hr hr0
  go_wp2_with fail
  refine (cSzZs da _ dc r1 _ hr71 hr61 nd).mono ?_
  rintro e w2 ⟨r2, rfl, hr, hw⟩
  subst w2
  rcases hr with rfl | ⟨hr, hr0⟩
  · go_wp2
    go_ret
    exact ⟨rfl, HB⟩
  have ld : ds.length ≤ 1048576 := by omega
  have hr52 : ¬ r2 < 0 := by omega
  have hr62 : r2 ≤ 1048576 := by omega
  have hr72 := hr0
  clear hr hr0
  go_wp2_with fail
  refine (cToZs la lc ls _ (hl.below HB) ll).mono ?_
  rintro e w3 ⟨gl0, rfl, Ol0, hgl0, hb⟩
  clear hgl0
  replace HB := btrans HB hb
  clear hb
  go_wp2_with fail
  refine (cToZs da dc ds _ (hd.below HB) ld).mono ?_
  rintro e w4 ⟨gd0, rfl, Od0, hgd0, hb⟩
  clear hgd0
  replace HB := btrans HB hb
  replace Ol0 := own_keep Ol0 hb
  clear hb
  go_wp2_with fail
  refine (cLossesS _ _ _ _ ls ds _ (Zs.of_owns Ol0) (Zs.of_owns Od0) (by unfold maxLen; omega)).mono ?_
  rintro e w5 ⟨fW, rfl, hW, hb⟩
  clear Ol0 Od0
  replace HB := btrans HB hb
  clear hb
  go_wp2_with fail
  refine (cToZs la lc ls _ (hl.below HB) ll).mono ?_
  rintro e w6 ⟨gl1, rfl, Ol1, hgl1, hb⟩
  clear hgl1
  replace HB := btrans HB hb
  clear hb
  go_wp2_with fail
  refine (cToZs da dc ds _ (hd.below HB) ld).mono ?_
  rintro e w7 ⟨gd1, rfl, Od1, hgd1, hb⟩
  clear hgd1
  replace HB := btrans HB hb
  replace Ol1 := own_keep Ol1 hb
  clear hb
  go_wp2_with fail
  refine (cLossesI _ _ _ _ ls ds _ (Zs.of_owns Ol1) (Zs.of_owns Od1) (by unfold maxLen; omega)).mono ?_
  rintro e w8 ⟨fG, rfl, hG, hb⟩
  replace HB := btrans HB hb
  replace Ol1 := own_keep Ol1 hb
  replace Od1 := own_keep Od1 hb
  clear hb
  go_wp2_with fail
  refine (cSameF fG fW _ (hG.trans hW.symm)).mono ?_
  rintro e w9 ⟨m, rfl, hw⟩
  subst w9
  skip
  replace HB := bdraw HB m
  replace Ol1 := own_keep Ol1 (Go.Joins.below_draws _ _ m)
  replace Od1 := own_keep Od1 (Go.Joins.below_draws _ _ m)
  go_wp2_with fail
  refine (cToZs la lc ls _ (hl.below HB) ll).mono ?_
  rintro e w10 ⟨g5, rfl, O5, hg5, hb⟩
  clear hg5
  replace HB := btrans HB hb
  replace Ol1 := own_keep Ol1 hb
  replace Od1 := own_keep Od1 hb
  clear hb
  go_wp2_with fail
  refine (cEqZs _ _ _ _ ls ls _ (Zs.of_owns Ol1) (Zs.of_owns O5) ll rfl).mono ?_
  rintro e w11 ⟨rfl, hb⟩
  clear O5
  replace HB := btrans HB hb
  replace Ol1 := own_keep Ol1 hb
  replace Od1 := own_keep Od1 hb
  clear hb
  go_wp2_with fail
  refine (cToZs da dc ds _ (hd.below HB) ld).mono ?_
  rintro e w12 ⟨g5, rfl, O5, hg5, hb⟩
  clear hg5
  replace HB := btrans HB hb
  replace Ol1 := own_keep Ol1 hb
  replace Od1 := own_keep Od1 hb
  clear hb
  go_wp2_with fail
  refine (cEqZs _ _ _ _ ds ds _ (Zs.of_owns Od1) (Zs.of_owns O5) ld rfl).mono ?_
  rintro e w13 ⟨rfl, hb⟩
  clear O5
  replace HB := btrans HB hb
  replace Ol1 := own_keep Ol1 hb
  replace Od1 := own_keep Od1 hb
  clear hb
  go_wp2
  go_ret
  exact ⟨rfl, HB⟩

end Go.Proofs.Ytapnidhokpkmdaa
