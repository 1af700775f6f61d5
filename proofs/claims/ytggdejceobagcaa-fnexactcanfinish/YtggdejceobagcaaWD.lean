/- The walks of the laws on CanFinish and FirstMove. -/
import Derived.Test.YtggdejceobagcaaY
namespace Go.Proofs.Ytggdejceobagcaa
open Go.RowKit

set_option maxHeartbeats 1600000 in
theorem walkCan (a b : Option Addr) (ca cb : Nat) (ls : List Int) (ts : List SingleV) (w : World) (hz : Ints w a ls) (hm : ls.length ≤ maxLen) (he : Singles w b ts) (hm2 : ts.length ≤ maxLen) :
    Calls Try.prog 9 #[.slice a ls.length ca, .slice b ts.length cb] w fun e w' => e = .returned (.bool true) ∧ Below w.heap.size w w' := by
  have hm' := hm
  unfold maxLen at hm'
  by_cases hl2 : 1048576 < ls.length
  · have hl2' : (1048576 : Int) < (ls.length : Int) := by omega
    go_enter Try.func9, Try.ntmps9
    go_wp2
    go_ret
    exact ⟨rfl, Below.refl _ _⟩
  have hl2' : ¬ ((1048576 : Int) < (ls.length : Int)) := by omega
  have hl : ls.length ≤ 1048576 := by omega
  go_enter Try.func9, Try.ntmps9
  go_wp2_with fail
  refine (cSzSingles b ts.length cb 1048576 _ (by omega) (by omega) hm2).mono ?_
  rintro e w0 ⟨r, rfl, hr, hw⟩
  subst w0
  rcases hr with rfl | ⟨rfl, hr⟩
  · go_wp2
    go_ret
    exact ⟨rfl, Below.refl _ _⟩
  have hlt : ts.length ≤ 1048576 := by omega
  have hr' : ¬ (1048576 - (ts.length : Int) < 0) := by omega
  clear hm2 hr
  go_wp2_with fail
  refine (cToInts a ca ls _ (hz.below (Below.refl _ _)) hl).mono ?_
  rintro e w1_ ⟨gl1, rfl, ol1, hgl, hb⟩
  clear hgl
  have HB1 := btrans (Below.refl _ _) hb
  clear hb 
  go_wp2_with fail
  refine (cToSingles b cb ts _ (he.below HB1) hlt).mono ?_
  rintro e w2_ ⟨gt2, rfl, ot2, hgt, hb⟩
  clear hgt
  have HB2 := btrans HB1 hb
  have ol1_2 := own_keep ol1 hb
  clear hb HB1 ol1
  go_wp2_with fail
  refine (cCanS _ _ _ _ ls ts _ (Ints.of_owns ol1_2) hl (fun x hx => by cases hx; exact owns_lt ol1_2) (Singles.of_owns ot2) (fun x hx => by cases hx; exact owns_lt ot2) hlt).mono ?_
  rintro e w3_ ⟨rfl, hb⟩
  clear ot2
  have HB3 := btrans HB2 hb
  have ol1_3 := own_keep ol1_2 hb
  clear hb HB2 ol1_2
  generalize hr : canOk ls ts = r
  replace hr := hide hr
  clear ol1_3
  go_wp2_with fail
  refine (cToInts a ca ls _ (hz.below HB3) hl).mono ?_
  rintro e w4_ ⟨gl3, rfl, ol3, hgl, hb⟩
  clear hgl
  have HB4 := btrans HB3 hb
  clear hb HB3
  go_wp2_with fail
  refine (cToSingles b cb ts _ (he.below HB4) hlt).mono ?_
  rintro e w5_ ⟨gt4, rfl, ot4, hgt, hb⟩
  clear hgt
  have HB5 := btrans HB4 hb
  have ol3_5 := own_keep ol3 hb
  clear hb HB4 ol3
  go_wp2_with fail
  refine (cCanI _ _ _ _ ls ts _ (Ints.of_owns ol3_5) hl (fun x hx => by cases hx; exact owns_lt ol3_5) (Singles.of_owns ot4) (fun h => by cases h) (fun x h => by cases h; rfl) hlt).mono ?_
  rintro e w6_ ⟨rfl, hb⟩
  have HB6 := btrans HB5 hb
  have ol3_6 := own_keep ol3_5 hb
  have ot4_6 := own_keep ot4 hb
  clear hb HB5 ol3_5 ot4
  rw [hr.out]
  go_wp2_with fail
  refine (cToInts a ca ls _ (hz.below HB6) hl).mono ?_
  rintro e w7_ ⟨gl5, rfl, ol5, hgl, hb⟩
  clear hgl
  have HB7 := btrans HB6 hb
  have ol3_7 := own_keep ol3_6 hb
  have ot4_7 := own_keep ot4_6 hb
  clear hb HB6 ol3_6 ot4_6
  go_wp2_with fail
  refine (cEqInts _ _ _ _ ls _ (Ints.of_owns ol3_7) (Ints.of_owns ol5) hm).mono ?_
  rintro e w8_ ⟨rfl, hb⟩
  clear ol5
  have HB8 := btrans HB7 hb
  have ol3_8 := own_keep ol3_7 hb
  have ot4_8 := own_keep ot4_7 hb
  clear hb HB7 ol3_7 ot4_7
  go_wp2_with fail
  refine (cToSingles b cb ts _ (he.below HB8) hlt).mono ?_
  rintro e w9_ ⟨gt6, rfl, ot6, hgt, hb⟩
  clear hgt
  have HB9 := btrans HB8 hb
  have ol3_9 := own_keep ol3_8 hb
  have ot4_9 := own_keep ot4_8 hb
  clear hb HB8 ol3_8 ot4_8
  go_wp2_with fail
  refine (cEqSingles _ _ _ _ ts _ (Singles.of_owns ot4_9) (Singles.of_owns ot6) hlt).mono ?_
  rintro e w10_ ⟨rfl, hb⟩
  have HB10 := btrans HB9 hb
  have ol3_10 := own_keep ol3_9 hb
  have ot4_10 := own_keep ot4_9 hb
  clear hb HB9 ol3_9 ot4_9
  go_wp2
  go_ret
  exact ⟨rfl, HB10⟩

set_option maxHeartbeats 1600000 in
theorem walkFirst (a b : Option Addr) (ca cb : Nat) (ls : List Int) (ts : List SingleV) (w : World) (hz : Ints w a ls) (hm : ls.length ≤ maxLen) (he : Singles w b ts) (hm2 : ts.length ≤ maxLen) :
    Calls Try.prog 10 #[.slice a ls.length ca, .slice b ts.length cb] w fun e w' => e = .returned (.bool true) ∧ Below w.heap.size w w' := by
  have hm' := hm
  unfold maxLen at hm'
  by_cases hl2 : 1048576 < ls.length
  · have hl2' : (1048576 : Int) < (ls.length : Int) := by omega
    go_enter Try.func10, Try.ntmps10
    go_wp2
    go_ret
    exact ⟨rfl, Below.refl _ _⟩
  have hl2' : ¬ ((1048576 : Int) < (ls.length : Int)) := by omega
  have hl : ls.length ≤ 1048576 := by omega
  go_enter Try.func10, Try.ntmps10
  go_wp2_with fail
  refine (cSzSingles b ts.length cb 1048576 _ (by omega) (by omega) hm2).mono ?_
  rintro e w0 ⟨r, rfl, hr, hw⟩
  subst w0
  rcases hr with rfl | ⟨rfl, hr⟩
  · go_wp2
    go_ret
    exact ⟨rfl, Below.refl _ _⟩
  have hlt : ts.length ≤ 1048576 := by omega
  have hr' : ¬ (1048576 - (ts.length : Int) < 0) := by omega
  clear hm2 hr
  go_wp2_with fail
  refine (cToInts a ca ls _ (hz.below (Below.refl _ _)) hl).mono ?_
  rintro e w1_ ⟨gl1, rfl, ol1, hgl, hb⟩
  clear hgl
  have HB1 := btrans (Below.refl _ _) hb
  clear hb 
  go_wp2_with fail
  refine (cToSingles b cb ts _ (he.below HB1) hlt).mono ?_
  rintro e w2_ ⟨gt2, rfl, ot2, hgt, hb⟩
  clear hgt
  have HB2 := btrans HB1 hb
  have ol1_2 := own_keep ol1 hb
  clear hb HB1 ol1
  go_wp2_with fail
  refine (cFirstS _ _ _ _ ls ts _ (Ints.of_owns ol1_2) hl (fun x hx => by cases hx; exact owns_lt ol1_2) (Singles.of_owns ot2) hlt).mono ?_
  rintro e w3_ ⟨rfl, hb⟩
  clear ot2
  have HB3 := btrans HB2 hb
  have ol1_3 := own_keep ol1_2 hb
  clear hb HB2 ol1_2
  generalize hr : firstOf ls ts = r
  replace hr := hide hr
  clear ol1_3
  go_wp2_with fail
  refine (cToInts a ca ls _ (hz.below HB3) hl).mono ?_
  rintro e w4_ ⟨gl3, rfl, ol3, hgl, hb⟩
  clear hgl
  have HB4 := btrans HB3 hb
  clear hb HB3
  go_wp2_with fail
  refine (cToSingles b cb ts _ (he.below HB4) hlt).mono ?_
  rintro e w5_ ⟨gt4, rfl, ot4, hgt, hb⟩
  clear hgt
  have HB5 := btrans HB4 hb
  have ol3_5 := own_keep ol3 hb
  clear hb HB4 ol3
  go_wp2_with fail
  refine (cFirstI _ _ _ _ ls ts _ (Ints.of_owns ol3_5) hl (fun x hx => by cases hx; exact owns_lt ol3_5) (Singles.of_owns ot4) (fun h => by cases h) (fun x h => by cases h; rfl) hlt).mono ?_
  rintro e w6_ ⟨rfl, hb⟩
  have HB6 := btrans HB5 hb
  have ol3_6 := own_keep ol3_5 hb
  have ot4_6 := own_keep ot4 hb
  clear hb HB5 ol3_5 ot4
  rw [hr.out]
  go_wp2_with fail
  refine (cToInts a ca ls _ (hz.below HB6) hl).mono ?_
  rintro e w7_ ⟨gl5, rfl, ol5, hgl, hb⟩
  clear hgl
  have HB7 := btrans HB6 hb
  have ol3_7 := own_keep ol3_6 hb
  have ot4_7 := own_keep ot4_6 hb
  clear hb HB6 ol3_6 ot4_6
  go_wp2_with fail
  refine (cEqInts _ _ _ _ ls _ (Ints.of_owns ol3_7) (Ints.of_owns ol5) hm).mono ?_
  rintro e w8_ ⟨rfl, hb⟩
  clear ol5
  have HB8 := btrans HB7 hb
  have ol3_8 := own_keep ol3_7 hb
  have ot4_8 := own_keep ot4_7 hb
  clear hb HB7 ol3_7 ot4_7
  go_wp2_with fail
  refine (cToSingles b cb ts _ (he.below HB8) hlt).mono ?_
  rintro e w9_ ⟨gt6, rfl, ot6, hgt, hb⟩
  clear hgt
  have HB9 := btrans HB8 hb
  have ol3_9 := own_keep ol3_8 hb
  have ot4_9 := own_keep ot4_8 hb
  clear hb HB8 ol3_8 ot4_8
  go_wp2_with fail
  refine (cEqSingles _ _ _ _ ts _ (Singles.of_owns ot4_9) (Singles.of_owns ot6) hlt).mono ?_
  rintro e w10_ ⟨rfl, hb⟩
  have HB10 := btrans HB9 hb
  have ol3_10 := own_keep ol3_9 hb
  have ot4_10 := own_keep ot4_9 hb
  clear hb HB9 ol3_9 ot4_9
  go_wp2
  go_ret
  exact ⟨rfl, HB10⟩
end Go.Proofs.Ytggdejceobagcaa
