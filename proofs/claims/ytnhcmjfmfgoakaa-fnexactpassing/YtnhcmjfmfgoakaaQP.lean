/- The walk of the law on Passing. -/
import Derived.Test.YtnhcmjfmfgoakaaP
import Derived.Test.YtnhcmjfmfgoakaaL
namespace Go.Proofs.Ytnhcmjfmfgoakaa
open Go.RowKit

set_option maxRecDepth 20000 in
set_option maxHeartbeats 6400000 in
theorem walk12 (a : Option Addr) (cap : Nat) (m : MotorV) (zs : List Int) (w : World) (hz : Ints w a zs) (hm : zs.length ≤ maxLen) :
    Calls Try.prog 12 #[m.val, .slice a zs.length cap] w fun e w' => e = .returned (.bool true) ∧ Below w.heap.size w w' := by
  have hm' : zs.length ≤ 9223372036854775807 := by unfold maxLen at hm; omega
  by_cases hl2 : 1048576 < zs.length
  · obtain ⟨u, d, t⟩ := m
    unfold MotorV.val
    have hW := balloc w (.cells #[.int .i64 u, .int .i64 d, .int .i64 t] 35)
    go_enter Try.func12, Try.ntmps12
    go_wp2
    go_ret
    exact ⟨rfl, hW⟩
  have hl : zs.length ≤ 1048576 := by omega
  have CS := fun a cap w hz => c37 a cap m zs w hz hl
  have CI := fun a cap w hz => c21 a cap m zs w hz hl
  have CM := c27 m
  have hn := sqs_len m zs
  have hLn := passL_len (sqs m zs)
  generalize passL (sqs m zs) = L at *
  generalize (sqs m zs).length = n at *
  have hnm : n ≤ maxLen := by unfold maxLen; omega
  have hn6 : n ≤ 1048576 := by omega
  have hX0 := Bx3.new w (.int .i64 m.u) (.int .i64 m.d) (.int .i64 m.t) 35
  have HB0 := balloc w (.cells #[.int .i64 m.u, .int .i64 m.d, .int .i64 m.t] 35)
  obtain ⟨u, d, t⟩ := m
  unfold MotorV.val at *
  go_enter Try.func12, Try.ntmps12
  go_wp2_with fail
  refine (CM _).mono ?_
  rintro e w1 ⟨rfl, hb⟩
  have HB1 := btrans HB0 hb
  have X1 := hX0.below hb
  clear hb HB0 hX0
  go_wp2_with fail
  refine (c29 a cap zs _ (hz.below HB1) hl).mono ?_
  rintro e w2 ⟨g1, rfl, oz, hg, hb⟩
  clear hg
  have HB2 := btrans HB1 hb
  have X2 := X1.below hb
  clear hb HB1 X1
  go_wp2_with fail
  refine (CS _ _ _ (Ints.of_owns oz)).mono ?_
  rintro e w3 ⟨v0, rfl, o0, hb⟩
  have HB3 := btrans HB2 hb
  have X3 := X2.below hb
  clear hb HB2 X2 oz CS
  go_wp2_with fail
  have L0 := own_blk_lt o0
  refine (c29 a cap zs _ (hz.below HB3) hl).mono ?_
  rintro e w4 ⟨g, rfl, ox, hg, hb⟩
  have HB4 := btrans HB3 hb
  have X4 := X3.below hb
  have o04 := own_keep o0 hb
  have hwg : w.heap.size < g := by rw [hg]; exact cell_lt X3.1
  rw [← hg] at L0
  clear hb HB3 X3 o0 hg
  obtain ⟨b0, b1, b2⟩ := id X4
  go_wp2_with fail
  clear b0 b1 b2
  refine (CM _).mono ?_
  rintro e w5 ⟨rfl, hb⟩
  have HB5 := btrans HB4 hb
  have X5 := X4.below hb
  have o05 := own_keep o04 hb
  have ox5 := own_keep ox hb
  clear hb HB4 X4 o04 ox
  go_wp2_with fail
  have gx := owns_lt ox5
  refine (CI _ _ _ (Ints.of_owns ox5)).mono ?_
  rintro e w6 ⟨v1, rfl, o1, hb⟩
  have L1 : ∀ k, v1.ownBlock = some k → g < k := fun k hk => by have := own_from o1 (Nat.le_refl _) k hk; omega
  have HB6 := btrans HB5 hb
  have X6 := X5.below hb
  have o06 := own_keep o05 hb
  have ox6 := own_keep ox5 hb
  clear hb HB5 X5 o05 ox5 gx
  go_wp2_with fail
  refine (c30n _ _ n _ _ L _ hLn o1 o06 hnm).mono ?_
  rintro e w7 ⟨rfl, q7, hw⟩
  have hb : Below w6.heap.size w6 w7 := by rw [hw]; exact bdraw (Below.refl _ _) _
  have HB7 := btrans HB6 hb
  have X7 := X6.below hb
  have o07 := own_keep o06 hb
  have ox7 := own_keep ox6 hb
  have o17 := own_keep o1 hb
  clear hb hw HB6 X6 o06 ox6 o1
  go_wp2_with fail
  refine (c29 a cap zs _ (hz.below HB7) hl).mono ?_
  rintro e w8 ⟨g8, rfl, oy, hg, hb⟩
  clear hg
  have HB8 := btrans HB7 hb
  have X8 := X7.below hb
  have o08 := own_keep o07 hb
  have ox8 := own_keep ox7 hb
  have o18 := own_keep o17 hb
  clear hb HB7 X7 o07 ox7 o17
  go_wp2_with fail
  refine (c30n _ _ zs.length _ _ zs _ rfl ox8 oy hm).mono ?_
  rintro e w9 ⟨rfl, q9, hw⟩
  have hb : Below w8.heap.size w8 w9 := by rw [hw]; exact bdraw (Below.refl _ _) _
  have HB9 := btrans HB8 hb
  have X9 := X8.below hb
  have o09 := own_keep o08 hb
  have ox9 := own_keep ox8 hb
  have o19 := own_keep o18 hb
  clear hb hw HB8 X8 o08 ox8 o18 oy
  go_wp2_with fail
  refine (c31 _ zs.length _ zs 1 _ rfl ox9 hl (by omega) (by omega)).mono ?_
  rintro e w10 ⟨rfl, _, hgr⟩
  have hgr : w9.grownBy w10 (some g) := hgr
  have HB10 : Below w.heap.size w w10 := HB9.grown hgr HB9.size (fun k hk => by simp at hk; omega)
  have X10 := X9.grow hgr (fun h => by simp at h; omega)
  have o010 := own_far o09 hgr (fun k hk => by have := L0 k hk; intro h; simp at h; omega)
  have o110 := own_far o19 hgr (fun k hk => by have := L1 k hk; intro h; simp at h; omega)
  clear hgr HB9 X9 o09 ox9 o19
  have hpos : ¬ (1 + (zs.length : Int) < 0) := by omega
  go_wp2_with fail
  refine (c30n _ _ n _ _ L _ hLn o110 o010 hnm).mono ?_
  rintro e w11 ⟨rfl, q11, hw⟩
  have hb : Below w10.heap.size w10 w11 := by rw [hw]; exact bdraw (Below.refl _ _) _
  have HB11 := btrans HB10 hb
  have X11 := X10.below hb
  have o011 := own_keep o010 hb
  have o111 := own_keep o110 hb
  clear hb hw HB10 X10 o010 o110
  go_wp2_with fail
  refine (c31 _ n _ L 1 _ hLn o111 hn6 (by omega) (by omega)).mono ?_
  rintro e w12 ⟨rfl, om, hgr⟩
  have HB12 : Below w.heap.size w w12 := HB11.grown hgr HB11.size (fun k hk => by have := L1 k hk; omega)
  have X12 := X11.grow hgr (fun h => by have := L1 _ h.symm; omega)
  have o012 := own_far o011 hgr (fun k hk h => by have := L0 k hk; have := L1 k h.symm; omega)
  clear hgr HB11 X11 o011 o111
  go_wp2_with fail
  refine (c32n _ n _ 1 _ om hn6 (by omega) (by omega)).mono ?_
  rintro e w13 ⟨rfl, hw⟩
  subst hw
  obtain ⟨b0, b1, b2⟩ := id X12
  have hpos2 : ¬ (1 + (n : Int) < 0) := by omega
  go_wp2_with fail
  clear b0 b1 b2
  refine (CM _).mono ?_
  rintro e w14 ⟨rfl, hb⟩
  have HB14 := btrans HB12 hb
  have o014 := own_keep o012 hb
  have om14 := own_keep om hb
  clear hb HB12 X12 o012 om
  go_wp2_with fail
  refine (c29 a cap zs _ (hz.below HB14) hl).mono ?_
  rintro e w15 ⟨g15, rfl, oz, hg, hb⟩
  clear hg
  have HB15 := btrans HB14 hb
  have o015 := own_keep o014 hb
  have om15 := own_keep om14 hb
  clear hb HB14 o014 om14
  go_wp2_with fail
  refine (CI _ _ _ (Ints.of_owns oz)).mono ?_
  rintro e w16 ⟨v2, rfl, o2, hb⟩
  have HB16 := btrans HB15 hb
  have o016 := own_keep o015 hb
  have om16 := own_keep om15 hb
  clear hb HB15 o015 om15 oz CI CM
  go_wp2_with fail
  refine (c30n _ _ n _ _ L _ hLn o2 o016 hnm).mono ?_
  rintro e w17 ⟨rfl, q17, hw⟩
  have hb : Below w16.heap.size w16 w17 := by rw [hw]; exact bdraw (Below.refl _ _) _
  have HB17 := btrans HB16 hb
  have om17 := own_keep om16 hb
  clear hb hw HB16 o016 om16 o2
  go_wp2_with fail
  refine (c32n _ n _ 1 _ om17 hn6 (by omega) (by omega)).mono ?_
  rintro e w18 ⟨rfl, hw⟩
  subst hw
  go_wp2
  go_ret
  exact ⟨rfl, HB17⟩
end Go.Proofs.Ytnhcmjfmfgoakaa
