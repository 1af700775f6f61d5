/- The walk of the law on Ease. -/
import Derived.Test.YtnhcmjfmfgoakaaP
import Derived.Test.YtnhcmjfmfgoakaaT
namespace Go.Proofs.Ytnhcmjfmfgoakaa
open Go.RowKit

set_option maxRecDepth 20000 in
set_option maxHeartbeats 3200000 in
theorem walk14 (a : Option Addr) (cap : Nat) (m : MotorV) (zs : List Int) (x : Int) (w : World) (hz : Ints w a zs) (hm : zs.length ≤ maxLen) :
    Calls Try.prog 14 #[m.val, .slice a zs.length cap, .int .i64 x] w fun e w' => e = .returned (.bool true) ∧ Below w.heap.size w w' := by
  have hm' : zs.length ≤ 9223372036854775807 := by unfold maxLen at hm; omega
  by_cases hl2 : 1048576 < zs.length
  · obtain ⟨u, d, t⟩ := m
    unfold MotorV.val
    have hW := balloc w (.cells #[.int .i64 u, .int .i64 d, .int .i64 t] 35)
    go_enter Try.func14, Try.ntmps14
    go_wp2
    go_ret
    exact ⟨rfl, hW⟩
  have hl : zs.length ≤ 1048576 := by omega
  have CS := fun a cap w hz => c39 a cap m zs x w hz hl
  have CI := fun a cap w hz => c24 a cap m zs x w hz hl
  have CM := c27 m
  generalize easeT m zs x = A at *
  have hX0 := Bx3.new w (.int .i64 m.u) (.int .i64 m.d) (.int .i64 m.t) 35
  have HB0 := balloc w (.cells #[.int .i64 m.u, .int .i64 m.d, .int .i64 m.t] 35)
  obtain ⟨u, d, t⟩ := m
  unfold MotorV.val at *
  go_enter Try.func14, Try.ntmps14
  go_wp2_with fail
  refine (CM _).mono ?_
  rintro e w1 ⟨rfl, hb⟩
  have HB1 := btrans HB0 hb
  have X1 := hX0.below hb
  clear hb HB0 hX0
  go_wp2_with fail
  refine (c29 a cap zs _ (hz.below HB1) hl).mono ?_
  rintro e w2 ⟨g1, rfl, oz, hg, hb⟩
  clear hg
  have HB2 := btrans HB1 hb
  have X2 := X1.below hb
  clear hb HB1 X1
  go_wp2_with fail
  refine (CS _ _ _ (Ints.of_owns oz)).mono ?_
  rintro e w3 ⟨rfl, hb⟩
  have HB3 := btrans HB2 hb
  have X3 := X2.below hb
  clear hb HB2 X2 oz CS
  go_wp2_with fail
  refine (c29 a cap zs _ (hz.below HB3) hl).mono ?_
  rintro e w4 ⟨g, rfl, ox, hg, hb⟩
  clear hg
  have HB4 := btrans HB3 hb
  have X4 := X3.below hb
  clear hb HB3 X3
  obtain ⟨b0, b1, b2⟩ := id X4
  go_wp2_with fail
  clear b0 b1 b2
  refine (CM _).mono ?_
  rintro e w5 ⟨rfl, hb⟩
  have HB5 := btrans HB4 hb
  have ox5 := own_keep ox hb
  clear hb HB4 X4 ox
  go_wp2_with fail
  refine (CI _ _ _ (Ints.of_owns ox5)).mono ?_
  rintro e w6 ⟨rfl, hb⟩
  have HB6 := btrans HB5 hb
  have ox6 := own_keep ox5 hb
  clear hb HB5 ox5
  go_wp2_with fail
  refine (c29 a cap zs _ (hz.below HB6) hl).mono ?_
  rintro e w8 ⟨g8, rfl, oy, hg, hb⟩
  clear hg
  have HB8 := btrans HB6 hb
  have ox8 := own_keep ox6 hb
  clear hb HB6 ox6
  go_wp2_with fail
  refine (c30n _ _ zs.length _ _ zs _ rfl ox8 oy hm).mono ?_
  rintro e w9 ⟨rfl, q9, hw⟩
  have hb : Below w8.heap.size w8 w9 := by rw [hw]; exact bdraw (Below.refl _ _) _
  have HB9 := btrans HB8 hb
  clear hb hw HB8 ox8 oy
  go_wp2
  go_ret
  exact ⟨rfl, HB9⟩
end Go.Proofs.Ytnhcmjfmfgoakaa
