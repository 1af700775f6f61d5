/- Right wagons and trains, and inversions, of program and model. -/
import Derived.Test.YtjbecnflpfjicaaGreats18M
import Derived.Deep.RegionHeld3
namespace Go.Proofs.YtjbecnflpfjicaaGreat.s18
open Go.RowKit
theorem all_drop {α : Type} {P : α → Bool} {zs : List α} {k : Nat} (hk : k < zs.length) : (zs.drop k).all P = (P zs[k] && (zs.drop (k + 1)).all P) := by
  rw [List.drop_eq_getElem_cons hk, List.all_cons]

set_option maxHeartbeats 400000 in
theorem cWag (x : Int) (w : World) : Calls Tryz.prog 69 #[.int .i64 x] w fun e w' => e = .returned (.bool (wagB x)) ∧ w' = w := by
  go_enter Tryz.func69, Tryz.ntmps69
  go_wp2_with fail
  refine (cWithin x 1 9999 _).mono ?_
  rintro e w1 ⟨rfl, hw⟩
  subst w1
  go_wp2
  go_ret
  exact ⟨rfl, rfl⟩

set_option maxHeartbeats 800000 in
theorem cAllWag (a : Option Addr) (cap : Nat) (zs : List Int) (w : World) (hz : Ints w a zs) (hl : zs.length ≤ 1048576) :
    Calls Tryz.prog 68 #[.slice a zs.length cap, .func (.func 69) #[] #[]] w fun e w' => e = .returned (.bool (zs.all wagB)) ∧ w' = w := by
  generalize hr : zs.all wagB = res
  have hr0 : Hid ((zs.drop 0).all wagB = res) := hr
  clear hr
  go_enter Tryz.func68, Tryz.ntmps68
  go_wp2
  go_loop [9] (fun i => ∃ k : Nat, k ≤ zs.length ∧ i = .int .i64 k ∧ Hid ((zs.drop k).all wagB = res)) (fun i => zs.length - (intOf i).toNat)
  case atStart => exact ⟨0, Nat.zero_le _, rfl, hr0⟩
  case round =>
    obtain ⟨k, hk, rfl, hres⟩ := hrel
    clear hr0
    by_cases hlt : k < zs.length
    · rcases hz with h | ⟨bb, off, rfl, hc⟩
      · simp [h] at hlt
      have q0 := hc k hlt
      have e0 : zs.getD k 0 = zs[k] := by simp [List.getD, hlt]
      rw [e0] at q0
      have hd := hide ((all_drop (P := wagB) hlt).symm.trans hres.out)
      generalize zs[k] = y at *
      clear hc e0 hres
      go_wp2_with fail
      refine (cWag y _).mono ?_
      rintro e w1 ⟨rfl, hw⟩
      subst w1
      cases hy : wagB y
      · have hf := hide (show res = false by rw [← hd.out, hy]; rfl)
        clear hd hy
        go_wp2
        go_ret
        exact ⟨ret_bool hf.out.symm, rfl⟩
      · have hf := hide (show (zs.drop (k + 1)).all wagB = res by rw [← hd.out, hy]; rfl)
        clear hd hy
        go_wp2
        go_round
        case rel => exact ⟨k + 1, by omega, by go_num, hf⟩
        case measure => simp [intOf]; omega
    · obtain rfl : k = zs.length := by omega
      have hf := hide (show res = true by rw [← hres.out, List.drop_length]; rfl)
      clear hz
      go_wp2
      go_ret
      exact ⟨ret_bool hf.out.symm, rfl⟩

/-! Inversions. -/
def invV (zs : List Int) : Int := if trainB zs = true then (inv zs : Int) else -1
theorem inv_drop {zs : List Int} {k : Nat} (hk : k < zs.length) : inv (zs.drop k) = (zs.drop (k + 1)).countP (fun y => decide (y < zs[k])) + inv (zs.drop (k + 1)) := by
  rw [List.drop_eq_getElem_cons hk, inv]
theorem countP_drop {P : Int → Bool} {zs : List Int} {j : Nat} (hj : j < zs.length) : (zs.drop j).countP P = (if P zs[j] = true then 1 else 0) + (zs.drop (j + 1)).countP P := by
  rw [List.drop_eq_getElem_cons hj, List.countP_cons]; omega
theorem countP_take {P : Int → Bool} {zs : List Int} {j : Nat} (hj : j < zs.length) : (zs.take (j + 1)).countP P = (zs.take j).countP P + (if P zs[j] = true then 1 else 0) := by
  rw [List.take_succ_eq_append_getElem hj, List.countP_append, List.countP_cons]; simp
theorem inv_take {zs : List Int} {k : Nat} (hk : k < zs.length) : inv (zs.take (k + 1)) = inv (zs.take k) + (zs.take k).countP (fun y => decide (zs[k] < y)) := by
  rw [List.take_succ_eq_append_getElem hk, inv_snoc]
theorem inv_take_le {zs : List Int} (h : zs.length ≤ 40) (k : Nat) : inv (zs.take k) ≤ 1600 := inv_le40 (by rw [List.length_take]; omega)
theorem inv_drop_le {zs : List Int} (h : zs.length ≤ 40) (k : Nat) : inv (zs.drop k) ≤ 1600 := inv_le40 (by rw [List.length_drop]; omega)

end Go.Proofs.YtjbecnflpfjicaaGreat.s18
