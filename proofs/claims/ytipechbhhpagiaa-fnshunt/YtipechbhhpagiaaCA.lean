/- Right wagons and trains, and inversions, of program and model. -/
import Derived.Test.YtipechbhhpagiaaMH
import Derived.Deep.RegionHeld3
namespace Go.Proofs.Ytipechbhhpagiaa
open Go.RowKit
theorem all_drop {α : Type} {P : α → Bool} {zs : List α} {k : Nat} (hk : k < zs.length) : (zs.drop k).all P = (P zs[k] && (zs.drop (k + 1)).all P) := by
  rw [List.drop_eq_getElem_cons hk, List.all_cons]

set_option maxHeartbeats 400000 in
theorem cWag (x : Int) (w : World) : Calls Try.prog 81 #[.int .i64 x] w fun e w' => e = .returned (.bool (wagB x)) ∧ w' = w := by
  go_enter Try.func81, Try.ntmps81
  go_wp2_with fail
  refine (cWithin x 1 9999 _).mono ?_
  rintro e w1 ⟨rfl, hw⟩
  subst w1
  go_wp2
  go_ret
  exact ⟨rfl, rfl⟩

set_option maxHeartbeats 400000 in
theorem cBase (x : Int) (w : World) : Calls Try.prog 62 #[.int .i64 x] w fun e w' => e = .returned (.bool (inB x 2 10)) ∧ w' = w := by
  go_enter Try.func62, Try.ntmps62
  go_wp2_with fail
  refine (cWithin x 2 10 _).mono ?_
  rintro e w1 ⟨rfl, hw⟩
  subst w1
  go_wp2
  go_ret
  exact ⟨rfl, rfl⟩

set_option maxHeartbeats 800000 in
theorem cAllWag (a : Option Addr) (cap : Nat) (zs : List Int) (w : World) (hz : Ints w a zs) (hl : zs.length ≤ 1048576) :
    Calls Try.prog 80 #[.slice a zs.length cap, .func (.func 81) #[] #[]] w fun e w' => e = .returned (.bool (zs.all wagB)) ∧ w' = w := by
  generalize hr : zs.all wagB = res
  have hr0 : Hid ((zs.drop 0).all wagB = res) := hr
  clear hr
  go_enter Try.func80, Try.ntmps80
  go_wp2
  go_loop [9] (fun i => ∃ k : Nat, k ≤ zs.length ∧ i = .int .i64 k ∧ Hid ((zs.drop k).all wagB = res)) (fun i => zs.length - (intOf i).toNat)
  case atStart => exact ⟨0, Nat.zero_le _, rfl, hr0⟩
  case round =>
    obtain ⟨k, hk, rfl, hres⟩ := hrel
    clear hr0
    by_cases hlt : k < zs.length
    · rcases hz with h | ⟨bb, off, rfl, hc⟩
      · simp [h] at hlt
      have q0 := hc k hlt
      have e0 : zs.getD k 0 = zs[k] := by simp [List.getD, hlt]
      rw [e0] at q0
      have hd := hide ((all_drop (P := wagB) hlt).symm.trans hres.out)
      generalize zs[k] = y at *
      clear hc e0 hres
      go_wp2_with fail
      refine (cWag y _).mono ?_
      rintro e w1 ⟨rfl, hw⟩
      subst w1
      cases hy : wagB y
      · have hf := hide (show res = false by rw [← hd.out, hy]; rfl)
        clear hd hy
        go_wp2
        go_ret
        exact ⟨ret_bool hf.out.symm, rfl⟩
      · have hf := hide (show (zs.drop (k + 1)).all wagB = res by rw [← hd.out, hy]; rfl)
        clear hd hy
        go_wp2
        go_round
        case rel => exact ⟨k + 1, by omega, by go_num, hf⟩
        case measure => simp [intOf]; omega
    · obtain rfl : k = zs.length := by omega
      have hf := hide (show res = true by rw [← hres.out, List.drop_length]; rfl)
      clear hz
      go_wp2
      go_ret
      exact ⟨ret_bool hf.out.symm, rfl⟩

set_option maxHeartbeats 800000 in
theorem cTrainI (a : Option Addr) (cap : Nat) (zs : List Int) (w : World) (hz : Ints w a zs) (hl : zs.length ≤ 1048576) :
    Calls Try.prog 61 #[.slice a zs.length cap] w fun e w' => e = .returned (.bool (trainB zs)) ∧ w' = w := by
  by_cases h : zs.length ≤ 40
  · have R := hide (show trainB zs = zs.all wagB by simp [trainB, h])
    go_enter Try.func61, Try.ntmps61
    go_wp2_with (go_at_call 80; refine (cAllWag a cap zs _ hz hl).mono ?_; rintro e w' ⟨rfl, rfl⟩)
    go_ret
    exact ⟨ret_bool R.out.symm, rfl⟩
  · have R := hide (show trainB zs = false by simp [trainB, h])
    have h' : 40 < zs.length := by omega
    go_enter Try.func61, Try.ntmps61
    go_wp2
    go_ret
    exact ⟨ret_bool R.out.symm, rfl⟩

set_option maxHeartbeats 800000 in
theorem cTrainS (a : Option Addr) (cap : Nat) (zs : List Int) (w : World) (hz : Ints w a zs) (hl : zs.length ≤ 1048576) :
    Calls Try.prog 65 #[.slice a zs.length cap] w fun e w' => e = .returned (.bool (trainB zs)) ∧ w' = w := by
  go_enter Try.func65, Try.ntmps65
  go_wp2
  go_loop [3] (fun i => ∃ k : Nat, k ≤ zs.length ∧ i = .int .i64 k ∧ Hid ((zs.drop k).all wagB = zs.all wagB)) (fun i => zs.length - (intOf i).toNat)
  case atStart => exact ⟨0, Nat.zero_le _, rfl, hide rfl⟩
  case round =>
    obtain ⟨k, hk, rfl, hres⟩ := hrel
    by_cases hlt : k < zs.length
    · rcases hz with h | ⟨bb, off, rfl, hc⟩
      · simp [h] at hlt
      have q0 := hc k hlt
      have e0 : zs.getD k 0 = zs[k] := by simp [List.getD, hlt]
      rw [e0] at q0
      have hd := hide ((all_drop (P := wagB) hlt).symm.trans hres.out)
      generalize zs[k] = y at *
      clear hc e0 hres
      cases hy : inB y 1 9999
      · have hf := hide (show trainB zs = false by simp only [trainB]; rw [← hd.out, show wagB y = false from hy]; simp)
        clear hd
        go_wp2_with (go_at_call 68; refine (cIn _ _ _ _).mono ?_; rintro e w' ⟨rfl, rfl⟩)
        go_ret
        exact ⟨ret_bool hf.out.symm, rfl⟩
      · have hf := hide (show (zs.drop (k + 1)).all wagB = zs.all wagB by rw [← hd.out, show wagB y = true from hy]; rfl)
        clear hd
        go_wp2_with (go_at_call 68; refine (cIn _ _ _ _).mono ?_; rintro e w' ⟨rfl, rfl⟩)
        go_round
        case rel => exact ⟨k + 1, by omega, by go_num, hf⟩
        case measure => simp [intOf]; omega
    · obtain rfl : k = zs.length := by omega
      have hf := hide (show zs.all wagB = true by rw [← hres.out, List.drop_length]; rfl)
      clear hz hres
      have R := hide (show decide ((zs.length : Int) ≤ 40) = trainB zs by
        simp only [trainB, hf.out, Bool.and_true]
        by_cases h : zs.length ≤ 40
        · simp [h]; omega
        · simp [h]; omega)
      go_wp2
      go_ret
      exact ⟨ret_bool R.out, rfl⟩

/-! Inversions. -/
def invV (zs : List Int) : Int := if trainB zs = true then (inv zs : Int) else -1
theorem inv_drop {zs : List Int} {k : Nat} (hk : k < zs.length) : inv (zs.drop k) = (zs.drop (k + 1)).countP (fun y => decide (y < zs[k])) + inv (zs.drop (k + 1)) := by
  rw [List.drop_eq_getElem_cons hk, inv]
theorem countP_drop {P : Int → Bool} {zs : List Int} {j : Nat} (hj : j < zs.length) : (zs.drop j).countP P = (if P zs[j] = true then 1 else 0) + (zs.drop (j + 1)).countP P := by
  rw [List.drop_eq_getElem_cons hj, List.countP_cons]; omega
theorem countP_take {P : Int → Bool} {zs : List Int} {j : Nat} (hj : j < zs.length) : (zs.take (j + 1)).countP P = (zs.take j).countP P + (if P zs[j] = true then 1 else 0) := by
  rw [List.take_succ_eq_append_getElem hj, List.countP_append, List.countP_cons]; simp
theorem inv_take {zs : List Int} {k : Nat} (hk : k < zs.length) : inv (zs.take (k + 1)) = inv (zs.take k) + (zs.take k).countP (fun y => decide (zs[k] < y)) := by
  rw [List.take_succ_eq_append_getElem hk, inv_snoc]
theorem inv_take_le {zs : List Int} (h : zs.length ≤ 40) (k : Nat) : inv (zs.take k) ≤ 1600 := inv_le40 (by rw [List.length_take]; omega)
theorem inv_drop_le {zs : List Int} (h : zs.length ≤ 40) (k : Nat) : inv (zs.drop k) ≤ 1600 := inv_le40 (by rw [List.length_drop]; omega)

set_option maxRecDepth 20000 in
set_option maxHeartbeats 3200000 in
theorem cInvI (a : Option Addr) (cap : Nat) (zs : List Int) (w : World) (hz : Ints w a zs) (hcap : zs.length ≤ cap) (hl : zs.length ≤ 1048576) :
    Calls Try.prog 24 #[.slice a zs.length cap] w fun e w' => e = .returned (.int .i64 (invV zs)) ∧ w' = w := by
  have CT := cTrainI a cap zs w hz hl
  cases hT : trainB zs
  · have R := hide (show invV zs = -1 by simp [invV, hT])
    rw [hT] at CT
    go_enter Try.func24, Try.ntmps24
    go_wp2_with fail
    refine CT.mono ?_
    rintro e w1 ⟨rfl, hw⟩
    subst w1
    go_wp2
    go_ret
    exact ⟨ret_int R.out.symm, rfl⟩
  have R := hide (show invV zs = (inv zs : Int) by simp [invV, hT])
  have h40 := trainB_len hT
  have hI := inv_le40 h40
  rw [hT] at CT
  clear hT
  go_enter Try.func24, Try.ntmps24
  go_wp2_with fail
  refine CT.mono ?_
  rintro e w1 ⟨rfl, hw⟩
  subst w1
  clear CT
  go_wp2
  go_loop [3, 4, 5, 7, 13] (fun n _ _ _ i => ∃ k c : Nat, k ≤ zs.length ∧ i = .int .i64 k ∧ n = .int .i64 c ∧ Hid (c + inv (zs.drop k) = inv zs)) (fun _ _ _ _ i => zs.length - (intOf i).toNat)
  case atStart => exact ⟨0, 0, Nat.zero_le _, rfl, rfl, hide (by simp)⟩
  case round =>
    obtain ⟨k, c, hk, rfl, rfl, hres⟩ := hrel
    by_cases hlt : k < zs.length
    · rcases hz with h | ⟨bb, off, rfl, hc⟩
      · simp [h] at hlt
      have q0 := hc k hlt
      have e0 : zs.getD k 0 = zs[k] := by simp [List.getD, hlt]
      rw [e0] at q0
      have hd := hide (show c + ((zs.drop (k + 1)).countP (fun y => decide (y < zs[k])) + inv (zs.drop (k + 1))) = inv zs by rw [← inv_drop hlt]; exact hres.out)
      have hcx : Hid (∀ i, i < zs.length → w.cell? ⟨bb, off + i, none⟩ = some (Value.int .i64 (zs.getD i 0))) := hide hc
      generalize zs[k] = y at *
      have hcc : c ≤ 1600 := by have := hres.out; omega
      have hk1 : Hid ((k : Int) + 1 ≤ (zs.length : Int)) := hide (by omega)
      clear hc e0 hres
      go_wp2
      · rename_i hca0
        have hca := hide hca0
        clear hca0
        generalize hN : zs.length - (k + 1) = N at *
        replace hN := hide hN
        go_loop [3, 7, 23] (fun n _ i => ∃ j d : Nat, j ≤ N ∧ i = .int .i64 j ∧ n = .int .i64 d ∧ Hid (d + ((zs.drop (k + 1 + j)).countP (fun x => decide (x < y)) + inv (zs.drop (k + 1))) = inv zs)) (fun _ _ i => N - (intOf i).toNat)
        case atStart => exact ⟨0, c, Nat.zero_le _, rfl, rfl, hd⟩
        case round =>
          obtain ⟨j, d, hj, rfl, rfl, hr⟩ := hrel
          by_cases hjl : j < N
          · exfalso; have := hN.out; have := hca.out; omega
          · have hf := hide (show d + inv (zs.drop (k + 1)) = inv zs by
              have h1 := hr.out
              have h2 := hN.out
              rw [List.drop_eq_nil_of_le (show zs.length ≤ k + 1 + j by omega)] at h1
              simpa using h1)
            obtain rfl : j = N := by omega
            have hd9 : d ≤ 1600 := by have := hf.out; omega
            clear hr hd q0 hN hcx
            go_wp2
            go_round
            case rel => exact ⟨_, _, _, _, .int .i64 ((k + 1 : Nat) : Int), ⟨k + 1, by omega, rfl, d, rfl, hf⟩, rfl, rfl, rfl, rfl, by go_num⟩
            case measure => simp [intOf]; omega
      · rename_i hca0
        have hca := hide hca0
        clear hca0
        generalize hN : zs.length - (k + 1) = N at *
        replace hN := hide hN
        go_loop [3, 7, 23] (fun n _ i => ∃ j d : Nat, j ≤ N ∧ i = .int .i64 j ∧ n = .int .i64 d ∧ Hid (d + ((zs.drop (k + 1 + j)).countP (fun x => decide (x < y)) + inv (zs.drop (k + 1))) = inv zs)) (fun _ _ i => N - (intOf i).toNat)
        case atStart => exact ⟨0, c, Nat.zero_le _, rfl, rfl, hd⟩
        case round =>
          obtain ⟨j, d, hj, rfl, rfl, hr⟩ := hrel
          by_cases hjl : j < N
          · have hq := hcx.out (k + 1 + j) (by have := hN.out; omega)
            have hlt2 : k + 1 + j < zs.length := by have := hN.out; omega
            have e1 : zs.getD (k + 1 + j) 0 = zs[k + 1 + j] := by simp [List.getD, hlt2]
            rw [e1] at hq
            have q1 : w.cell? ⟨bb, off + (k + 1) + j, none⟩ = some (.int .i64 zs[k + 1 + j]) := by rw [show off + (k + 1) + j = off + (k + 1 + j) by omega]; exact hq
            have hS := hide (show d + ((if decide (zs[k + 1 + j] < y) = true then 1 else 0) + (zs.drop (k + 1 + (j + 1))).countP (fun x => decide (x < y)) + inv (zs.drop (k + 1))) = inv zs by
              have h9 := countP_drop (P := fun x => decide (x < y)) hlt2
              rw [show k + 1 + (j + 1) = k + 1 + j + 1 by omega, ← h9]; exact hr.out)
            have hd9 : d ≤ 1600 := by have := hr.out; omega
            clear hq e1 hr hd q0
            generalize zs[k + 1 + j] = x at *
            by_cases hx : x < y
            · have hf := hide (show (d + 1) + ((zs.drop (k + 1 + (j + 1))).countP (fun x => decide (x < y)) + inv (zs.drop (k + 1))) = inv zs by
                have := hS.out; simp only [hx, decide_true, if_true] at this; omega)
              clear hS
              go_wp2
              go_round
              case rel => exact ⟨j + 1, d + 1, by omega, by go_num, by go_num, hf⟩
              case measure => simp [intOf]; omega
            · have hf := hide (show d + ((zs.drop (k + 1 + (j + 1))).countP (fun x => decide (x < y)) + inv (zs.drop (k + 1))) = inv zs by
                have := hS.out; simp only [hx, decide_false, Bool.false_eq_true, if_false] at this; omega)
              clear hS
              go_wp2
              go_round
              case rel => exact ⟨j + 1, d, by omega, by go_num, rfl, hf⟩
              case measure => simp [intOf]; omega
          · have hf := hide (show d + inv (zs.drop (k + 1)) = inv zs by
              have h1 := hr.out
              have h2 := hN.out
              rw [List.drop_eq_nil_of_le (show zs.length ≤ k + 1 + j by omega)] at h1
              simpa using h1)
            obtain rfl : j = N := by omega
            have hd9 : d ≤ 1600 := by have := hf.out; omega
            clear hr hd q0 hN hcx
            go_wp2
            go_round
            case rel => exact ⟨k + 1, d, by omega, by go_num, rfl, hf⟩
            case measure => simp [intOf]; omega
    · obtain rfl : k = zs.length := by omega
      have hf := hide (show (c : Int) = invV zs by rw [R.out, ← hres.out, List.drop_length]; simp [inv])
      clear hz hres R
      go_wp2
      go_ret
      exact ⟨ret_int hf.out, rfl⟩

set_option maxRecDepth 20000 in
set_option maxHeartbeats 3200000 in
theorem cInvS (a : Option Addr) (cap : Nat) (zs : List Int) (w : World) (hz : Ints w a zs) (hl : zs.length ≤ 1048576) :
    Calls Try.prog 27 #[.slice a zs.length cap] w fun e w' => e = .returned (.int .i64 (invV zs)) ∧ Below w.heap.size w w' := by
  have CT := cTrainS a cap zs w hz hl
  cases hT : trainB zs
  · have R := hide (show invV zs = -1 by simp [invV, hT])
    rw [hT] at CT
    go_enter Try.func27, Try.ntmps27
    go_wp2_with fail
    refine CT.mono ?_
    rintro e w1 ⟨rfl, hw⟩
    subst w1
    go_wp2
    go_ret
    exact ⟨ret_int R.out.symm, Below.refl _ _⟩
  have R := hide (show invV zs = (inv zs : Int) by simp [invV, hT])
  have h40 := trainB_len hT
  rw [hT] at CT
  clear hT
  go_enter Try.func27, Try.ntmps27
  go_wp2_with fail
  refine CT.mono ?_
  rintro e w1 ⟨rfl, hw⟩
  subst w1
  clear CT
  go_wp2
  go_loopw [3, 4, 5] (fun n i _ wr => ∃ k c : Nat, k ≤ zs.length ∧ i = .int .i64 k ∧ n = .int .i64 c ∧ Hid (c = inv (zs.take k)) ∧ Below w.heap.size w wr) (fun _ i _ _ => zs.length - (intOf i).toNat)
  case atStart => exact ⟨0, 0, Nat.zero_le _, rfl, rfl, hide (by simp [inv]), Below.refl _ _⟩
  case round =>
    obtain ⟨k, c, hk, rfl, rfl, hres, hb⟩ := hrel
    by_cases hlt : k < zs.length
    · rcases hz with h | ⟨bb, off, rfl, hc⟩
      · simp [h] at hlt
      have q00 := hc k hlt
      have e0 : zs.getD k 0 = zs[k] := by simp [List.getD, hlt]
      rw [e0] at q00
      have hnx := hide (inv_take hlt)
      have hcx : Hid (∀ i, i < zs.length → w.cell? ⟨bb, off + i, none⟩ = some (Value.int .i64 (zs.getD i 0))) := hide hc
      generalize zs[k] = y at *
      have hcc : c ≤ 1600 := by have := hres.out; have := inv_take_le h40 k; omega
      clear hc e0
      go_wp2
      generalize wr = wo at *
      go_loopw [3, 5] (fun n i wr => ∃ j d : Nat, j ≤ k ∧ i = .int .i64 j ∧ n = .int .i64 d ∧ Hid (d = inv (zs.take k) + (zs.take j).countP (fun x => decide (y < x))) ∧ Below w.heap.size w wr) (fun _ i _ => k - (intOf i).toNat)
      case atStart => exact ⟨0, c, Nat.zero_le _, rfl, rfl, hide (by rw [hres.out]; simp), hb⟩
      case round =>
        obtain ⟨j, d, hj, rfl, rfl, hr, hb2⟩ := hrel
        by_cases hjl : j < k
        · have hlt2 : j < zs.length := by omega
          have q1 := hcx.out j hlt2
          have e1 : zs.getD j 0 = zs[j] := by simp [List.getD, hlt2]
          rw [e1] at q1
          replace q1 := ble hb2 q1
          have q0 := ble hb2 q00
          have hS := hide (show d + (if decide (y < zs[j]) = true then 1 else 0) = inv (zs.take k) + (zs.take (j + 1)).countP (fun x => decide (y < x)) by
            have h9 := countP_take (P := fun x => decide (y < x)) hlt2
            have := hr.out; omega)
          have hd9 : d ≤ 1700 := by
            have h1 := hr.out
            have h2 := inv_take_le h40 k
            have h3 : (zs.take j).countP (fun x => decide (y < x)) ≤ (zs.take j).length := List.countP_le_length
            rw [List.length_take] at h3
            omega
          have hbd := bdraw hb2 1
          clear e1 hr
          generalize zs[j] = x at *
          have hb3 : Below w.heap.size w wr.drew := hbd
          by_cases hx : y < x
          · have hf := hide (show (d + 1) = inv (zs.take k) + (zs.take (j + 1)).countP (fun x => decide (y < x)) by
              have := hS.out; simp only [hx, decide_true, if_true] at this; omega)
            clear hS
            go_wp2
            go_region_held3 (fun w' => w'.cell? ⟨bb, off + j, none⟩ = some (.int .i64 x) ∧ w'.cell? ⟨bb, off + k, none⟩ = some (.int .i64 y)) (go_keep) (fail)
            go_wp2
            go_roundw
            case rel => exact ⟨j + 1, d + 1, by omega, by go_num, by go_num, hf, hb3⟩
            case measure => simp [intOf]; omega
          · have hf := hide (show d = inv (zs.take k) + (zs.take (j + 1)).countP (fun x => decide (y < x)) by
              have := hS.out; simp only [hx, decide_false, Bool.false_eq_true, if_false] at this; omega)
            clear hS
            go_wp2
            go_region_held3 (fun w' => w'.cell? ⟨bb, off + j, none⟩ = some (.int .i64 x) ∧ w'.cell? ⟨bb, off + k, none⟩ = some (.int .i64 y)) (go_keep) (fail)
            go_wp2
            go_roundw
            case rel => exact ⟨j + 1, d, by omega, by go_num, rfl, hf, hb3⟩
            case measure => simp [intOf]; omega
        · obtain rfl : j = k := by omega
          have hf := hide (show d = inv (zs.take (j + 1)) by rw [hr.out, hnx.out])
          clear hr hnx
          go_wp2
          go_roundw
          case rel => exact ⟨j + 1, d, by omega, by go_num, rfl, hf, hb2⟩
          case measure => simp [intOf]; omega
    · obtain rfl : k = zs.length := by omega
      have hf := hide (show (c : Int) = invV zs by rw [R.out, hres.out, List.take_length])
      clear hz hres R
      go_wp2
      go_ret
      exact ⟨ret_int hf.out, hb⟩
end Go.Proofs.Ytipechbhhpagiaa
