/- The model's first clash. -/
import Derived.Test.YtbghfihlpbcomaaGreatMD
import Derived.Test.YtbghfihlpbcomaaGreatWU
import Derived.Deep.RegionHeld3
namespace Go.Proofs.YtbghfihlpbcomaaGreat
open Go.RowKit
def AnsFirst (w : World) (us : List RideV) (h : Int) (e : Ending) (w' : World) : Prop := ∃ x y, e = .returned (.tuple #[.int .i64 x, .int .i64 y]) ∧ FirstAns us h x y ∧ Below w.heap.size w w'

set_option maxRecDepth 20000 in
set_option maxHeartbeats 6400000 in
theorem cFirstS (a : Option Addr) (cap : Nat) (us : List RideV) (h : Int) (w : World) (hz : Rides w a us) (hl : us.length ≤ 1048576) :
    Calls Tryz.prog 81 #[.slice a us.length cap, .int .i64 h] w (AnsFirst w us h) := by
  by_cases h300 : 300 < us.length
  · have h300' : (300 : Int) < (us.length : Int) := by omega
    have hA : Hid (FirstAns us h (-1) (-1)) := hide (.inl ⟨.inl h300, rfl, rfl⟩)
    go_enter Tryz.func81, Tryz.ntmps81
    go_wp2_with (go_at_call 61; refine (cIn _ _ _ _).mono ?_; rintro e w2 ⟨rfl, hw⟩; subst w2)
    go_ret2
    exact ⟨_, _, rfl, hA.out, Below.refl _ _⟩
  have h300' : ¬ (300 : Int) < (us.length : Int) := by omega
  cases hh : inB h 0 60
  · have hA : Hid (FirstAns us h (-1) (-1)) := hide (.inl ⟨.inr hh, rfl, rfl⟩)
    go_enter Tryz.func81, Tryz.ntmps81
    go_wp2_with (go_at_call 61; refine (cIn _ _ _ _).mono ?_; rintro e w2 ⟨rfl, hw⟩; subst w2)
    go_ret2
    exact ⟨_, _, rfl, hA.out, Below.refl _ _⟩
  go_enter Tryz.func81, Tryz.ntmps81
  go_wp2_with (go_at_call 61; refine (cIn _ _ _ _).mono ?_; rintro e w2 ⟨rfl, hw⟩; subst w2)
  replace hh := hide hh
  go_loopw [6, 7] (fun i _ wr => ∃ k : Nat, k ≤ us.length ∧ i = .int .i64 k ∧ Hid (∀ i j, i < k → ¬ Hits us h i j) ∧ Below w.heap.size w wr) (fun i _ _ => us.length - (intOf i).toNat)
  case atStart => exact ⟨0, Nat.zero_le _, rfl, hide (fun i j h => by omega), Below.refl _ _⟩
  case round =>
    obtain ⟨k, hk, rfl, hN, hb⟩ := hrel
    by_cases hlt : k < us.length
    · have hlt' : (k : Int) < (us.length : Int) := by omega
      have hw1 : IntKind.i64.wrap ((k : Int) + 1) = (k : Int) + 1 := wrap_in _ (by omega) (by omega)
      have hk0 : (0 : Int) ≤ (k : Int) := by omega
      go_wp2
      obtain ⟨wo, rfl⟩ : ∃ wo, wo = wr := ⟨wr, rfl⟩
      go_loopw [7] (fun i wr => ∃ j : Nat, j ≤ us.length ∧ k < j ∧ i = .int .i64 (j : Int) ∧ Hid (∀ q, q < j → ¬ Hits us h k q) ∧ Below w.heap.size w wr) (fun i _ => us.length - (intOf i).toNat)
      case atStart => exact ⟨k + 1, by omega, by omega, by go_num, hide (fun q h1 h2 => by have := h2.1; omega), hb⟩
      case round =>
        obtain ⟨j, hj, hkj, rfl, hM, hb⟩ := hrel
        have hj0 : (0 : Int) ≤ (j : Int) := by omega
        by_cases hjl : j < us.length
        · have hjl' : (j : Int) < (us.length : Int) := by omega
          have hw2 : IntKind.i64.wrap ((j : Int) + 1) = (j : Int) + 1 := wrap_in _ (by omega) (by omega)
          rcases hz with hz | ⟨b, off, rfl, hc⟩
          · simp [hz] at hlt
          obtain ⟨p0, p1, p2, p3, p4⟩ := hc k hlt
          obtain ⟨q0, q1, q2, q3, q4⟩ := hc j hjl
          replace p0 := ble hb p0
          replace p1 := ble hb p1
          replace p2 := ble hb p2
          replace p3 := ble hb p3
          replace p4 := ble hb p4
          replace q0 := ble hb q0
          replace q1 := ble hb q1
          replace q2 := ble hb q2
          replace q3 := ble hb q3
          replace q4 := ble hb q4
          have hY : Hid ((rdA us k).p ≠ (rdA us j).p → clashB (rdA us k) (rdA us j) h = true → FirstAns us h k j) := hide (fun h1 h2 => .inr ⟨by omega, hh.out, .inr ⟨k, j, rfl, rfl, ⟨hkj, hjl, h1, h2⟩, fun i' j' g1 g2 => by
            rcases g2 with g2 | ⟨g2, g3⟩
            · exact hN.out i' j' (by omega) g1
            · have e : i' = k := by omega
              subst e
              exact hM.out j' (by omega) g1⟩⟩)
          have hX : Hid (¬ ((rdA us k).p ≠ (rdA us j).p ∧ clashB (rdA us k) (rdA us j) h = true) → ∀ q, q < j + 1 → ¬ Hits us h k q) := hide (fun h1 q h2 h3 => by
            by_cases e : q = j
            · subst e; exact h1 ⟨h3.2.2.1, h3.2.2.2⟩
            · exact hM.out q (by omega) h3)
          change Hid ((us.getD k RideV.zero).p ≠ (us.getD j RideV.zero).p → clashB (us.getD k RideV.zero) (us.getD j RideV.zero) h = true → FirstAns us h k j) at hY
          change Hid (¬ ((us.getD k RideV.zero).p ≠ (us.getD j RideV.zero).p ∧ clashB (us.getD k RideV.zero) (us.getD j RideV.zero) h = true) → ∀ q, q < j + 1 → ¬ Hits us h k q) at hX
          have CC := fun V => cClashS (us.getD k RideV.zero) (us.getD j RideV.zero) h V
          unfold RideV.val at CC
          generalize us.getD k RideV.zero = x at *
          generalize us.getD j RideV.zero = y at *
          obtain ⟨xe, xd, xf, xt, xp⟩ := x
          obtain ⟨ye, yd, yf, yt, yp⟩ := y
          dsimp only at *
          clear hc hM
          by_cases hp : xp = yp
          · have hX2 := hide (hX.out (fun h => h.1 hp))
            subst hp
            clear hX hY CC
            go_wp2_with fail
            go_quiet (fail)
            go_wp2
            go_roundw
            case rel => exact ⟨j + 1, by omega, by omega, by go_num, hX2, bdraw hb _⟩
            case measure => simp [intOf]; omega
          have hne : (xp != yp) = true := by simpa using hp
          cases hq : clashB ⟨xe, xd, xf, xt, xp⟩ ⟨ye, yd, yf, yt, yp⟩ h
          · have hX2 := hide (hX.out (fun h => by rw [hq] at h; cases h.2))
            rw [hq] at CC
            clear hX hY hq
            go_wp2_with fail
            go_region_held3 (fun w' => w'.cell? ⟨b, off + k * 5, none⟩ = some (.int .i64 xe) ∧ w'.cell? ⟨b, off + k * 5 + 1, none⟩ = some (.int .i64 xd) ∧ w'.cell? ⟨b, off + k * 5 + 2, none⟩ = some (.int .i64 xf) ∧ w'.cell? ⟨b, off + k * 5 + 3, none⟩ = some (.int .i64 xt) ∧ w'.cell? ⟨b, off + k * 5 + 4, none⟩ = some (.int .i64 xp) ∧ w'.cell? ⟨b, off + j * 5, none⟩ = some (.int .i64 ye) ∧ w'.cell? ⟨b, off + j * 5 + 1, none⟩ = some (.int .i64 yd) ∧ w'.cell? ⟨b, off + j * 5 + 2, none⟩ = some (.int .i64 yf) ∧ w'.cell? ⟨b, off + j * 5 + 3, none⟩ = some (.int .i64 yt) ∧ w'.cell? ⟨b, off + j * 5 + 4, none⟩ = some (.int .i64 yp)) (go_keep) (
              (go_at_call 97; with_reducible refine (CC _).mono ?_; rintro e wb ⟨rfl, hbb⟩; have Bb := undrew hbb; clear hbb; have v0 := ble Bb p0; have v1 := ble Bb p1; have v2 := ble Bb p2; have v3 := ble Bb p3; have v4 := ble Bb p4; have v5 := ble Bb q0; have v6 := ble Bb q1; have v7 := ble Bb q2; have v8 := ble Bb q3; have v9 := ble Bb q4))
            have hb2 := btrans hb Bb
            go_wp2
            go_roundw
            case rel => exact ⟨j + 1, by omega, by omega, by go_num, hX2, hb2⟩
            case measure => simp [intOf]; omega
          · have hA := hide (hY.out hp hq)
            rw [hq] at CC
            clear hX hY hq
            go_wp2_with fail
            go_region_held3 (fun w' => w'.cell? ⟨b, off + k * 5, none⟩ = some (.int .i64 xe) ∧ w'.cell? ⟨b, off + k * 5 + 1, none⟩ = some (.int .i64 xd) ∧ w'.cell? ⟨b, off + k * 5 + 2, none⟩ = some (.int .i64 xf) ∧ w'.cell? ⟨b, off + k * 5 + 3, none⟩ = some (.int .i64 xt) ∧ w'.cell? ⟨b, off + k * 5 + 4, none⟩ = some (.int .i64 xp) ∧ w'.cell? ⟨b, off + j * 5, none⟩ = some (.int .i64 ye) ∧ w'.cell? ⟨b, off + j * 5 + 1, none⟩ = some (.int .i64 yd) ∧ w'.cell? ⟨b, off + j * 5 + 2, none⟩ = some (.int .i64 yf) ∧ w'.cell? ⟨b, off + j * 5 + 3, none⟩ = some (.int .i64 yt) ∧ w'.cell? ⟨b, off + j * 5 + 4, none⟩ = some (.int .i64 yp)) (go_keep) (
              (go_at_call 97; with_reducible refine (CC _).mono ?_; rintro e wb ⟨rfl, hbb⟩; have Bb := undrew hbb; clear hbb; have v0 := ble Bb p0; have v1 := ble Bb p1; have v2 := ble Bb p2; have v3 := ble Bb p3; have v4 := ble Bb p4; have v5 := ble Bb q0; have v6 := ble Bb q1; have v7 := ble Bb q2; have v8 := ble Bb q3; have v9 := ble Bb q4))
            have hb2 := btrans hb Bb
            go_wp2
            go_ret2
            exact ⟨_, _, rfl, hA.out, hb2⟩
        · have hjl' : ¬ ((j : Int) < (us.length : Int)) := by omega
          have hN2 : Hid (∀ i j, i < k + 1 → ¬ Hits us h i j) := hide (fun i q h1 h2 => by
            by_cases e : i = k
            · subst e; exact hM.out q (by have := h2.2.1; omega) h2
            · exact hN.out i q (by omega) h2)
          clear hM hN
          go_wp2
          go_roundw
          case rel => exact ⟨k + 1, by omega, by go_num, hN2, hb⟩
          case measure => simp [intOf]; omega
    · have hlt' : ¬ ((k : Int) < (us.length : Int)) := by omega
      obtain rfl : k = us.length := by omega
      have hA : Hid (FirstAns us h (-1) (-1)) := hide (.inr ⟨by omega, hh.out, .inl ⟨rfl, rfl, fun i j h1 => hN.out i j (by have := h1.1; have := h1.2.1; omega) h1⟩⟩)
      clear hN
      go_wp2
      go_ret2
      exact ⟨_, _, rfl, hA.out, hb⟩
end Go.Proofs.YtbghfihlpbcomaaGreat
