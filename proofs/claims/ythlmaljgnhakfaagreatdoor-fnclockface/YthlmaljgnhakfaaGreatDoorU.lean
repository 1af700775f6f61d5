/- The order of names, and trips that are all right: the program's. -/
import Derived.Test.YthlmaljgnhakfaaGreatDoorR
import Derived.Test.YthlmaljgnhakfaaGreatDoorShelf
import Derived.Shelf.SlSortCmp.Kit1
import Derived.Sort.Statements
namespace Go.Proofs.YthlmaljgnhakfaaGreatDoor
open Go.RowKit Go.Shelf Go.Lib Go.Sort

theorem u8_tri (a b : UInt8) (h1 : ¬ a < b) (h2 : ¬ b < a) : a = b := by
  have e1 : ¬ a.toNat < b.toNat := h1
  have e2 : ¬ b.toNat < a.toNat := h2
  exact UInt8.toNat_inj.1 (by omega)
theorem u8_lt (a b : UInt8) : a < b ↔ a.toNat < b.toNat := Iff.rfl
theorem cmp_self : ∀ a : List UInt8, compareBytes a a = 0
  | [] => rfl
  | x :: a => by
    have h : ¬ x < x := by rw [u8_lt]; omega
    simp only [compareBytes, h, if_false]; exact cmp_self a
theorem cmp_zero : ∀ a b : List UInt8, compareBytes a b = 0 → a = b
  | [], [], _ => rfl
  | [], _ :: _, h => by simp [compareBytes] at h
  | _ :: _, [], h => by simp [compareBytes] at h
  | x :: a, y :: b, h => by
    simp only [compareBytes] at h
    split at h
    · simp at h
    · split at h
      · simp at h
      · rename_i h1 h2
        rw [u8_tri x y h1 h2, cmp_zero a b h]
theorem cmp_neg : ∀ a b : List UInt8, compareBytes a b < 0 ↔ 0 < compareBytes b a
  | [], [] => by simp [compareBytes]
  | [], _ :: _ => by simp [compareBytes]
  | _ :: _, [] => by simp [compareBytes]
  | x :: a, y :: b => by
    simp only [compareBytes]
    by_cases h1 : x < y
    · have h2 : ¬ y < x := by rw [u8_lt] at *; omega
      simp [h1, h2]
    · by_cases h2 : y < x
      · simp [h1, h2]
      · simp only [h1, h2, if_false]; exact cmp_neg a b
theorem cmp_trans : ∀ a b c : List UInt8, compareBytes a b < 0 → compareBytes b c < 0 → compareBytes a c < 0
  | [], [], _, h, _ => by simp [compareBytes] at h
  | [], _ :: _, [], _, h => by simp [compareBytes] at h
  | [], _ :: _, _ :: _, _, _ => by simp [compareBytes]
  | _ :: _, [], _, h, _ => by simp [compareBytes] at h
  | _ :: _, _ :: _, [], _, h => by simp [compareBytes] at h
  | x :: a, y :: b, z :: c, h, g => by
    simp only [compareBytes] at *
    by_cases h1 : x < y
    · by_cases h2 : z < y
      · have h3 : ¬ y < z := by rw [u8_lt] at *; omega
        simp [h3, h2] at g
      · have h4 : x < z := by rw [u8_lt] at *; omega
        simp [h4]
    · by_cases h2 : y < x
      · simp [h1, h2] at h
      · have e := u8_tri x y h1 h2
        subst e
        simp only [h1, if_false] at h
        by_cases h3 : x < z
        · simp [h3]
        · by_cases h4 : z < x
          · simp [h3, h4] at g
          · simp only [h3, h4, if_false] at *; exact cmp_trans a b c h g
def cmpN (nm : Nat → ByteArray) (x y : Nat) : Int := compareBytes (nm x).data.toList (nm y).data.toList
theorem cmpN_zero {nm : Nat → ByteArray} {x y : Nat} (h : cmpN nm x y = 0) : nm x = nm y := by
  have e := cmp_zero _ _ h
  generalize nm x = p at *
  generalize nm y = q at *
  obtain ⟨⟨p⟩⟩ := p; obtain ⟨⟨q⟩⟩ := q; simpa using e
theorem swoN (nm : Nat → ByteArray) : SWO (ltOf (cmpN nm)) := by
  refine ⟨fun x => ?_, fun x y z h1 h2 => ?_, fun x y z h1 h2 => ?_⟩
  · simp [ltOf, cmpN, cmp_self]
  · simp only [ltOf, decide_eq_true_eq] at *
    exact cmp_trans _ _ _ h1 h2
  · simp only [ltOf, decide_eq_false_iff_not] at *
    intro h3
    by_cases h4 : cmpN nm y x < 0
    · exact h2 (cmp_trans _ _ _ h4 h3)
    · have h5 : cmpN nm x y = 0 := by
        have := cmp_neg (nm y).data.toList (nm x).data.toList
        unfold cmpN at *; omega
      rw [show cmpN nm x z = cmpN nm y z by unfold cmpN; rw [cmpN_zero h5]] at h3
      exact h2 h3

set_option maxHeartbeats 800000 in
theorem cByName (b1 o1 b2 o2 : Nat) (s1 s2 : ByteArray) (w : World) (h1 : w.cell? ⟨b1, o1, none⟩ = some (.string s1)) (h2 : w.cell? ⟨b2, o2, none⟩ = some (.string s2)) :
    Calls Tryz.prog 20 #[.pointer (some ⟨b1, o1, none⟩), .pointer (some ⟨b2, o2, none⟩)] w fun e w' => e = .returned (.int .i64 (compareBytes s1.data.toList s2.data.toList)) ∧ ∃ q, w' = w.drewN q := by
  have hcon := fun W => Any.strings_Compare Tryz.lays106 s1 s2 W
  change ∀ W, Calls Tryz.prog 35 _ _ _ at hcon
  generalize compareBytes s1.data.toList s2.data.toList = r at *
  go_enter Tryz.func20, Tryz.ntmps20
  go_wp2_with fail
  go_quiet (first | (go_at_call 35; refine Calls.quiet_of_same (hcon _)))
  go_wp2
  go_ret
  exact ⟨rfl, _, rfl⟩

set_option maxHeartbeats 1600000 in
theorem cAllTrips (a : Option Addr) (cap : Nat) (ts : List TripV) (w : World) (hz : Trips w a ts) (hS : Small ts) :
    Calls Tryz.prog 18 #[.slice a ts.length cap, .func (.func 14) #[] #[]] w (AnsIff w (∀ i, i < ts.length → tripB (ts.getD i TripV.zero) = true)) := by
  obtain ⟨hl, he⟩ := hS
  go_enter Tryz.func18, Tryz.ntmps18
  go_wp2
  go_loopw [9] (fun i wr => ∃ k : Nat, k ≤ ts.length ∧ i = .int .i64 k ∧ Hid (∀ i, i < k → tripB (ts.getD i TripV.zero) = true) ∧ Below w.heap.size w wr) (fun i _ => ts.length - (intOf i).toNat)
  case atStart => exact ⟨0, Nat.zero_le _, rfl, hide (fun i h => by omega), Below.refl _ _⟩
  case round =>
    obtain ⟨k, hk, rfl, hI, hb⟩ := hrel
    by_cases hlt : k < ts.length
    · have hlt' : (k : Int) < (ts.length : Int) := by omega
      obtain ⟨b, off, n, cn, rfl, c1, c2, c0, c3⟩ := (hz.below hb).at hlt
      have e0 : ts.getD k TripV.zero = ts[k] := by simp [List.getD, hlt]
      have hek := he ts[k] (List.getElem_mem hlt)
      rw [← e0] at hek
      clear e0
      have CT := fun (w1 : World) (hh : Halts w1 n (ts.getD k TripV.zero).calls) => cTripI (ts.getD k TripV.zero).name n cn (ts.getD k TripV.zero).calls w1 hh hek.2 c0
      have hT : Hid (tripB ⟨(ts.getD k TripV.zero).name, (ts.getD k TripV.zero).calls⟩ = tripB (ts.getD k TripV.zero)) := rfl
      generalize (ts.getD k TripV.zero).name = s at *
      generalize (ts.getD k TripV.zero).calls = cs at *
      clear hek c0
      have hb0 := balloc wr (.cells #[.string s, .slice n cs.length cn] 26)
      replace c3 := c3.below hb0
      replace hb0 := btrans hb hb0
      go_wp2_with fail
      refine (CT _ c3).mono ?_
      rintro e w1 ⟨rfl, hb1⟩
      have HB := btrans hb0 hb1
      rw [hT.out]
      cases hq : tripB (ts.getD k TripV.zero)
      · have hF : Hid (¬ ∀ i, i < ts.length → tripB (ts.getD i TripV.zero) = true) := hide (fun h => by have := h k hlt; rw [hq] at this; cases this)
        clear hI hT hq CT
        go_wp2
        go_ret
        exact AnsIff.no hF.out HB
      have hI2 : Hid (∀ i, i < k + 1 → tripB (ts.getD i TripV.zero) = true) := hide (fun i h => by
        by_cases hij : i = k
        · subst hij; exact hq
        · exact hI.out i (by omega))
      clear hI hT hq CT
      go_wp2
      go_roundw
      case rel => exact ⟨k + 1, by omega, by go_num, hI2, HB⟩
      case measure => simp [intOf]; omega
    · have hlt' : ¬ ((k : Int) < (ts.length : Int)) := by omega
      obtain rfl : k = ts.length := by omega
      clear hz
      go_wp2
      go_ret
      exact AnsIff.yes hI.out hb
end Go.Proofs.YthlmaljgnhakfaaGreatDoor
