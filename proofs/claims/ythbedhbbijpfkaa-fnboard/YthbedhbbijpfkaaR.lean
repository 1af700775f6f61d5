/- Timetables: what they are; the model's, and the program's loop over all trips. -/
import Derived.Test.YthbedhbbijpfkaaQ
namespace Go.Proofs.Ythbedhbbijpfkaa
open Go.RowKit
def nmA (ts : List TripV) (i : Nat) : ByteArray := (ts.getD i TripV.zero).name
/-- A timetable: at most 24 trips, each of them right, no two with one name. -/
def Table (ts : List TripV) : Prop := ts.length ≤ 24 ∧ (∀ i, i < ts.length → tripB (ts.getD i TripV.zero) = true) ∧ ∀ i j, i < j → j < ts.length → nmA ts i ≠ nmA ts j
theorem str_ne {a b : ByteArray} (h : ¬ a = b) : (a.toList == b.toList) = false := by
  rw [ByteArray.toList_eq, ByteArray.toList_eq]
  cases hq : (a.data.toList == b.data.toList)
  · rfl
  · have e := eq_of_beq hq
    exact absurd (by obtain ⟨⟨x⟩⟩ := a; obtain ⟨⟨y⟩⟩ := b; simpa using e) h
theorem iff_no {P : Prop} (h : ¬ P) : (false = true ↔ P) := Iff.intro (fun e => absurd e (by simp)) (fun p => absurd p h)
theorem iff_yes {P : Prop} (h : P) : (true = true ↔ P) := Iff.intro (fun _ => h) (fun _ => rfl)
/-- An answer that is true just when P holds. -/
def AnsIff (w : World) (P : Prop) (e : Ending) (w' : World) : Prop := ∃ r, e = .returned (.bool r) ∧ (r = true ↔ P) ∧ Below w.heap.size w w'
theorem AnsIff.no {w w' : World} {P : Prop} (h : ¬ P) (hb : Below w.heap.size w w') : AnsIff w P (.returned (.bool false)) w' := ⟨false, rfl, iff_no h, hb⟩
theorem AnsIff.yes {w w' : World} {P : Prop} (h : P) (hb : Below w.heap.size w w') : AnsIff w P (.returned (.bool true)) w' := ⟨true, rfl, iff_yes h, hb⟩

set_option maxHeartbeats 3200000 in
theorem cTableS (a : Option Addr) (cap : Nat) (ts : List TripV) (w : World) (hz : Trips w a ts) (hS : Small ts) :
    Calls Try.prog 27 #[.slice a ts.length cap] w (AnsIff w (Table ts)) := by
  obtain ⟨hl, he⟩ := hS
  by_cases h24 : 24 < ts.length
  · have h24' : (24 : Int) < (ts.length : Int) := by omega
    go_enter Try.func27, Try.ntmps27
    go_wp2
    go_ret
    exact AnsIff.no (fun h => absurd h.1 (by omega)) (Below.refl _ _)
  have h24' : ¬ ((24 : Int) < (ts.length : Int)) := by omega
  have h24n : ts.length ≤ 24 := by omega
  go_enter Try.func27, Try.ntmps27
  go_wp2
  go_loopw [3, 4] (fun i _ wr => ∃ k : Nat, k ≤ ts.length ∧ i = .int .i64 k ∧ Hid ((∀ i, i < k → tripB (ts.getD i TripV.zero) = true) ∧ ∀ i j, i < j → j < k → nmA ts i ≠ nmA ts j) ∧ Below w.heap.size w wr) (fun i _ _ => ts.length - (intOf i).toNat)
  case atStart => exact ⟨0, Nat.zero_le _, rfl, hide ⟨fun i h => by omega, fun i j _ h => by omega⟩, Below.refl _ _⟩
  case round =>
    obtain ⟨k, hk, rfl, hI, hb⟩ := hrel
    by_cases hlt : k < ts.length
    · have hlt' : (k : Int) < (ts.length : Int) := by omega
      obtain ⟨b, off, n, cn, rfl, c1, c2, -, c3⟩ := (hz.below hb).at hlt
      have e0 : ts.getD k TripV.zero = ts[k] := by simp [List.getD, hlt]
      have hek := he ts[k] (List.getElem_mem hlt)
      rw [← e0] at hek
      have hnm : Hid ((ts.getD k TripV.zero).name = nmA ts k) := rfl
      clear e0
      have CT := fun (w1 : World) (hh : Halts w1 n (ts.getD k TripV.zero).calls) => cTripS (ts.getD k TripV.zero).name n cn (ts.getD k TripV.zero).calls w1 hh hek.2 hek.1
      have hT : Hid (tripB ⟨(ts.getD k TripV.zero).name, (ts.getD k TripV.zero).calls⟩ = tripB (ts.getD k TripV.zero)) := rfl
      generalize (ts.getD k TripV.zero).name = s at *
      generalize (ts.getD k TripV.zero).calls = cs at *
      clear hek
      go_wp2_with fail
      refine (CT _ c3).mono ?_
      rintro e w1 ⟨rfl, hb1⟩
      have HB := btrans hb hb1
      rw [hT.out]
      cases hq : tripB (ts.getD k TripV.zero)
      · have hF : Hid (¬ Table ts) := hide (fun h => by have := h.2.1 k hlt; rw [hq] at this; cases this)
        clear hI hnm hT hq
        go_wp2
        go_ret
        exact AnsIff.no hF.out (HB)
      replace hq := hide hq
      replace c1 := ble hb1 c1
      have hz1 := hz.below HB
      clear hT CT c2 c3 hb hb1
      go_wp2
      obtain ⟨wo, rfl⟩ : ∃ wo, wo = w1 := ⟨w1, rfl⟩
      go_loopw [4] (fun i wr => ∃ j : Nat, j ≤ k ∧ i = .int .i64 j ∧ Hid (∀ i, i < j → nmA ts i ≠ nmA ts k) ∧ Below wo.heap.size wo wr) (fun i _ => k - (intOf i).toNat)
      case atStart => exact ⟨0, Nat.zero_le _, rfl, hide (fun i h => by omega), Below.refl _ _⟩
      case round =>
        obtain ⟨j, hj, rfl, hJ, hb2⟩ := hrel
        by_cases hjk : j < k
        · have hjk' : (j : Int) < (k : Int) := by omega
          have hjl : j < ts.length := by omega
          have hjl' : (j : Int) < (ts.length : Int) := by omega
          obtain ⟨b', off', n', cn', hE, d1, -, -, -⟩ := (hz1.below hb2).at hjl
          simp only [Option.some.injEq, Addr.mk.injEq] at hE
          obtain ⟨rfl, rfl, -⟩ := hE
          have hnm2 : Hid ((ts.getD j TripV.zero).name = nmA ts j) := rfl
          replace c1 := ble hb2 c1
          generalize (ts.getD j TripV.zero).name = s2 at *
          by_cases hs : s2 = s
          · have hF : Hid (¬ Table ts) := hide (fun h => h.2.2 j k hjk hlt (by rw [← hnm2.out, ← hnm.out, hs]))
            clear hJ hI hnm hnm2 hq
            subst hs
            go_wp2_with fail
            go_quiet (fail)
            go_wp2
            go_ret
            exact AnsIff.no hF.out (bdraw (btrans HB hb2) _)
          · have hJ2 : Hid (∀ i, i < j + 1 → nmA ts i ≠ nmA ts k) := hide (fun i h => by
              by_cases hij : i = j
              · subst hij; rw [← hnm2.out, ← hnm.out]; exact hs
              · exact hJ.out i (by omega))
            have hs2 := str_ne hs
            clear hJ hI hnm hnm2 hq
            go_wp2_with fail
            go_quiet (fail)
            go_wp2
            go_roundw
            case rel => exact ⟨j + 1, by omega, by go_num, hJ2, bdraw hb2 _⟩
            case measure => simp [intOf]; omega
        · have hjk' : ¬ ((j : Int) < (k : Int)) := by omega
          obtain rfl : j = k := by omega
          have hI2 : Hid ((∀ i, i < j + 1 → tripB (ts.getD i TripV.zero) = true) ∧ ∀ i i2, i < i2 → i2 < j + 1 → nmA ts i ≠ nmA ts i2) := hide ⟨fun i h => by
              by_cases hij : i = j
              · subst hij; exact hq.out
              · exact hI.out.1 i (by omega), fun i i2 h1 h2 => by
              by_cases hij : i2 = j
              · subst hij; exact hJ.out i h1
              · exact hI.out.2 i i2 h1 (by omega)⟩
          clear hJ hI hnm hq
          go_wp2
          go_roundw
          case rel => exact ⟨j + 1, by omega, by go_num, hI2, btrans HB hb2⟩
          case measure => simp [intOf]; omega
    · have hlt' : ¬ ((k : Int) < (ts.length : Int)) := by omega
      obtain rfl : k = ts.length := by omega
      have hF : Hid (Table ts) := hide ⟨h24n, hI.out.1, hI.out.2⟩
      clear hI
      go_wp2
      go_ret
      exact AnsIff.yes hF.out (hb)
end Go.Proofs.Ythbedhbbijpfkaa
