/- Timetables of the program. -/
import Derived.Test.YthlmaljgnhakfaaGreatDoorZ
namespace Go.Proofs.YthlmaljgnhakfaaGreatDoor
open Go.RowKit Go.Shelf Go.Lib Go.Sort

set_option maxHeartbeats 3200000 in
theorem cTableI (a : Option Addr) (cap : Nat) (ts : List TripV) (w : World) (hz : Trips w a ts) (hS : Small ts) :
    Calls Tryz.prog 8 #[.slice a ts.length cap] w (AnsIff w (Table ts)) := by
  by_cases h24 : 24 < ts.length
  · have h24' : (24 : Int) < (ts.length : Int) := by omega
    have hF : Hid (¬ Table ts) := hide (fun h => by have := h.1; omega)
    go_enter Tryz.func8, Tryz.ntmps8
    go_wp2
    go_ret
    exact AnsIff.no hF.out (Below.refl _ _)
  have h24' : ¬ ((24 : Int) < (ts.length : Int)) := by omega
  have h24n : ts.length ≤ 24 := by omega
  go_enter Tryz.func8, Tryz.ntmps8
  go_wp2_with fail
  refine (cAllTrips a cap ts _ hz hS).mono ?_
  rintro e w1 ⟨r, rfl, hr, hb⟩
  cases r
  · have hF : Hid (¬ Table ts) := hide (fun h => by have := hr.2 h.2.1; cases this)
    clear hr
    go_wp2
    go_ret
    exact AnsIff.no hF.out hb
  have hA := hide (hr.1 rfl)
  clear hr hS
  by_cases hn : 0 < ts.length
  · have hz1 := hz.below hb
    obtain ⟨b, off, -, -, rfl, -⟩ := hz1.at hn
    have hc : ∀ i, i < ts.length → w1.cell? ⟨b, off + i * 2, none⟩ = some (.string (nmA ts i)) := fun i hi => by
      obtain ⟨b', off', n', c', hE, d1, -⟩ := hz1.at hi
      simp only [Option.some.injEq, Addr.mk.injEq] at hE
      obtain ⟨rfl, rfl, -⟩ := hE
      exact d1
    have hbl : b < w1.heap.size := cell_lt (hc 0 hn)
    have CO := cInOrder b off cap ts.length (nmA ts) w1 hn h24n hc
    replace hc := hide hc
    go_wp2_with fail
    refine CO.mono ?_
    rintro e w2 ⟨g, c, d, rfl, O, hb2⟩
    have HB := btrans hb hb2
    clear CO
    go_wp2
    go_loopw [4] (fun i wr => ∃ k : Nat, 1 ≤ k ∧ k ≤ ts.length ∧ i = .int .i64 k ∧ Hid (∀ i, i + 1 < k → nmA ts (d.getD (i + 1) 0) ≠ nmA ts (d.getD i 0)) ∧ Below w2.heap.size w2 wr) (fun i _ => ts.length - (intOf i).toNat)
    case atStart => exact ⟨1, Nat.le_refl _, hn, rfl, hide (fun i h => by omega), Below.refl _ _⟩
    case round =>
      obtain ⟨k, hk1, hk, rfl, hI, hb3⟩ := hrel
      by_cases hlt : k < ts.length
      · have hlt' : (k : Int) < (ts.length : Int) := by omega
        obtain ⟨hl, hpl, -, -⟩ := perm_place O.perm
        have p1 := ble hb3 (O.cell k hlt)
        have p2 := ble hb3 (O.cell (k - 1) (by omega))
        have g1 : d.getD k 0 < ts.length := by rw [getD_nat (by omega)]; exact hpl k (by omega)
        have g2 : d.getD (k - 1) 0 < ts.length := by rw [getD_nat (by omega)]; exact hpl (k - 1) (by omega)
        have s1 := ble hb3 (ble hb2 (hc.out _ g1))
        have s2 := ble hb3 (ble hb2 (hc.out _ g2))
        have hk0 : (0 : Int) ≤ (k : Int) := Int.natCast_nonneg _
        have hk2 : IntKind.i64.wrap ((k : Int) - 1) = ((k - 1 : Nat) : Int) := by rw [wrap_in _ (by omega) (by omega)]; omega
        have hk3 : ((k - 1 : Nat) : Int) < (ts.length : Int) := by omega
        have hk4 : k - 1 < ts.length := by omega
        have hNo : Hid (nmA ts (d.getD k 0) = nmA ts (d.getD (k - 1) 0) → ¬ Table ts) := hide (fun h => table_not O.perm (i := k - 1) (by omega) (by rw [show k - 1 + 1 = k by omega]; exact h))
        have hGo : Hid (nmA ts (d.getD k 0) ≠ nmA ts (d.getD (k - 1) 0) → ∀ i, i + 1 < k + 1 → nmA ts (d.getD (i + 1) 0) ≠ nmA ts (d.getD i 0)) := hide (fun h i hi => by
          by_cases hik : i + 1 = k
          · subst hik; simpa using h
          · exact hI.out i (by omega))
        clear hpl hl g1 g2 hI
        generalize nmA ts (d.getD k 0) = x at *
        generalize nmA ts (d.getD (k - 1) 0) = y at *
        generalize d.getD k 0 = dk at *
        generalize d.getD (k - 1) 0 = dj at *
        generalize hj : k - 1 = j at *
        replace hj := hide hj
        by_cases hxy : x = y
        · have hF := hide (hNo.out hxy)
          subst hxy
          clear hNo hGo
          go_wp2_with fail
          go_quiet (fail)
          go_wp2
          go_ret
          exact AnsIff.no hF.out (bdraw (btrans HB hb3) _)
        · have hI2 := hide (hGo.out hxy)
          have hx2 := str_ne hxy
          clear hNo hGo
          go_wp2_with fail
          go_quiet (fail)
          go_wp2
          go_roundw
          case rel => exact ⟨k + 1, by omega, by omega, by go_num, hI2, bdraw hb3 _⟩
          case measure => simp [intOf]; omega
      · have hlt' : ¬ ((k : Int) < (ts.length : Int)) := by omega
        obtain rfl : k = ts.length := by omega
        have hF : Hid (Table ts) := hide ⟨h24n, hA.out, table_of_sorted O.perm O.sorted (fun i hi => hI.out i hi)⟩
        clear hI
        go_wp2
        go_ret
        exact AnsIff.yes hF.out (btrans HB hb3)
  · obtain rfl : ts = [] := List.length_eq_zero_iff.1 (by omega)
    have hF : Hid (Table []) := hide ⟨Nat.zero_le _, hA.out, fun i j h1 h2 => by simp at h2⟩
    have CO := cInOrder0 a cap w1
    dsimp only [List.length_nil] at *
    go_wp2_with fail
    refine CO.mono ?_
    rintro e w2 ⟨rfl, hb2⟩
    have HB := btrans hb hb2
    clear CO hA hz
    go_wp2
    go_loopw [4] (fun i wr => i = .int .i64 1 ∧ wr = w2) (fun i _ => 0)
    case atStart => exact ⟨rfl, rfl⟩
    case round =>
      obtain ⟨rfl, hw⟩ := hrel
      subst wr
      go_wp2
      go_ret
      exact AnsIff.yes hF.out HB
end Go.Proofs.YthlmaljgnhakfaaGreatDoor
