/- Trips that are right: the program's. -/
import Derived.Test.YthlmaljgnhakfaaGreatDoorD
namespace Go.Proofs.YthlmaljgnhakfaaGreatDoor
open Go.RowKit

set_option maxHeartbeats 1600000 in
theorem cTripI (s : ByteArray) (a : Option Addr) (cap : Nat) (cs : List HaltV) (w : World) (hz : Halts w a cs) (hl : cs.length ≤ 1048576) (hcap : cs.length ≤ cap) :
    Calls Tryz.prog 14 #[.agg #[.string s, .slice a cs.length cap]] w fun e w' => e = .returned (.bool (tripB ⟨s, cs⟩)) ∧ Below w.heap.size w w' := by
  have E : Hid (tripB ⟨s, cs⟩ = (nameB s && inB cs.length 2 12 && cs.all callB && chainB cs)) := rfl
  generalize tripB ⟨s, cs⟩ = res at *
  have hb := balloc w (.cells #[.string s, .slice a cs.length cap] 26)
  have c0 : (w.alloc (.cells #[.string s, .slice a cs.length cap] 26)).cell? ⟨w.heap.size, 0, none⟩ = some (.string s) := by simp [go_sem]
  have c1 : (w.alloc (.cells #[.string s, .slice a cs.length cap] 26)).cell? ⟨w.heap.size, 1, none⟩ = some (.slice a cs.length cap) := by simp [go_sem]
  go_enter Tryz.func14, Tryz.ntmps14
  go_wp2_with fail
  refine (cNameI s _).mono ?_
  rintro e w1 ⟨rfl, hw⟩
  replace c0 := ble hw c0
  replace c1 := ble hw c1
  have hb1 := btrans hb hw
  clear hw hb
  cases g1 : nameB s
  · have hq := hide (show res = false by rw [E.out, g1]; rfl)
    clear E g1
    go_wp2
    go_ret
    exact ⟨ret_bool hq.out.symm, hb1⟩
  rw [g1] at E
  go_wp2_with fail
  refine (cWithin cs.length 2 12 _).mono ?_
  rintro e w2 ⟨rfl, hw⟩
  subst w2
  cases g2 : inB cs.length 2 12
  · have hq := hide (show res = false by rw [E.out, g2]; rfl)
    clear E g1 g2
    go_wp2
    go_ret
    exact ⟨ret_bool hq.out.symm, hb1⟩
  rw [g2] at E
  go_wp2_with fail
  refine (cAllCalls a cap cs _ (hz.below hb1) hl).mono ?_
  rintro e w2 ⟨rfl, hw⟩
  replace c0 := ble hw c0
  replace c1 := ble hw c1
  have hb2 := btrans hb1 hw
  clear hw hb1
  cases g3 : cs.all callB
  · have hq := hide (show res = false by rw [E.out, g3]; rfl)
    clear E g1 g2 g3
    go_wp2
    go_ret
    exact ⟨ret_bool hq.out.symm, hb2⟩
  rw [g3] at E
  obtain ⟨l1, l2⟩ := inB_true g2
  have E0 : Hid (chainB (cs.drop 0) = res) := hide (by rw [E.out]; rfl)
  rcases hz with h | ⟨b, off, rfl, hc⟩
  · simp [h] at l1
  clear E g1 g2 g3 c0
  have k1 : (0 : Int) ≤ 1 := by omega
  have k2 : (1 : Int) ≤ (cs.length : Int) := by omega
  have k3 : (cs.length : Int) ≤ (cap : Int) := by omega
  have k4 : cap ≠ 1 := by omega
  go_wp2
  go_loopw [27] (fun i wr => ∃ k : Nat, k + 1 ≤ cs.length ∧ i = .int .i64 k ∧ Hid (chainB (cs.drop k) = res) ∧ wr.cell? ⟨w.heap.size, 1, none⟩ = some (.slice (some ⟨b, off, none⟩) cs.length cap) ∧ Below w.heap.size w wr) (fun i _ => cs.length - (intOf i).toNat)
  case atStart => exact ⟨0, by omega, rfl, E0, c1, hb2⟩
  case round =>
    obtain ⟨k, hk, rfl, hres, cc, hb⟩ := hrel
    clear E0 c1 hb2
    by_cases hlt : k + 1 < cs.length
    · have hlt' : (k : Int) < (cs.length : Int) - 1 := by omega
      obtain ⟨q0, q1, q2⟩ := hc k (by omega)
      replace q0 := ble hb q0
      replace q1 := ble hb q1
      replace q2 := ble hb q2
      obtain ⟨p0, p1, p2⟩ := hc (k + 1) hlt
      replace p0 := ble hb p0
      replace p1 := ble hb p1
      replace p2 := ble hb p2
      have hd := hide ((chain_drop hlt).symm.trans hres.out)
      have hS : Hid (stepB (cs.getD k HaltV.zero) (cs.getD (k + 1) HaltV.zero) = _) := rfl
      clear hc hres
      generalize cs.getD k HaltV.zero = x at *
      generalize cs.getD (k + 1) HaltV.zero = y at *
      obtain ⟨n, a, d⟩ := x
      obtain ⟨n', a', d'⟩ := y
      dsimp only at *
      rw [show off + (k + 1) * 3 = off + 3 + k * 3 by omega] at p0 p1 p2
      have hs1 : w.heap.size < wr.heap.size := cell_lt cc
      have hs2 : b < wr.heap.size := cell_lt q0
      have hB : ∀ o1 o2, Below w.heap.size w ((wr.alloc o1).alloc o2) := fun o1 o2 => btrans (btrans hb (balloc wr o1)) (balloc _ o2)
      have hC : ∀ o1 o2, ((wr.alloc o1).alloc o2).cell? ⟨w.heap.size, 1, none⟩ = some (.slice (some ⟨b, off, none⟩) cs.length cap) := fun o1 o2 => ble (balloc _ o2) (ble (balloc wr o1) cc)
      have hB := hide hB
      have hC := hide hC
      by_cases h1 : a' ≤ d
      · have hq := hide (show res = false by rw [← hd.out, hS.out]; simp [stepB]; omega)
        clear hd hS
        go_wp2
        go_ret
        exact ⟨ret_bool hq.out.symm, hB.out _ _⟩
      · by_cases h2 : n' = n
        · have hq := hide (show res = false by rw [← hd.out, hS.out]; simp [stepB, h2])
          clear hd hS
          go_wp2
          go_ret
          exact ⟨ret_bool hq.out.symm, hB.out _ _⟩
        · have hq := hide (show chainB (cs.drop (k + 1)) = res by rw [← hd.out, hS.out]; simp [stepB]; omega)
          clear hd hS
          go_wp2
          go_roundw
          case rel => exact ⟨k + 1, by omega, by go_num, hq, hC.out _ _, hB.out _ _⟩
          case measure => simp [intOf]; omega
    · have hlt' : ¬ ((k : Int) < (cs.length : Int) - 1) := by omega
      have hq := hide (show res = true by rw [← hres.out]; exact chain_last (by omega))
      clear hc hres
      go_wp2
      go_ret
      exact ⟨ret_bool hq.out.symm, hb⟩
end Go.Proofs.YthlmaljgnhakfaaGreatDoor
