/- Trips that are right: the model's. -/
import Derived.Test.YthlmaljgnhakfaaDoorE
namespace Go.Proofs.YthlmaljgnhakfaaDoor
open Go.RowKit

set_option maxHeartbeats 1600000 in
theorem cTripS (s : ByteArray) (a : Option Addr) (cap : Nat) (cs : List HaltV) (w : World) (hz : Halts w a cs) (hl : cs.length ≤ 1048576) (hs : s.size ≤ 1048576) :
    Calls Tryd.prog 33 #[.agg #[.string s, .slice a cs.length cap]] w fun e w' => e = .returned (.bool (tripB ⟨s, cs⟩)) ∧ Below w.heap.size w w' := by
  have E : Hid (tripB ⟨s, cs⟩ = (nameB s && inB cs.length 2 12 && cs.all callB && chainB cs)) := rfl
  generalize tripB ⟨s, cs⟩ = res at *
  have hb := balloc w (.cells #[.string s, .slice a cs.length cap] 26)
  have c1 : (w.alloc (.cells #[.string s, .slice a cs.length cap] 26)).cell? ⟨w.heap.size, 1, none⟩ = some (.slice a cs.length cap) := by simp [go_sem]
  go_enter Tryd.func33, Tryd.ntmps33
  go_wp2_with fail
  refine (cNameS s _ hs).mono ?_
  rintro e w1 ⟨rfl, hw⟩
  subst w1
  cases g1 : nameB s
  · have hq := hide (show res = false by rw [E.out, g1]; rfl)
    clear E g1
    go_wp2
    go_ret
    exact ⟨ret_bool hq.out.symm, hb⟩
  rw [g1] at E
  go_wp2_with fail
  refine (cIn cs.length 2 12 _).mono ?_
  rintro e w2 ⟨rfl, hw⟩
  subst w2
  cases g2 : inB cs.length 2 12
  · have hq := hide (show res = false by rw [E.out, g2]; rfl)
    clear E g1 g2
    go_wp2
    go_ret
    exact ⟨ret_bool hq.out.symm, hb⟩
  rw [g2] at E
  obtain ⟨l1, l2⟩ := inB_true g2
  have E0 : Hid (((cs.drop 0).all callB && chainB (cs.drop (0 - 1))) = res) := hide (by rw [E.out]; simp)
  rcases hz with h | ⟨b, off, rfl, hc⟩
  · simp [h] at l1
  clear E g1 g2
  go_wp2
  go_loopw [3] (fun i wr => ∃ k : Nat, k ≤ cs.length ∧ i = .int .i64 k ∧ Hid (((cs.drop k).all callB && chainB (cs.drop (k - 1))) = res) ∧ wr.cell? ⟨w.heap.size, 1, none⟩ = some (.slice (some ⟨b, off, none⟩) cs.length cap) ∧ Below w.heap.size w wr) (fun i _ => cs.length - (intOf i).toNat)
  case atStart => exact ⟨0, by omega, rfl, E0, c1, hb⟩
  case round =>
    obtain ⟨k, hk, rfl, hres, cc, hb⟩ := hrel
    clear E0 c1
    by_cases hlt : k < cs.length
    · have hlt' : (k : Int) < (cs.length : Int) := by omega
      obtain ⟨q0, q1, q2⟩ := hc k hlt
      replace q0 := ble hb q0
      replace q1 := ble hb q1
      replace q2 := ble hb q2
      have hs1 : w.heap.size < wr.heap.size := cell_lt cc
      have hs2 : b < wr.heap.size := cell_lt q0
      have e0 : cs.getD k HaltV.zero = cs[k] := by simp [List.getD, hlt]
      have hd := hide hres.out
      rw [all_drop (P := callB) hlt, ← e0] at hd
      have hpr : Hid (0 < k → (∃ p0 p1 p2 : Int, cs.getD (k - 1) HaltV.zero = ⟨p0, p1, p2⟩ ∧ wr.cell? ⟨b, off + (k - 1) * 3, none⟩ = some (.int .i64 p0) ∧ wr.cell? ⟨b, off + (k - 1) * 3 + 2, none⟩ = some (.int .i64 p2) ∧ chainB (cs.drop (k - 1)) = (stepB ⟨p0, p1, p2⟩ (cs.getD k HaltV.zero) && chainB (cs.drop k)))) := hide (by
        intro h
        obtain ⟨r0, r1, r2⟩ := hc (k - 1) (by omega)
        have := chain_drop (cs := cs) (k := k - 1) (by omega)
        rw [show k - 1 + 1 = k by omega] at this
        exact ⟨_, _, _, rfl, ble hb r0, ble hb r2, this⟩)
      clear hc hres e0
      generalize cs.getD k HaltV.zero = x at *
      obtain ⟨n, a, d⟩ := x
      dsimp only at *
      have E1 : Hid (callB ⟨n, a, d⟩ = (inB n 0 29 && inB d 0 100000 && inB a 0 d)) := rfl
      generalize callB ⟨n, a, d⟩ = q at *
      have hB := btrans hb (balloc wr (.cells #[.int .i64 n, .int .i64 a, .int .i64 d] 36))
      have hC := ble (balloc wr (.cells #[.int .i64 n, .int .i64 a, .int .i64 d] 36)) cc
      go_wp2_with fail
      refine (cIn n 0 29 _).mono ?_
      rintro e w1 ⟨rfl, hw⟩
      subst w1
      cases g1 : inB n 0 29
      · have hq := hide (show res = false by rw [← hd.out, E1.out, g1]; rfl)
        clear hd E1 g1 hpr
        go_wp2
        go_ret
        exact ⟨ret_bool hq.out.symm, hB⟩
      rw [g1] at E1
      go_wp2_with fail
      refine (cIn d 0 100000 _).mono ?_
      rintro e w1 ⟨rfl, hw⟩
      subst w1
      cases g2 : inB d 0 100000
      · have hq := hide (show res = false by rw [← hd.out, E1.out, g2]; rfl)
        clear hd E1 g1 g2 hpr
        go_wp2
        go_ret
        exact ⟨ret_bool hq.out.symm, hB⟩
      rw [g2] at E1
      go_wp2_with fail
      refine (cIn a 0 d _).mono ?_
      rintro e w1 ⟨rfl, hw⟩
      subst w1
      cases g3 : inB a 0 d
      · have hq := hide (show res = false by rw [← hd.out, E1.out, g3]; rfl)
        clear hd E1 g1 g2 g3 hpr
        go_wp2
        go_ret
        exact ⟨ret_bool hq.out.symm, hB⟩
      rw [g3] at E1
      have hq := hide (hd.out)
      rw [E1.out] at hq
      clear hd E1 g1 g2 g3
      by_cases hk0 : 0 < k
      · obtain ⟨p0, p1, p2, _, r0, r2, hch⟩ := hpr.out hk0
        rw [hch] at hq
        clear hch hpr
        have hk1 : (0 : Int) < (k : Int) := by omega
        have hk2 : IntKind.i64.wrap ((k : Int) - 1) = ((k - 1 : Nat) : Int) := by rw [wrap_in _ (by omega) (by omega)]; omega
        have hk3 : ((k - 1 : Nat) : Int) < (cs.length : Int) := by omega
        have hk4 : k - 1 < cs.length := by omega
        have hS : Hid (stepB ⟨p0, p1, p2⟩ ⟨n, a, d⟩ = (decide (p2 < a) && !decide (p0 = n))) := rfl
        generalize hj : k - 1 = j at *
        replace hj := hide hj
        go_wp2_with fail
        have b0 : (wr.alloc (.cells #[.int .i64 n, .int .i64 a, .int .i64 d] 36)).cell? ⟨wr.heap.size, 0, none⟩ = some (.int .i64 n) := by simp [go_sem]
        have b1 : (wr.alloc (.cells #[.int .i64 n, .int .i64 a, .int .i64 d] 36)).cell? ⟨wr.heap.size, 1, none⟩ = some (.int .i64 a) := by simp [go_sem]
        replace r0 := ble (balloc wr (.cells #[.int .i64 n, .int .i64 a, .int .i64 d] 36)) r0
        replace r2 := ble (balloc wr (.cells #[.int .i64 n, .int .i64 a, .int .i64 d] 36)) r2
        clear q0 q1 q2 cc hb
        generalize (wr.alloc (.cells #[.int .i64 n, .int .i64 a, .int .i64 d] 36)) = W at *
        by_cases h1 : a ≤ p2
        · have hq := hide (show res = false by rw [← hq.out, hS.out]; simp; omega)
          clear hS
          go_quiet (fail)
          go_wp2
          go_ret
          exact ⟨ret_bool hq.out.symm, bdraw hB _⟩
        · have h1' : decide (a ≤ p2) = false := by simp; omega
          by_cases h2 : p0 = n
          · have hq := hide (show res = false by rw [← hq.out, hS.out]; simp [h2])
            clear hS
            have h2' : decide (p0 = n) = true := by simp [h2]
            go_quiet (fail)
            go_wp2
            go_ret
            exact ⟨ret_bool hq.out.symm, bdraw hB _⟩
          · have hq := hide (show ((cs.drop (k + 1)).all callB && chainB (cs.drop (k + 1 - 1))) = res by
              rw [Nat.add_sub_cancel, ← hq.out, hS.out, decide_eq_true (show p2 < a by omega), decide_eq_false h2]; rfl)
            clear hS
            go_quiet (fail)
            go_wp2
            go_roundw
            case rel => exact ⟨k + 1, by omega, by go_num, hq, hC, bdraw hB _⟩
            case measure => simp [intOf]; omega
      · obtain rfl : k = 0 := by omega
        have hk1 : decide ((0 : Int) < ((0 : Nat) : Int)) = false := rfl
        have hq := hide (show ((cs.drop (0 + 1)).all callB && chainB (cs.drop (0 + 1 - 1))) = res by rw [← hq.out]; simp)
        clear hpr
        go_wp2_with fail
        generalize (wr.alloc (.cells #[.int .i64 n, .int .i64 a, .int .i64 d] 36)) = W at *
        go_quiet (fail)
        go_wp2
        go_roundw
        case rel => exact ⟨0 + 1, by omega, by go_num, hq, hC, bdraw hB _⟩
        case measure => simp [intOf]; omega
    · obtain rfl : k = cs.length := by omega
      have hq := hide (show res = true by rw [← hres.out, List.drop_length, chain_last (by omega)]; rfl)
      clear hc hres
      go_wp2
      go_ret
      exact ⟨ret_bool hq.out.symm, hb⟩
end Go.Proofs.YthlmaljgnhakfaaDoor
