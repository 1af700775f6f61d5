/- Right sidings, of the program. -/
import Derived.Test.YtjbecnflpfjicaaGreats18CQ
import Derived.Test.YtjbecnflpfjicaaGreats18CA
namespace Go.Proofs.YtjbecnflpfjicaaGreat.s18
open Go.RowKit
def sidVal (ra : Option Addr) (rn rc : Nat) (a : Option Addr) (n c : Nat) : Value := .agg #[.slice ra rn rc, .slice a n c]
set_option maxRecDepth 20000 in
set_option maxHeartbeats 1600000 in
theorem cRowOk (r : Int) (a : Option Addr) (cap : Nat) (xs : List Int) (w : World) (hz : Ints w a xs) (hl : xs.length ≤ 1048576) :
    Calls Tryz.prog 49 #[.int .i64 r, .slice a xs.length cap] w fun e w' => e = .returned (.bool (rowB r xs)) ∧ w' = w := by
  cases h1 : inB r 1 40
  · have R := hide (show rowB r xs = false by simp [rowB, h1])
    go_enter Tryz.func49, Tryz.ntmps49
    go_wp2_with (first | (go_at_call 48; refine (cWithin _ _ _ _).mono ?_; rintro e w9 ⟨rfl, hw9⟩; subst w9))
    go_ret
    exact ⟨ret_bool R.out.symm, rfl⟩
  by_cases h2 : (xs.length : Int) ≤ r
  · have R := hide (show rowB r xs = xs.all wagB by simp [rowB, h1, h2])
    go_enter Tryz.func49, Tryz.ntmps49
    go_wp2_with (first | (go_at_call 48; refine (cWithin _ _ _ _).mono ?_; rintro e w9 ⟨rfl, hw9⟩; subst w9) | (go_at_call 68; refine (cAllWag a cap xs _ hz hl).mono ?_; rintro e w9 ⟨rfl, hw9⟩; subst w9))
    go_ret
    exact ⟨ret_bool R.out.symm, rfl⟩
  · have R := hide (show rowB r xs = false by simp [rowB, h2])
    go_enter Tryz.func49, Tryz.ntmps49
    go_wp2_with (first | (go_at_call 48; refine (cWithin _ _ _ _).mono ?_; rintro e w9 ⟨rfl, hw9⟩; subst w9))
    go_ret
    exact ⟨ret_bool R.out.symm, rfl⟩

set_option maxRecDepth 20000 in
set_option maxHeartbeats 3200000 in
theorem cSidI (ra : Option Addr) (rc : Nat) (room : List Int) (a : Option Addr) (c : Nat) (vs : List Value) (rows : List (List Int)) (w : World) (hM : Ints w ra room) (hR : RowsW w a vs rows) (hl : ∀ i, i < rows.length → (rwA rows i).length ≤ 1048576) :
    Calls Tryz.prog 24 #[sidVal ra room.length rc a rows.length c] w fun e w' => e = .returned (.bool (sidB room rows)) ∧ Below w.heap.size w w' := by
  unfold sidVal
  cases h6 : inB rows.length 1 6
  · have R := hide (show sidB room rows = false from sidB_not (fun h => by have := h.n1; have := h.n6; rcases inB_ff h6 with h | h <;> omega))
    have hW := balloc w (.cells #[.slice ra room.length rc, .slice a rows.length c] 44)
    go_enter Tryz.func24, Tryz.ntmps24
    go_wp2_with (first | (go_at_call 48; refine (cWithin _ _ _ _).mono ?_; rintro e w9 ⟨rfl, hw9⟩; subst w9))
    go_ret
    exact ⟨ret_bool R.out.symm, hW⟩
  obtain ⟨n1, n6⟩ := inB_true h6
  by_cases hlen : room.length = rows.length
  · have hcell := hide hR.cell
    have heach := hide hR.each
    have hvl := hide hR.len
    have hlenH := hide hlen
    have hW := balloc w (.cells #[.slice ra rows.length rc, .slice a rows.length c] 44)
    have hM2 : Hid (∃ b off, ra = some ⟨b, off, none⟩ ∧ ∀ i, i < rows.length → w.cell? ⟨b, off + i, none⟩ = some (Value.int .i64 (room.getD i 0))) := hide (by
      rcases hM with h | h
      · simp [h] at hlen; omega
      · rw [hlen] at h; exact h)
    rw [hlen]
    clear hlen hM
    go_enter Tryz.func24, Tryz.ntmps24
    go_wp2_with (first | (go_at_call 48; refine (cWithin _ _ _ _).mono ?_; rintro e w9 ⟨rfl, hw9⟩; subst w9))
    go_loop [3, 4, 22] (fun _ _ i => ∃ k : Nat, k ≤ rows.length ∧ i = .int .i64 k ∧ Hid (∀ j, j < k → rowB (room.getD j 0) (rwA rows j) = true)) (fun _ _ i => rows.length - (intOf i).toNat)
    case atStart => exact ⟨0, by omega, rfl, hide (fun j hj => by omega)⟩
    case round =>
      obtain ⟨k, hk, rfl, hall⟩ := hrel
      by_cases hlt : k < rows.length
      · obtain ⟨b1, o1, rfl, q1⟩ := hM2.out
        obtain ⟨bb, off, rfl, hc⟩ : ∃ b off, a = some ⟨b, off, none⟩ ∧ ∀ i, (hi : i < vs.length) → w.cell? ⟨b, off + i, none⟩ = some vs[i] := by
          rcases hcell.out with h | h
          · simp [h] at hlt
          · exact h
        have hkv : k < vs.length := by have := hvl.out; omega
        obtain ⟨ai, ci, hv, hI, -⟩ := heach.out k hkv
        have p1 := ble hW (q1 k hlt)
        have p2 := ble hW (hc k hkv)
        rw [hv] at p2
        have CR := cRowOk (room.getD k 0) ai ci (rwA rows k) _ (hI.below hW) (hl k hlt)
        have hres := hide (show rowB (room.getD k 0) (rwA rows k) = false → sidB room rows = false from fun h => sidB_not (fun g => by rw [g.row k hlt] at h; cases h))
        have hall2 := hide (show rowB (room.getD k 0) (rwA rows k) = true → ∀ j, j < k + 1 → rowB (room.getD j 0) (rwA rows j) = true from fun h j hj => by
          by_cases e : j = k
          · subst e; exact h
          · exact hall.out j (by omega))
        clear hc q1 hv hI hall
        generalize rowB (room.getD k 0) (rwA rows k) = RB at *
        generalize room.getD k 0 = rk at *
        generalize (rwA rows k).length = L at *
        go_wp2_with fail
        refine CR.mono ?_
        rintro e w9 ⟨rfl, hw9⟩
        subst w9
        clear CR
        cases RB
        · have R := hide (hres.out rfl)
          clear hres hall2
          go_wp2
          go_ret
          exact ⟨ret_bool R.out.symm, hW⟩
        · have R := hide (hall2.out rfl)
          clear hres hall2
          go_wp2
          go_round
          case rel => exact ⟨k + 1, by omega, by go_num, R⟩
          case measure => simp [intOf]; omega
      · obtain rfl : k = rows.length := by omega
        have h40 : ∀ i, i < rows.length → (rwA rows i).length ≤ 40 := fun i hi => by have := rowB_iff.1 (hall.out i hi); omega
        have CN := cNone a c vs rows _ (hR.below hW) (by omega) h40
        have R := hide (show decide rows.flatten.Nodup = sidB room rows by
          rw [Bool.eq_iff_iff, sidB_iff, decide_eq_true_eq]
          constructor
          · intro h; exact ⟨by omega, by omega, hlenH.out, hall.out, h⟩
          · intro h; exact h.nodup)
        clear hall h40 hM2 hcell heach
        generalize decide rows.flatten.Nodup = D at *
        go_wp2_with fail
        refine CN.mono ?_
        rintro e w2 ⟨rfl, hb2⟩
        have hW2 := btrans hW hb2
        clear CN hb2
        go_wp2
        go_ret
        exact ⟨ret_bool R.out, hW2⟩
  · have R := hide (show sidB room rows = false from sidB_not (fun h => hlen h.len))
    have hne : ((room.length : Int) != (rows.length : Int)) = true := by simp; omega
    have hne2 : ¬ ((room.length : Int) = (rows.length : Int)) := by omega
    have hW := balloc w (.cells #[.slice ra room.length rc, .slice a rows.length c] 44)
    go_enter Tryz.func24, Tryz.ntmps24
    go_wp2_with (first | (go_at_call 48; refine (cWithin _ _ _ _).mono ?_; rintro e w9 ⟨rfl, hw9⟩; subst w9))
    go_ret
    exact ⟨ret_bool R.out.symm, hW⟩
end Go.Proofs.YtjbecnflpfjicaaGreat.s18
