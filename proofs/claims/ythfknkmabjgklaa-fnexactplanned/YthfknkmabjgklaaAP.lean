/- The closures of Apart, and allOf over runs with each. -/
import Derived.Test.YthfknkmabjgklaaME
namespace Go.Proofs.Ythfknkmabjgklaa
open Go.RowKit
set_option maxHeartbeats 800000 in
theorem cApart1 (lx g N : Nat) (lg : Nat → List RideV) (r : RunV) (w : World) (hlx : w.cell? ⟨lx, 0, none⟩ = some (.slice (some ⟨g, 0, none⟩) N N)) (h : LegV w g N lg) (hN : N ≤ 1048576) (hlg : ∀ i, (lg i).length ≤ 1048576) :
    Calls Try.prog 49 #[.agg #[.int .i64 r.t, .int .i64 r.l, .int .i64 r.f, .int .i64 r.o], .pointer (some ⟨lx, 0, none⟩)] w fun e w' => e = .returned (.bool (runB N lg r)) ∧ Below w.heap.size w w' := by
  have hb := balloc w (.cells #[.int .i64 r.t, .int .i64 r.l, .int .i64 r.f, .int .i64 r.o] 72)
  have hl2 := ble hb hlx
  have hV := h.below hb
  obtain ⟨⟨x0, x1, x2, x3⟩, -⟩ := blk4 (one_block w (.cells #[.int .i64 r.t, .int .i64 r.l, .int .i64 r.f, .int .i64 r.o] 72))
  clear h hlx
  go_enter Try.func49, Try.ntmps49
  go_wp2_with fail
  refine (cRunOk g N lg r.t r.l r.f r.o _ hV hN hlg).mono ?_
  rintro e w1 ⟨rfl, hb1⟩
  have HB := btrans hb hb1
  go_wp2
  go_ret
  exact ⟨rfl, HB⟩
set_option maxHeartbeats 800000 in
theorem cApart2 (lx rx g N : Nat) (lg : Nat → List RideV) (i p j q : Nat) (af ao bf bo : Int) (w : World) (hlx : w.cell? ⟨lx, 0, none⟩ = some (.slice (some ⟨g, 0, none⟩) N N)) (h : LegV w g N lg) (hr0 : w.cell? ⟨rx, 0, none⟩ = some (.int .i64 (i : Int))) (hr1 : w.cell? ⟨rx, 1, none⟩ = some (.int .i64 (p : Int))) (hr2 : w.cell? ⟨rx, 2, none⟩ = some (.int .i64 af)) (hr3 : w.cell? ⟨rx, 3, none⟩ = some (.int .i64 ao)) (hi : i < N) (hp : p < (lg i).length) (hj : j < N) (hq : q < (lg j).length) (hlg : ∀ i, (lg i).length ≤ 1048576) :
    Calls Try.prog 51 #[.agg #[.int .i64 (j : Int), .int .i64 (q : Int), .int .i64 bf, .int .i64 bo], .pointer (some ⟨lx, 0, none⟩), .pointer (some ⟨rx, 0, none⟩)] w fun e w' => e = .returned (.bool (!(meetB lg i p j q af ao bf bo))) ∧ Below w.heap.size w w' := by
  have hb := balloc w (.cells #[.int .i64 (j : Int), .int .i64 (q : Int), .int .i64 bf, .int .i64 bo] 72)
  have hl2 := ble hb hlx
  have y0 := ble hb hr0
  have y1 := ble hb hr1
  have y2 := ble hb hr2
  have y3 := ble hb hr3
  have hV := h.below hb
  obtain ⟨⟨x0, x1, x2, x3⟩, -⟩ := blk4 (one_block w (.cells #[.int .i64 (j : Int), .int .i64 (q : Int), .int .i64 bf, .int .i64 bo] 72))
  clear h hlx hr0 hr1 hr2 hr3
  go_enter Try.func51, Try.ntmps51
  go_wp2_with fail
  refine (cMeet g N lg i p j q af ao bf bo _ hV hi hp hj hq hlg).mono ?_
  rintro e w1 ⟨rfl, hb1⟩
  have HB := btrans hb hb1
  go_wp2
  go_ret
  exact ⟨rfl, HB⟩
set_option maxRecDepth 100000 in
set_option maxHeartbeats 1600000 in
theorem cAll1 (lx : Nat) (P : RunV → Bool) (a : Option Addr) (cp : Nat) (rs : List RunV) (w : World) (hR : Runs w a rs) (hl : rs.length ≤ 1048576)
    (CF : ∀ W r, r ∈ rs → Below w.heap.size w W → Calls Try.prog 49 #[.agg #[.int .i64 r.t, .int .i64 r.l, .int .i64 r.f, .int .i64 r.o], .pointer (some ⟨lx, 0, none⟩)] W fun e w' => e = .returned (.bool (P r)) ∧ Below W.heap.size W w') :
    Calls Try.prog 48 #[.slice a rs.length cp, .func (.func 49) #[] #[.pointer (some ⟨lx, 0, none⟩)]] w fun e w' => e = .returned (.bool (rs.all P)) ∧ Below w.heap.size w w' := by
  replace CF := hide CF
  go_enter Try.func48, Try.ntmps48
  go_wp2
  go_loopw [6, 9] (fun _ i wr => ∃ k : Nat, k ≤ rs.length ∧ i = .int .i64 k ∧ Hid ((rs.take k).all P = true) ∧ Below w.heap.size w wr) (fun _ i _ => rs.length - (intOf i).toNat)
  case atStart => exact ⟨0, Nat.zero_le _, rfl, hide rfl, Below.refl _ _⟩
  case round =>
    obtain ⟨j, hj, rfl, hall, hb⟩ := hrel
    by_cases hlt : j < rs.length
    · have hRb := hR.below hb
      rcases hRb with hRb | ⟨b, off, rfl, hc⟩
      · simp [hRb] at hlt
      obtain ⟨c0, c1, c2, c3⟩ := hc j hlt
      have hge : rs.getD j RunV.zero = rs[j] := by simp [List.getD, hlt]
      have hst : Hid ((rs.take (j + 1)).all P = P (rs.getD j RunV.zero)) := hide (by
        rw [List.take_succ_eq_append_getElem hlt, List.all_append, hall.out, hge]
        simp)
      have hno : Hid (P (rs.getD j RunV.zero) = false → rs.all P = false) := hide (fun h => by
        cases h2 : rs.all P
        · rfl
        · have h3 := List.all_eq_true.1 h2 _ (List.getElem_mem hlt)
          rw [hge, h3] at h; cases h)
      have hmem : rs.getD j RunV.zero ∈ rs := by rw [hge]; exact List.getElem_mem hlt
      generalize rs.getD j RunV.zero = r at *
      clear hc hall hR hge
      have hb2 := balloc wr (.cells #[.int .i64 r.t, .int .i64 r.l, .int .i64 r.f, .int .i64 r.o] 72)
      have HB := btrans hb hb2
      obtain ⟨⟨x0, x1, x2, x3⟩, -⟩ := blk4 (one_block wr (.cells #[.int .i64 r.t, .int .i64 r.l, .int .i64 r.f, .int .i64 r.o] 72))
      have CO := CF.out _ r hmem HB
      have hk0 : (0 : Int) ≤ (j : Int) := by omega
      have hk1 : (j : Int) < (rs.length : Int) := by omega
      clear hb2 hb hmem
      cases hT : P r
      · have E := hide (hno.out hT)
        rw [hT] at CO
        clear hst hno
        go_wp2_with fail
        refine CO.mono ?_
        rintro e w2 ⟨rfl, hb3⟩
        have HB3 := btrans HB hb3
        clear CO
        go_wp2
        go_ret
        exact ⟨ret_bool E.out.symm, HB3⟩
      · rw [hT] at CO hst
        clear hno
        go_wp2_with fail
        refine CO.mono ?_
        rintro e w2 ⟨rfl, hb3⟩
        have HB3 := btrans HB hb3
        clear CO HB hb3 x0 x1 x2 x3 c0 c1 c2 c3
        go_wp2
        go_roundw
        case rel => exact ⟨j + 1, by omega, by go_num, hst, HB3⟩
        case measure => simp [intOf]; omega
    · obtain rfl : j = rs.length := by omega
      rw [List.take_length] at hall
      clear hR
      go_wp2
      go_ret
      exact ⟨ret_bool hall.out.symm, hb⟩
set_option maxRecDepth 100000 in
set_option maxHeartbeats 1600000 in
theorem cAll2 (lx rx : Nat) (P : RunV → Bool) (a : Option Addr) (cp : Nat) (rs : List RunV) (w : World) (hR : Runs w a rs) (hl : rs.length ≤ 1048576)
    (CF : ∀ W r, r ∈ rs → Below w.heap.size w W → Calls Try.prog 51 #[.agg #[.int .i64 r.t, .int .i64 r.l, .int .i64 r.f, .int .i64 r.o], .pointer (some ⟨lx, 0, none⟩), .pointer (some ⟨rx, 0, none⟩)] W fun e w' => e = .returned (.bool (P r)) ∧ Below W.heap.size W w') :
    Calls Try.prog 48 #[.slice a rs.length cp, .func (.func 51) #[] #[.pointer (some ⟨lx, 0, none⟩), .pointer (some ⟨rx, 0, none⟩)]] w fun e w' => e = .returned (.bool (rs.all P)) ∧ Below w.heap.size w w' := by
  replace CF := hide CF
  go_enter Try.func48, Try.ntmps48
  go_wp2
  go_loopw [6, 9] (fun _ i wr => ∃ k : Nat, k ≤ rs.length ∧ i = .int .i64 k ∧ Hid ((rs.take k).all P = true) ∧ Below w.heap.size w wr) (fun _ i _ => rs.length - (intOf i).toNat)
  case atStart => exact ⟨0, Nat.zero_le _, rfl, hide rfl, Below.refl _ _⟩
  case round =>
    obtain ⟨j, hj, rfl, hall, hb⟩ := hrel
    by_cases hlt : j < rs.length
    · have hRb := hR.below hb
      rcases hRb with hRb | ⟨b, off, rfl, hc⟩
      · simp [hRb] at hlt
      obtain ⟨c0, c1, c2, c3⟩ := hc j hlt
      have hge : rs.getD j RunV.zero = rs[j] := by simp [List.getD, hlt]
      have hst : Hid ((rs.take (j + 1)).all P = P (rs.getD j RunV.zero)) := hide (by
        rw [List.take_succ_eq_append_getElem hlt, List.all_append, hall.out, hge]
        simp)
      have hno : Hid (P (rs.getD j RunV.zero) = false → rs.all P = false) := hide (fun h => by
        cases h2 : rs.all P
        · rfl
        · have h3 := List.all_eq_true.1 h2 _ (List.getElem_mem hlt)
          rw [hge, h3] at h; cases h)
      have hmem : rs.getD j RunV.zero ∈ rs := by rw [hge]; exact List.getElem_mem hlt
      generalize rs.getD j RunV.zero = r at *
      clear hc hall hR hge
      have hb2 := balloc wr (.cells #[.int .i64 r.t, .int .i64 r.l, .int .i64 r.f, .int .i64 r.o] 72)
      have HB := btrans hb hb2
      obtain ⟨⟨x0, x1, x2, x3⟩, -⟩ := blk4 (one_block wr (.cells #[.int .i64 r.t, .int .i64 r.l, .int .i64 r.f, .int .i64 r.o] 72))
      have CO := CF.out _ r hmem HB
      have hk0 : (0 : Int) ≤ (j : Int) := by omega
      have hk1 : (j : Int) < (rs.length : Int) := by omega
      clear hb2 hb hmem
      cases hT : P r
      · have E := hide (hno.out hT)
        rw [hT] at CO
        clear hst hno
        go_wp2_with fail
        refine CO.mono ?_
        rintro e w2 ⟨rfl, hb3⟩
        have HB3 := btrans HB hb3
        clear CO
        go_wp2
        go_ret
        exact ⟨ret_bool E.out.symm, HB3⟩
      · rw [hT] at CO hst
        clear hno
        go_wp2_with fail
        refine CO.mono ?_
        rintro e w2 ⟨rfl, hb3⟩
        have HB3 := btrans HB hb3
        clear CO HB hb3 x0 x1 x2 x3 c0 c1 c2 c3
        go_wp2
        go_roundw
        case rel => exact ⟨j + 1, by omega, by go_num, hst, HB3⟩
        case measure => simp [intOf]; omega
    · obtain rfl : j = rs.length := by omega
      rw [List.take_length] at hall
      clear hR
      go_wp2
      go_ret
      exact ⟨ret_bool hall.out.symm, hb⟩
end Go.Proofs.Ythfknkmabjgklaa
