/- Later: the model's text at every argument. -/
import Derived.Test.YtmchdclieejohaaQ
namespace Go.Proofs.Ytmchdclieejohaa
open Go.RowKit

theorem ints_of_own {w : World} {base n : Nat} {ao : Option Addr} {cp : Nat} {xs : List Int} (h : w.ownsRow base 3 1 (.slice ao n cp) n (xs.map (Value.int .i64))) : Ints w ao xs := by
  rcases h.2 with ⟨e, h0⟩ | ⟨g, cap, cur, e, _⟩
  · left
    have := h.1
    rw [h0] at this
    simpa using this
  · simp only [Value.slice.injEq] at e
    obtain ⟨rfl, _, rfl⟩ := e
    exact Ints.of_owns h

/-- An answer that is a pattern, to be read. -/
def AnsRead (w : World) (R : PatV) (e : Ending) (w' : World) : Prop :=
  ∃ ao1 cp1 ao2 cp2, e = .returned (.agg #[.int .i64 R.w, .int .i64 R.f, .int .i64 R.t, .slice ao1 R.xs.length cp1, .slice ao2 R.ys.length cp2]) ∧ Ints w' ao1 R.xs ∧ Ints w' ao2 R.ys ∧ Below w.heap.size w w'
theorem read_zero (w w' : World) (hb : Below w.heap.size w w') : AnsRead w ⟨0, 0, 0, [], []⟩ (.returned (.agg #[.int .i64 0, .int .i64 0, .int .i64 0, .slice none 0 0, .slice none 0 0])) w' :=
  ⟨none, 0, none, 0, rfl, .inl rfl, .inl rfl, hb⟩

set_option maxHeartbeats 3200000 in
theorem c32 (a1 a2 : Option Addr) (p1 p2 : Nat) (zs es : List Int) (W F T n : Int) (w : World) (hz : Ints w a1 zs) (he : Ints w a2 es) (hl1 : zs.length ≤ 1048576) (hl2 : es.length ≤ 1048576) :
    Calls Try.prog 32 #[.agg #[.int .i64 W, .int .i64 F, .int .i64 T, .slice a1 zs.length p1, .slice a2 es.length p2], .int .i64 n] w (AnsRead w (laterR W F T zs es n)) := by
  cases hok : laterOk W F T zs es n
  · rw [later_no hok]
    cases hp : patOk W F T zs es
    · go_enter Try.func32, Try.ntmps32
      go_wp2_with fail
      refine (c25 a1 a2 p1 p2 zs es W F T _ (hz.below (btrans (balloc _ _) (balloc _ _))) (he.below (btrans (balloc _ _) (balloc _ _))) hl1 hl2).mono ?_
      rintro e w1 ⟨rfl, hb⟩
      have HB1 := btrans (btrans (balloc _ _) (balloc _ _)) hb
      have R1 : w1.heap[w.heap.size + 1]? = some (.cells #[.int .i64 0, .int .i64 0, .int .i64 0, .slice none 0 0, .slice none 0 0] 26 (0, 0)) := (hb.block _ (by simp)).trans (by
          show ((w.heap.push _).push _)[w.heap.size + 1]? = _
          rw [Array.getElem?_push, if_pos (by simp)])
      obtain ⟨⟨r0, r1, r2, r3, r4⟩, g0, g1, g2, g3, g4⟩ := blk5 R1
      clear hb
      go_wp2
      refine bodyPost_ret (v := .agg #[.int .i64 0, .int .i64 0, .int .i64 0, .slice none 0 0, .slice none 0 0]) (by simp [results, Try.results32, go_sem, r0, r1, r2, r3, r4]) rfl (read_zero _ _ (below_set5 (by omega) HB1))
    · obtain ⟨⟨q0, q1⟩, ⟨q2, q3, q4⟩, _, _⟩ := patOk_bd hp
      have hno : ¬ ((-3650 ≤ n ∧ n ≤ 3650) ∧ 0 ≤ F + n ∧ T + n ≤ 3650) := by
        intro h
        have : laterOk W F T zs es n = true := by simp only [laterOk, hp, inB, Bool.true_and, Bool.and_eq_true, decide_eq_true_eq]; exact ⟨h.1, h.2.1, h.2.2⟩
        rw [hok] at this; cases this
      clear hok
      go_enter Try.func32, Try.ntmps32
      go_wp2_with fail
      refine (c25 a1 a2 p1 p2 zs es W F T _ (hz.below (btrans (balloc _ _) (balloc _ _))) (he.below (btrans (balloc _ _) (balloc _ _))) hl1 hl2).mono ?_
      rintro e w1 ⟨rfl, hb⟩
      have HB1 := btrans (btrans (balloc _ _) (balloc _ _)) hb
      have X1 : Bx w1 w.heap.size (.int .i64 W) (.int .i64 F) (.int .i64 T) (.slice a1 zs.length p1) (.slice a2 es.length p2) := ⟨ble hb (by simp), ble hb (by simp), ble hb (by simp), ble hb (by simp), ble hb (by simp)⟩
      have R1 : w1.heap[w.heap.size + 1]? = some (.cells #[.int .i64 0, .int .i64 0, .int .i64 0, .slice none 0 0, .slice none 0 0] 26 (0, 0)) := (hb.block _ (by simp)).trans (by
          show ((w.heap.push _).push _)[w.heap.size + 1]? = _
          rw [Array.getElem?_push, if_pos (by simp)])
      obtain ⟨⟨r0, r1, r2, r3, r4⟩, g0, g1, g2, g3, g4⟩ := blk5 R1
      obtain ⟨b0, b1, b2, b3, b4⟩ := id X1
      clear hb R1 X1
      by_cases hn0 : n < -3650
      · clear hno
        have hin : inB n (-3650) 3650 = false := by simp [inB]; omega
        go_wp2_with (go_at_call 46; refine (c46 _ _ _ _).mono ?_; rintro e w' ⟨rfl, hw⟩; obtain rfl := hw.symm)
        refine bodyPost_ret (v := .agg #[.int .i64 0, .int .i64 0, .int .i64 0, .slice none 0 0, .slice none 0 0]) (by simp [results, Try.results32, go_sem, r0, r1, r2, r3, r4]) rfl (read_zero _ _ (below_set5 (by omega) HB1))
      by_cases hn1 : 3650 < n
      · clear hno
        have hin : inB n (-3650) 3650 = false := by simp [inB]; omega
        go_wp2_with (go_at_call 46; refine (c46 _ _ _ _).mono ?_; rintro e w' ⟨rfl, hw⟩; obtain rfl := hw.symm)
        refine bodyPost_ret (v := .agg #[.int .i64 0, .int .i64 0, .int .i64 0, .slice none 0 0, .slice none 0 0]) (by simp [results, Try.results32, go_sem, r0, r1, r2, r3, r4]) rfl (read_zero _ _ (below_set5 (by omega) HB1))
      have hin : inB n (-3650) 3650 = true := by simp [inB]; omega
      by_cases hf : F + n < 0
      · clear hno
        go_wp2_with (go_at_call 46; refine (c46 _ _ _ _).mono ?_; rintro e w' ⟨rfl, hw⟩; obtain rfl := hw.symm)
        refine bodyPost_ret (v := .agg #[.int .i64 0, .int .i64 0, .int .i64 0, .slice none 0 0, .slice none 0 0]) (by simp [results, Try.results32, go_sem, r0, r1, r2, r3, r4]) rfl (read_zero _ _ (below_set5 (by omega) HB1))
      · have ht : 3650 < T + n := by omega
        clear hno
        go_wp2_with (go_at_call 46; refine (c46 _ _ _ _).mono ?_; rintro e w' ⟨rfl, hw⟩; obtain rfl := hw.symm)
        refine bodyPost_ret (v := .agg #[.int .i64 0, .int .i64 0, .int .i64 0, .slice none 0 0, .slice none 0 0]) (by simp [results, Try.results32, go_sem, r0, r1, r2, r3, r4]) rfl (read_zero _ _ (below_set5 (by omega) HB1))
  · rw [later_yes hok]
    simp only [laterOk, Bool.and_eq_true, decide_eq_true_eq] at hok
    obtain ⟨hp, hn, hf, ht⟩ := hok
    obtain ⟨⟨q0, q1⟩, ⟨q2, q3, q4⟩, hbz, hbe⟩ := patOk_bd hp
    have hn' := inB_true hn
    refine (c32yes a1 a2 p1 p2 zs es W F T n w hz he hl1 hl2 hp hn'.1 hn'.2 hf ht q3 q0 q1 hbz hbe).mono ?_
    rintro e w' ⟨v1, v2, rfl, o1, o2, hb⟩
    obtain ⟨ao1, cp1, rfl⟩ : ∃ ao cp, v1 = .slice ao zs.length cp := by
      rcases Go.Joins.ownsRow_forms o1 with ⟨rfl, h0⟩ | ⟨g, cp, rfl⟩
      · exact ⟨none, 0, by rw [h0]⟩
      · exact ⟨_, _, rfl⟩
    obtain ⟨ao2, cp2, rfl⟩ : ∃ ao cp, v2 = .slice ao es.length cp := by
      rcases Go.Joins.ownsRow_forms o2 with ⟨rfl, h0⟩ | ⟨g, cp, rfl⟩
      · exact ⟨none, 0, by rw [h0]⟩
      · exact ⟨_, _, rfl⟩
    exact ⟨ao1, cp1, ao2, cp2, by simp only [moved_len], ints_of_own o1, ints_of_own o2, hb⟩
end Go.Proofs.Ytmchdclieejohaa
