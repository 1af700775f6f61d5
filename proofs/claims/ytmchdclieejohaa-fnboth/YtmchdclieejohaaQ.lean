/- Later: both texts answer alike at every right or wrong pattern and every number of days. -/
import Derived.Test.YtmchdclieejohaaP
namespace Go.Proofs.Ytmchdclieejohaa
open Go.RowKit

structure PatV where
  w : Int
  f : Int
  t : Int
  xs : List Int
  ys : List Int

def laterOk (W F T : Int) (zs es : List Int) (n : Int) : Bool := patOk W F T zs es && (inB n (-3650) 3650 && (decide (0 ≤ F + n) && decide (T + n ≤ 3650)))
/-- What Later answers. -/
def laterR (W F T : Int) (zs es : List Int) (n : Int) : PatV := if laterOk W F T zs es n = true then ⟨turnW W n, F + n, T + n, moved n zs, moved n es⟩ else ⟨0, 0, 0, [], []⟩

theorem dOk_bd {W F T : Int} {nm : Bool} {zs : List Int} (h : dOk W F T nm zs = true) : ∀ i, i < zs.length → F ≤ zs.getD i 0 ∧ zs.getD i 0 ≤ T := by
  intro i hi
  simp only [dOk, goodTo, Bool.and_eq_true, List.all_eq_true, List.mem_range] at h
  have g := h.2 i hi
  simp only [goodAt, Bool.and_eq_true] at g
  exact inB_true g.1
theorem patOk_bd {W F T : Int} {zs es : List Int} (h : patOk W F T zs es = true) : (0 ≤ W ∧ W ≤ 127) ∧ (0 ≤ F ∧ F ≤ T ∧ T ≤ 3650) ∧ (∀ i, i < zs.length → 0 ≤ zs.getD i 0 ∧ zs.getD i 0 ≤ 3650) ∧ (∀ i, i < es.length → 0 ≤ es.getD i 0 ∧ es.getD i 0 ≤ 3650) := by
  simp only [patOk, Bool.and_eq_true] at h
  obtain ⟨h1, h2, h3, h4, h5⟩ := h
  have a1 := inB_true h1; have a2 := inB_true h2; have a3 := inB_true h3
  have a4 := dOk_bd h4; have a5 := dOk_bd h5
  exact ⟨a1, ⟨a3.1, a3.2, a2.2⟩, fun i hi => by have := a4 i hi; omega, fun i hi => by have := a5 i hi; omega⟩

/-- An answer that is a pattern of the call's own. -/
def AnsPat (w : World) (R : PatV) (e : Ending) (w' : World) : Prop :=
  ∃ ao1 cp1 ao2 cp2, e = .returned (.agg #[.int .i64 R.w, .int .i64 R.f, .int .i64 R.t, .slice ao1 R.xs.length cp1, .slice ao2 R.ys.length cp2]) ∧ w'.ownsRow w.heap.size 3 1 (.slice ao1 R.xs.length cp1) R.xs.length (R.xs.map (Value.int .i64)) ∧
    w'.ownsRow w.heap.size 3 1 (.slice ao2 R.ys.length cp2) R.ys.length (R.ys.map (Value.int .i64)) ∧ ((Value.slice ao1 R.xs.length cp1).ownBlock = none ∨ (Value.slice ao1 R.xs.length cp1).ownBlock ≠ (Value.slice ao2 R.ys.length cp2).ownBlock) ∧ Below w.heap.size w w'

theorem ans_zero (w w' : World) (hb : Below w.heap.size w w') : AnsPat w ⟨0, 0, 0, [], []⟩ (.returned (.agg #[.int .i64 0, .int .i64 0, .int .i64 0, .slice none 0 0, .slice none 0 0])) w' :=
  ⟨none, 0, none, 0, rfl, World.ownsRow_nil _ _ _ _, World.ownsRow_nil _ _ _ _, .inl rfl, hb⟩

theorem later_no {W F T : Int} {zs es : List Int} {n : Int} (h : laterOk W F T zs es n = false) : laterR W F T zs es n = ⟨0, 0, 0, [], []⟩ := by unfold laterR; rw [if_neg (by rw [h]; simp)]
theorem later_yes {W F T : Int} {zs es : List Int} {n : Int} (h : laterOk W F T zs es n = true) : laterR W F T zs es n = ⟨turnW W n, F + n, T + n, moved n zs, moved n es⟩ := by unfold laterR; rw [if_pos h]

set_option maxHeartbeats 3200000 in
theorem c20 (a1 a2 : Option Addr) (p1 p2 : Nat) (zs es : List Int) (W F T n : Int) (w : World) (hz : Ints w a1 zs) (he : Ints w a2 es) (hl1 : zs.length ≤ 1048576) (hl2 : es.length ≤ 1048576) :
    Calls Try.prog 20 #[.agg #[.int .i64 W, .int .i64 F, .int .i64 T, .slice a1 zs.length p1, .slice a2 es.length p2], .int .i64 n] w (AnsPat w (laterR W F T zs es n)) := by
  cases hok : laterOk W F T zs es n
  · rw [later_no hok]
    cases hp : patOk W F T zs es
    · go_enter Try.func20, Try.ntmps20
      go_wp2_with fail
      refine (c21 a1 a2 p1 p2 zs es W F T _ (hz.below (btrans (balloc _ _) (balloc _ _))) (he.below (btrans (balloc _ _) (balloc _ _))) hl1 hl2).mono ?_
      rintro e w1 ⟨rfl, hb⟩
      have HB1 := btrans (btrans (balloc _ _) (balloc _ _)) hb
      have R1 : w1.heap[w.heap.size + 1]? = some (.cells #[.int .i64 0, .int .i64 0, .int .i64 0, .slice none 0 0, .slice none 0 0] 26 (0, 0)) := (hb.block _ (by simp)).trans (by
          show ((w.heap.push _).push _)[w.heap.size + 1]? = _
          rw [Array.getElem?_push, if_pos (by simp)])
      obtain ⟨⟨r0, r1, r2, r3, r4⟩, g0, g1, g2, g3, g4⟩ := blk5 R1
      clear hb
      go_wp2
      refine bodyPost_ret (v := .agg #[.int .i64 0, .int .i64 0, .int .i64 0, .slice none 0 0, .slice none 0 0]) (by simp [results, Try.results20, go_sem, r0, r1, r2, r3, r4]) rfl (ans_zero _ _ (below_set5 (by omega) HB1))
    · obtain ⟨⟨q0, q1⟩, ⟨q2, q3, q4⟩, _, _⟩ := patOk_bd hp
      have hno : ¬ ((-3650 ≤ n ∧ n ≤ 3650) ∧ 0 ≤ F + n ∧ T + n ≤ 3650) := by
        intro h
        have : laterOk W F T zs es n = true := by simp only [laterOk, hp, inB, Bool.true_and, Bool.and_eq_true, decide_eq_true_eq]; exact ⟨h.1, h.2.1, h.2.2⟩
        rw [hok] at this; cases this
      clear hok
      go_enter Try.func20, Try.ntmps20
      go_wp2_with fail
      refine (c21 a1 a2 p1 p2 zs es W F T _ (hz.below (btrans (balloc _ _) (balloc _ _))) (he.below (btrans (balloc _ _) (balloc _ _))) hl1 hl2).mono ?_
      rintro e w1 ⟨rfl, hb⟩
      have HB1 := btrans (btrans (balloc _ _) (balloc _ _)) hb
      have X1 : Bx w1 w.heap.size (.int .i64 W) (.int .i64 F) (.int .i64 T) (.slice a1 zs.length p1) (.slice a2 es.length p2) := ⟨ble hb (by simp), ble hb (by simp), ble hb (by simp), ble hb (by simp), ble hb (by simp)⟩
      have R1 : w1.heap[w.heap.size + 1]? = some (.cells #[.int .i64 0, .int .i64 0, .int .i64 0, .slice none 0 0, .slice none 0 0] 26 (0, 0)) := (hb.block _ (by simp)).trans (by
          show ((w.heap.push _).push _)[w.heap.size + 1]? = _
          rw [Array.getElem?_push, if_pos (by simp)])
      obtain ⟨⟨r0, r1, r2, r3, r4⟩, g0, g1, g2, g3, g4⟩ := blk5 R1
      obtain ⟨b0, b1, b2, b3, b4⟩ := id X1
      clear hb R1 X1
      by_cases hn0 : n < -3650
      · clear hno
        go_wp2
        refine bodyPost_ret (v := .agg #[.int .i64 0, .int .i64 0, .int .i64 0, .slice none 0 0, .slice none 0 0]) (by simp [results, Try.results20, go_sem, r0, r1, r2, r3, r4]) rfl (ans_zero _ _ (below_set5 (by omega) HB1))
      by_cases hn1 : 3650 < n
      · clear hno
        go_wp2
        refine bodyPost_ret (v := .agg #[.int .i64 0, .int .i64 0, .int .i64 0, .slice none 0 0, .slice none 0 0]) (by simp [results, Try.results20, go_sem, r0, r1, r2, r3, r4]) rfl (ans_zero _ _ (below_set5 (by omega) HB1))
      by_cases hf : F + n < 0
      · clear hno
        go_wp2
        refine bodyPost_ret (v := .agg #[.int .i64 0, .int .i64 0, .int .i64 0, .slice none 0 0, .slice none 0 0]) (by simp [results, Try.results20, go_sem, r0, r1, r2, r3, r4]) rfl (ans_zero _ _ (below_set5 (by omega) HB1))
      · have ht : 3650 < T + n := by omega
        clear hno
        go_wp2
        refine bodyPost_ret (v := .agg #[.int .i64 0, .int .i64 0, .int .i64 0, .slice none 0 0, .slice none 0 0]) (by simp [results, Try.results20, go_sem, r0, r1, r2, r3, r4]) rfl (ans_zero _ _ (below_set5 (by omega) HB1))
  · rw [later_yes hok]
    simp only [laterOk, Bool.and_eq_true, decide_eq_true_eq] at hok
    obtain ⟨hp, hn, hf, ht⟩ := hok
    obtain ⟨⟨q0, q1⟩, ⟨q2, q3, q4⟩, hbz, hbe⟩ := patOk_bd hp
    have hn' := inB_true hn
    refine (c20yes a1 a2 p1 p2 zs es W F T n w hz he hl1 hl2 hp hn'.1 hn'.2 hf ht q3 q0 q1 hbz hbe).mono ?_
    rintro e w' ⟨v1, v2, rfl, o1, o2, ap, hb⟩
    obtain ⟨ao1, cp1, rfl⟩ : ∃ ao cp, v1 = .slice ao zs.length cp := by
      rcases Go.Joins.ownsRow_forms o1 with ⟨rfl, h0⟩ | ⟨g, cp, rfl⟩
      · exact ⟨none, 0, by rw [h0]⟩
      · exact ⟨_, _, rfl⟩
    obtain ⟨ao2, cp2, rfl⟩ : ∃ ao cp, v2 = .slice ao es.length cp := by
      rcases Go.Joins.ownsRow_forms o2 with ⟨rfl, h0⟩ | ⟨g, cp, rfl⟩
      · exact ⟨none, 0, by rw [h0]⟩
      · exact ⟨_, _, rfl⟩
    exact ⟨ao1, cp1, ao2, cp2, by simp only [moved_len], by simp only [moved_len]; exact o1, by simp only [moved_len]; exact o2, by simp only [moved_len]; exact ap, hb⟩
end Go.Proofs.Ytmchdclieejohaa
