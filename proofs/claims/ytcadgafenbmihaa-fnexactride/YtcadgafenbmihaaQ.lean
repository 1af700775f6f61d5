/- The marks of the law on rides: numbers written into every place of a slice, and read again. -/
import Derived.Test.YtcadgafenbmihaaP2
import Derived.Laws.Cover2
namespace Go.Proofs.Ytcadgafenbmihaa
open Go.RowKit Fl

attribute [local go_sem] run_store_float

theorem conv_fin (n : Int) : FloatKind.f64.format.order (floatOfInt .f64 n) (floatOfInt .f64 n) = some .eq := by
  obtain ⟨R, e, hle, hlt⟩ : ∃ R, floatOfInt .f64 n = Ieee.double.word (decide (n < 0)) R ∧ R ≤ 2047 * 2 ^ 52 ∧ R < 2 ^ 63 :=
    ⟨_, nearest_rr (decide (n < 0)) n.natAbs 0 0 (by omega), rr_le _ _, rr_lt _ _⟩
  rw [e]
  rcases self_order (Ieee.double.word (decide (n < 0)) R) with h | h
  · exfalso
    have hr := rg_word (decide (n < 0)) hlt
    generalize Ieee.double.word (decide (n < 0)) R = x at *
    by_cases h1 : R < 2047 * 2 ^ 52
    · have hx : fin x := by unfold fin; rw [hr]; exact h1
      have h2 : Ieee.double.order x x = none := h
      rw [order_eq hx hx] at h2
      cases h2
    · have hx : rg x = 2047 * 2 ^ 52 := by omega
      have h2 : Ieee.double.order x x = none := h
      unfold Ieee.Format.order at h2
      rw [read_inf hx] at h2
      cases hs : sg x <;> rw [hs] at h2 <;> cases h2
  · exact h

/-- The numbers k, k + 1, .., n of them, as floats. -/
def marks (k : Int) (n : Nat) : List Nat := (List.range n).map fun (i : Nat) => floatOfInt .f64 (k + (i : Int))
theorem marks_len (k : Int) (n : Nat) : (marks k n).length = n := by simp [marks]
theorem marks_get (k : Int) (n i : Nat) (h : i < n) : (marks k n).getD i 0 = floatOfInt .f64 (k + i) := by simp [marks, List.getD, h]
theorem mark_step (xs : List Nat) (k : Int) (i : Nat) (h : i < xs.length) :
    (((marks k i).map (Value.float .f64)) ++ ((xs.drop i).map (Value.float .f64))).set i (.float .f64 (floatOfInt .f64 (k + i))) = ((marks k (i + 1)).map (Value.float .f64)) ++ ((xs.drop (i + 1)).map (Value.float .f64)) := by
  have e2 : i - ((marks k i).map (Value.float .f64)).length = 0 := by simp [marks_len]
  rw [List.set_append_right _ _ (by simp [marks_len]), e2, List.drop_eq_getElem_cons h, List.map_cons, List.set_cons_zero]
  simp [marks, List.range_succ]

set_option maxHeartbeats 800000 in
theorem c42g (B g cap : Nat) (xs : List Nat) (k : Int) (w : World) (ho : w.ownsRow B 22 1 (.slice (some ⟨g, 0, none⟩) xs.length cap) xs.length (xs.map (Value.float .f64))) (hl : xs.length ≤ 1048576) (hk0 : 0 ≤ k) (hk1 : k ≤ 10000000) :
    Calls Try.prog 42 #[.slice (some ⟨g, 0, none⟩) xs.length cap, .int .i64 k] w fun e w' => e = .returned (.int .i64 (k + xs.length)) ∧
      w'.ownsRow B 22 1 (.slice (some ⟨g, 0, none⟩) xs.length cap) xs.length ((marks k xs.length).map (Value.float .f64)) ∧ w.grownBy w' (some g) := by
  go_enter Try.func42, Try.ntmps42
  go_wp2
  go_loopw [1, 5] (fun kk i wr => ∃ j : Nat, j ≤ xs.length ∧ kk = .int .i64 (k + j) ∧ i = .int .i64 j ∧ wr.ownsRow B 22 1 (.slice (some ⟨g, 0, none⟩) xs.length cap) xs.length (((marks k j).map (Value.float .f64)) ++ ((xs.drop j).map (Value.float .f64))) ∧ w.grownBy wr (some g)) (fun _ i _ => xs.length - (intOf i).toNat)
  case atStart => exact ⟨0, Nat.zero_le _, by simp, rfl, by simpa [marks] using ho, World.grownBy.refl _ _⟩
  case round =>
    obtain ⟨j, hj, rfl, rfl, hown, hgr⟩ := hrel
    by_cases hlt : j < xs.length
    · have hfr := hown.frozenAt j
      have hcw : wr.cell? ⟨g, j, none⟩ = some (.float .f64 (xs.getD j 0)) := by
        rw [hown.cellAt j (by omega), List.getElem?_append_right (by simp [marks_len])]
        simp [marks_len, List.getD, hlt]
      obtain ⟨hown2, -⟩ := hown.stored j (.float .f64 (floatOfInt .f64 (k + j)))
      rw [mark_step xs k j hlt] at hown2
      have hgr3 := gset hgr j (.float .f64 (floatOfInt .f64 (k + j)))
      clear hown hgr
      go_wp2
      go_roundw
      case rel => exact ⟨j + 1, by omega, by go_num, by go_num, hown2, hgr3⟩
      case measure => simp [intOf]; omega
    · obtain rfl : j = xs.length := by omega
      have hown2 : wr.ownsRow B 22 1 (.slice (some ⟨g, 0, none⟩) xs.length cap) xs.length ((marks k xs.length).map (Value.float .f64)) := by simpa using hown
      clear hown ho
      go_wp2
      go_ret
      exact ⟨rfl, hown2, hgr⟩

set_option maxHeartbeats 800000 in
theorem c43 (a : Option Addr) (cap n : Nat) (k : Int) (w : World) (hz : Flts w a (marks k n)) (hl : n ≤ 1048576) (hk0 : 0 ≤ k) (hk1 : k ≤ 10000000) :
    Calls Try.prog 43 #[.slice a n cap, .int .i64 k] w fun e w' => e = .returned (.int .i64 (k + n)) ∧ w' = w := by
  go_enter Try.func43, Try.ntmps43
  go_wp2
  go_loop [1, 5] (fun kk i => ∃ j : Nat, j ≤ n ∧ kk = .int .i64 (k + j) ∧ i = .int .i64 j) (fun _ i => n - (intOf i).toNat)
  case atStart => exact ⟨0, Nat.zero_le _, by simp, rfl⟩
  case round =>
    obtain ⟨j, hj, rfl, rfl⟩ := hrel
    by_cases hlt : j < n
    · rcases hz with hz | ⟨b, off, rfl, hc⟩
      · have := marks_len k n; rw [hz] at this; simp at this; omega
      have hck : w.cell? ⟨b, off + j, none⟩ = some (.float .f64 (floatOfInt .f64 (k + j))) := (hc j (by rw [marks_len]; exact hlt)).trans (by rw [marks_get k n j hlt])
      have hne := conv_fin (k + j)
      clear hc
      go_wp2
      go_round
      case rel => exact ⟨j + 1, by omega, by go_num, by go_num⟩
      case measure => simp [intOf]; omega
    · obtain rfl : j = n := by omega
      clear hz
      go_wp2
      go_ret
      exact ⟨rfl, rfl⟩

set_option maxHeartbeats 800000 in
theorem c42 (B n : Nat) (v : Value) (xs : List Nat) (k : Int) (w : World) (hn : xs.length = n) (ho : w.ownsRow B 22 1 v n (xs.map (Value.float .f64))) (hl : n ≤ 1048576) (hk0 : 0 ≤ k) (hk1 : k ≤ 10000000) :
    Calls Try.prog 42 #[v, .int .i64 k] w fun e w' => e = .returned (.int .i64 (k + n)) ∧
      w'.ownsRow B 22 1 v n ((marks k n).map (Value.float .f64)) ∧ w.grownBy w' v.ownBlock := by
  subst hn
  rcases ho.2 with ⟨rfl, h0⟩ | ⟨g, cap, cur, rfl, _⟩
  · have hx : xs = [] := by cases xs <;> simp_all
    subst hx
    go_enter Try.func42, Try.ntmps42
    go_wp2
    go_loop [1, 5] (fun kk i => i = .int .i64 0 ∧ kk = .int .i64 k) (fun _ _ => 0)
    case atStart => exact ⟨rfl, rfl⟩
    case round =>
      obtain ⟨rfl, rfl⟩ := hrel
      go_wp2
      go_ret
      exact ⟨by simp, by simpa [marks] using ho, World.grownBy.refl _ _⟩
  · exact c42g B g cap xs k w ho hl hk0 hk1
theorem c43n (B n : Nat) (v : Value) (k : Int) (w : World) (ho : w.ownsRow B 22 1 v n ((marks k n).map (Value.float .f64))) (hl : n ≤ 1048576) (hk0 : 0 ≤ k) (hk1 : k ≤ 10000000) :
    Calls Try.prog 43 #[v, .int .i64 k] w fun e w' => e = .returned (.int .i64 (k + n)) ∧ w' = w := by
  obtain ⟨a, c, rfl⟩ := own_form ho
  exact c43 a c n k w (flts_own ho (marks_len k n)) hl hk0 hk1
theorem c40n (B1 B2 n : Nat) (v1 v2 : Value) (xs : List Nat) (w : World) (hn : xs.length = n) (h1 : w.ownsRow B1 22 1 v1 n (xs.map (Value.float .f64))) (h2 : w.ownsRow B2 22 1 v2 n (xs.map (Value.float .f64))) (hl : n ≤ maxLen) :
    Calls Try.prog 40 #[v1, v2] w fun e w' => e = .returned (.bool true) ∧ Below w.heap.size w w' := by
  obtain ⟨a1, c1, rfl⟩ := own_form h1
  obtain ⟨a2, c2, rfl⟩ := own_form h2
  subst hn
  exact c40 a1 a2 c1 c2 xs w (flts_own h1 rfl) (flts_own h2 rfl) hl

theorem four {xs : List Value} {m j : Nat} (hl : xs.length = m * 4) (hj : j < m) : ∀ i, i < 4 → ∃ v, xs[j * 4 + i]? = some v := by
  intro i hi
  exact ⟨xs[j * 4 + i]'(by omega), List.getElem?_eq_getElem (by omega)⟩

set_option maxHeartbeats 1600000 in
theorem c41 (B g m cap : Nat) (xs : List Value) (k : Int) (w : World) (ho : w.ownsRow B 27 4 (.slice (some ⟨g, 0, none⟩) m cap) m xs) (hl : m ≤ 1048576) (hk0 : 0 ≤ k) (hk1 : k ≤ 10) :
    Calls Try.prog 41 #[.slice (some ⟨g, 0, none⟩) m cap, .int .i64 k] w fun e w' => e = .returned (.int .i64 (k + 4 * m)) ∧ w.grownBy w' (some g) := by
  go_enter Try.func41, Try.ntmps41
  go_wp2
  go_loopw [1, 5] (fun kk i wr => ∃ (j : Nat) (ys : List Value), j ≤ m ∧ kk = .int .i64 (k + 4 * j) ∧ i = .int .i64 j ∧ wr.ownsRow B 27 4 (.slice (some ⟨g, 0, none⟩) m cap) m ys ∧ w.grownBy wr (some g)) (fun _ i _ => m - (intOf i).toNat)
  case atStart => exact ⟨0, xs, Nat.zero_le _, by simp, rfl, ho, World.grownBy.refl _ _⟩
  case round =>
    obtain ⟨j, ys, hj, rfl, rfl, hown, hgr⟩ := hrel
    by_cases hlt : j < m
    · have f0 := hown.frozenAt (j * 4)
      have f1 := hown.frozenAt (j * 4 + 1)
      have f2 := hown.frozenAt (j * 4 + 2)
      have f3 := hown.frozenAt (j * 4 + 3)
      have hl4 := hown.1
      obtain ⟨v0, z0⟩ := four hl4 hlt 0 (by omega)
      obtain ⟨v1, z1⟩ := four hl4 hlt 1 (by omega)
      obtain ⟨v2, z2⟩ := four hl4 hlt 2 (by omega)
      obtain ⟨v3, z3⟩ := four hl4 hlt 3 (by omega)
      rw [Nat.add_zero, ← hown.cellAt _ (by omega)] at z0
      rw [← hown.cellAt _ (by omega)] at z1 z2 z3
      have O2 := ((((((hown.stored (j * 4) (.float .f64 (floatOfInt .f64 (k + 4 * j)))).1).stored (j * 4 + 1) (.float .f64 (floatOfInt .f64 (k + 4 * j + 1)))).1).stored (j * 4 + 2) (.float .f64 (floatOfInt .f64 (k + 4 * j + 1 + 1)))).1.stored (j * 4 + 3) (.float .f64 (floatOfInt .f64 (k + 4 * j + 1 + 1 + 1)))).1
      have hgr3 := gset (gset (gset (gset hgr (j * 4) (.float .f64 (floatOfInt .f64 (k + 4 * j)))) (j * 4 + 1) (.float .f64 (floatOfInt .f64 (k + 4 * j + 1)))) (j * 4 + 2) (.float .f64 (floatOfInt .f64 (k + 4 * j + 1 + 1)))) (j * 4 + 3) (.float .f64 (floatOfInt .f64 (k + 4 * j + 1 + 1 + 1)))
      clear hown hgr hl4
      have hk2 : k + 4 * (j : Int) ≤ 5000000 := by omega
      have hk3 : 0 ≤ k + 4 * (j : Int) := by omega
      go_wp2
      go_roundw
      case rel => exact ⟨j + 1, _, by omega, by go_num, by go_num, O2, hgr3⟩
      case measure => simp [intOf]; omega
    · obtain rfl : j = m := by omega
      clear hown ho
      go_wp2
      go_ret
      exact ⟨rfl, hgr⟩

end Go.Proofs.Ytcadgafenbmihaa
