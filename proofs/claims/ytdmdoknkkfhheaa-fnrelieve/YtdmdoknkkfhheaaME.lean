/- The model's fewest duties. -/
import Derived.Test.YtdmdoknkkfhheaaMD
namespace Go.Proofs.Ytdmdoknkkfhheaa
open Go.RowKit

section
variable {fine : Nat → Nat → Bool} {n : Nat} {D : Nat → Nat}
/-- What the model has found for place i, with all ahead of j asked. -/
def FewTo (fine : Nat → Nat → Bool) (D : Nat → Nat) (i j : Nat) (x : Int) : Prop :=
  (x = -1 ∧ ∀ q, i < q → q < j → fine i q = true → D q = 41) ∨
  ∃ m : Nat, x = (m : Int) ∧ (∃ q, i < q ∧ q < j ∧ fine i q = true ∧ D q ≠ 41 ∧ m = 1 + D q) ∧ ∀ q, i < q → q < j → fine i q = true → D q ≠ 41 → m ≤ 1 + D q
theorem FewTo.start (fine : Nat → Nat → Bool) (D : Nat → Nat) (i : Nat) : FewTo fine D i (i + 1) (-1) := .inl ⟨rfl, fun q h1 h2 => by omega⟩
theorem FewTo.none {i j : Nat} {x : Int} (h : FewTo fine D i j x) (hd : D j = 41 ∨ fine i j = false) : FewTo fine D i (j + 1) x := by
  rcases h with ⟨h1, h2⟩ | ⟨m, h1, ⟨q, q1, q2, q3, q4, q5⟩, h3⟩
  · refine .inl ⟨h1, fun q a1 a2 a3 => ?_⟩
    by_cases e : q = j
    · subst e
      rcases hd with hd | hd
      · exact hd
      · rw [hd] at a3; cases a3
    · exact h2 q a1 (by omega) a3
  · refine .inr ⟨m, h1, ⟨q, q1, by omega, q3, q4, q5⟩, fun p a1 a2 a3 a4 => ?_⟩
    by_cases e : p = j
    · subst e
      rcases hd with hd | hd
      · exact absurd hd a4
      · rw [hd] at a3; cases a3
    · exact h3 p a1 (by omega) a3 a4
theorem FewTo.take {i j : Nat} {x : Int} (h : FewTo fine D i j x) (hij : i < j) (hf : fine i j = true) (hd : D j ≠ 41) (hx : x < 0 ∨ (D j : Int) + 1 < x) : FewTo fine D i (j + 1) ((D j : Int) + 1) := by
  refine .inr ⟨1 + D j, by omega, ⟨j, hij, by omega, hf, hd, rfl⟩, fun p a1 a2 a3 a4 => ?_⟩
  by_cases e : p = j
  · subst e; exact Nat.le_refl _
  · rcases h with ⟨h1, h2⟩ | ⟨m, h1, _, h3⟩
    · exact absurd (h2 p a1 (by omega) a3) a4
    · have := h3 p a1 (by omega) a3 a4; omega
theorem FewTo.keep {i j : Nat} {x : Int} (h : FewTo fine D i j x) (hx : ¬ (x < 0 ∨ (D j : Int) + 1 < x)) : FewTo fine D i (j + 1) x := by
  rcases h with ⟨h1, h2⟩ | ⟨m, h1, ⟨q, q1, q2, q3, q4, q5⟩, h3⟩
  · omega
  · refine .inr ⟨m, h1, ⟨q, q1, by omega, q3, q4, q5⟩, fun p a1 a2 a3 a4 => ?_⟩
    by_cases e : p = j
    · subst e; omega
    · exact h3 p a1 (by omega) a3 a4
theorem FewTo.done {i j : Nat} {x : Int} (h : FewTo fine D i j x) (hD : IsD fine n D) (hn : n ≤ 40) (hi : i < n) (hj : j ≤ n + 1) (hr : ∀ q, j ≤ q → q ≤ n → fine i q = false) : x = fwV D i := by
  have hle := hD.le i hi
  unfold fwV
  rcases h with ⟨h1, h2⟩ | ⟨m, h1, ⟨q, q1, q2, q3, q4, q5⟩, h3⟩
  · have : D i = 41 := by
      rcases hD.att i hi with a | ⟨q, q1, q2, q3, q4⟩
      · exact a
      · by_cases e : q < j
        · have := h2 q q1 e q3; omega
        · rw [hr q (by omega) q2] at q3; cases q3
    rw [if_pos this]; exact h1
  · have hs := hD.lt hn (i := q) (by omega)
    have hu := hD.ub i q q1 (by omega) q3
    have hne : D i ≠ 41 := by omega
    rw [if_neg hne]
    rcases hD.att i hi with a | ⟨p, p1, p2, p3, p4⟩
    · exact absurd a hne
    · by_cases e : p < j
      · have := h3 p p1 e p3 (by omega); omega
      · rw [hr p (by omega) p2] at p3; cases p3
theorem FewTo.range {i j : Nat} {x : Int} (h : FewTo fine D i j x) (hD : IsD fine n D) (hj : j ≤ n + 1) : -1 ≤ x ∧ x ≤ 41 := by
  rcases h with ⟨h1, h2⟩ | ⟨m, h1, ⟨q, q1, q2, q3, q4, q5⟩, h3⟩
  · omega
  · by_cases e : q = n
    · subst e; have := hD.last; omega
    · have := hD.le q (by omega); omega
theorem fwV_range (hD : IsD fine n D) {i : Nat} (hi : i ≤ n) : -1 ≤ fwV D i ∧ fwV D i ≤ 40 := by
  unfold fwV
  by_cases e : i = n
  · subst e; rw [hD.last]; simp
  · have := hD.le i (by omega)
    by_cases h : D i = 41
    · rw [if_pos h]; omega
    · rw [if_neg h]; omega
theorem fwV_neg {i : Nat} : fwV D i < 0 ↔ D i = 41 := by
  unfold fwV
  by_cases h : D i = 41
  · rw [if_pos h]; exact ⟨fun _ => h, fun _ => by omega⟩
  · rw [if_neg h]; exact ⟨fun h2 => by omega, fun h2 => absurd h2 h⟩
theorem fwV_pos {i : Nat} (h : D i ≠ 41) : fwV D i = (D i : Int) := by unfold fwV; rw [if_neg h]
end
theorem dc_fine {ts : List TaskV} {ps : List Int} {r : RuleV} (hp : plB ts ps 40 = true) (hr : ruleB r = true) {i j : Nat} (h1 : i < j) (h2 : j ≤ ps.length) : dcV ts (cutL ps i j) r = 0 ↔ fineB r (pickL ts ps) i j = true := by
  obtain ⟨p1, p2, p3⟩ := plB_iff.1 hp
  have hl : (cutL ps i j).length = j - i := cutL_len h2
  by_cases hc : j ≤ i + 12
  · have hd : dutyB ts (cutL ps i j) = true := by
      unfold dutyB
      have : plB ts (cutL ps i j) 12 = true := plB_iff.2 ⟨p1, by omega, okP_cut p3 h2⟩
      rw [this]; simp; omega
    rw [dcV_yes hd hr]
    simp only [fineB, hc, decide_true, Bool.true_and, decide_eq_true_eq]
    rw [cutL_pick]
  · have hd : dutyB ts (cutL ps i j) = false := by
      unfold dutyB
      have : plB ts (cutL ps i j) 12 = false := by
        cases hq : plB ts (cutL ps i j) 12
        · rfl
        · have := (plB_iff.1 hq).2.1; omega
      rw [this]; rfl
    rw [dcV_no1 hd]
    simp [fineB, hc]
end Go.Proofs.Ytdmdoknkkfhheaa
