/- What Relieve tells of drawn work. -/
import Derived.Test.YtdmdoknkkfhheaaMW
namespace Go.Proofs.Ytdmdoknkkfhheaa
open Go.RowKit

theorem Bg.nexts {fine : Nat → Nat → Bool} {n : Nat} {D : Nat → Nat} {i k : Nat} {l : List Nat} (h : Bg fine n D i l k) : l.getD 0 k = i ∧ ∀ q, q < l.length → IsNext fine n D (l.getD q k) (l.getD (q + 1) k) := by
  induction h with
  | nil => exact ⟨by simp, fun q hq => by simp at hq⟩
  | @snoc k j l h1 h2 h3 ih =>
    have e1 : ∀ q, q < l.length → (l ++ [k]).getD q j = l.getD q k := fun q hq => by simp [List.getD, List.getElem?_append_left hq, hq]
    have e2 : (l ++ [k]).getD l.length j = k := by simp [List.getD]
    have e3 : (l ++ [k]).getD (l.length + 1) j = j := by simp [List.getD]
    have e4 : l.getD l.length k = k := by simp [List.getD]
    refine ⟨?_, fun q hq => ?_⟩
    · by_cases e : l.length = 0
      · have : l = [] := List.length_eq_zero_iff.1 e
        subst this
        have := ih.1
        simpa using this
      · rw [e1 0 (by omega)]; exact ih.1
    · rw [List.length_append, List.length_singleton] at hq
      by_cases e : q < l.length
      · rw [e1 q e]
        by_cases e' : q + 1 < l.length
        · rw [e1 _ e']; exact ih.2 q e
        · have hx : q + 1 = l.length := by omega
          have := ih.2 q e
          rw [hx, e4] at this
          rw [hx, e2]; exact this
      · obtain rfl : q = l.length := by omega
        rw [e2, e3]; exact h3
theorem cut_all {α : Type} (ps : List α) : cutL ps 0 ps.length = ps := by simp [cutL]
theorem pre_cut {s : List TaskV} {i j : Nat} (h1 : i ≤ j) (h2 : j ≤ s.length) : drv (cutL s i j) = pre s j - pre s i := by
  have key : ∀ k, k ≤ j - i → pre (cutL s i j) k = pre s (i + k) - pre s i := by
    intro k
    induction k with
    | zero => intro _; rw [pre_zero]; simp
    | succ k ih =>
      intro hk
      rw [pre_succ (by rw [cutL_len h2]; omega), ih (by omega), ← Nat.add_assoc, pre_succ (by omega)]
      have e : tkA (cutL s i j) k = tkA s (i + k) := by
        unfold tkA cutL
        rw [List.drop_take]
        simp [List.getD, show k < j - i by omega]
      rw [e]; omega
  unfold drv
  rw [cutL_len h2, key _ (Nat.le_refl _), show i + (j - i) = j by omega]
/-- What is told. -/
structure ToldR (ts ms : List TaskV) (m : Nat) (r : RuleV) (zs : List Int) (ok : Bool) (x : Int) : Prop where
  c : dcV ts (rangeI m) r = x
  no : ok = false → zs = [] ∧ x ≠ 0
  yes : ok = true → ∃ l : List Nat, zs = l.map (fun (i : Nat) => (i : Int)) ∧ 0 < l.length ∧ l.length ≤ 12 ∧ l.getD 0 m = 0 ∧
    (∀ i, i < l.length → l.getD i m < l.getD (i + 1) m ∧ l.getD (i + 1) m ≤ m ∧ dcV ts (cutL (rangeI m) (l.getD i m) (l.getD (i + 1) m)) r = 0 ∧ drivenV ts (cutL (rangeI m) (l.getD i m) (l.getD (i + 1) m)) = pre ms (l.getD (i + 1) m) - pre ms (l.getD i m)) ∧ (l.length = 1 ↔ x = 0)
theorem toldR {ms : List TaskV} {M nd : Int} {r : RuleV} (h : Wk ms M nd) (h1 : 1 ≤ ms.length) (hl : ms.length ≤ 12) (hr : ruleB r = true) {zs : List Int} {ok : Bool} (hR : RelA (ms ++ [endT]) (rangeI ms.length) r zs ok) :
    ToldR (ms ++ [endT]) ms ms.length r zs ok (dcV (ms ++ [endT]) (rangeI ms.length) r) := by
  have hp := h.places hl (Nat.le_refl ms.length) (m := 40) (by omega)
  have hpk : pickL (ms ++ [endT]) (rangeI ms.length) = ms := by rw [Wk.pick (Nat.le_refl _), List.take_length]
  have hln := rangeI_len ms.length
  rcases hR with ⟨hb, _⟩ | ⟨_, D, hD, hR⟩
  · rw [hp, hr] at hb; cases hb
  have hF := fun {i j : Nat} (a1 : i < j) (a2 : j ≤ (rangeI ms.length).length) => dc_fine hp hr a1 a2
  rw [hln] at hD hR
  simp only [hln] at hF
  have h0m := hF (i := 0) (j := ms.length) (by omega) (Nat.le_refl _)
  have hall : cutL (rangeI ms.length) 0 ms.length = rangeI ms.length := by
    have := cut_all (rangeI ms.length)
    rwa [hln] at this
  rw [hall] at h0m
  refine ⟨rfl, fun ho => ?_, fun ho => ?_⟩
  · rcases hR with ⟨r1, r2, _⟩ | ⟨_, r2, _⟩
    · refine ⟨r2, fun hx => ?_⟩
      have := hD.ub 0 ms.length (by omega) (Nat.le_refl _) (h0m.1 hx)
      rw [hD.last] at this
      omega
    · rw [ho] at r2; cases r2
  · rcases hR with ⟨_, _, r2⟩ | ⟨r1, _, l, r3, r4⟩
    · rw [ho] at r2; cases r2
    · have hlen := r3.len
      have hn := r3.nexts
      have hpos := hD.pos (i := 0) (by omega)
      rw [hD.last] at hlen
      refine ⟨l, r4, by omega, by omega, hn.1, fun i hi => ?_, ?_⟩
      · have hx := hn.2 i hi
        have hf := (hF hx.lo hx.hi).2 hx.fn
        refine ⟨hx.lo, hx.hi, hf, ?_⟩
        rw [drivenV_yes (dcV_zero hf).1, ← cutL_pick, hpk]
        exact pre_cut (Nat.le_of_lt hx.lo) hx.hi
      · rw [h0m]
        constructor
        · intro h1
          have hx := hn.2 0 (by omega)
          rw [hn.1] at hx
          have e : l.getD (0 + 1) ms.length = ms.length := by simp [List.getD, h1]
          rw [e] at hx
          exact hx.fn
        · intro hf
          have := hD.ub 0 ms.length (by omega) (Nat.le_refl _) hf
          rw [hD.last] at this
          omega
end Go.Proofs.Ytdmdoknkkfhheaa
