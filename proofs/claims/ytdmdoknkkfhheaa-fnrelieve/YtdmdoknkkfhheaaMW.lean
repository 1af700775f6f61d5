/- Drawn work: tasks that come one behind the other; what holds of it. -/
import Derived.Test.YtdmdoknkkfhheaaME
namespace Go.Proofs.Ytdmdoknkkfhheaa
open Go.RowKit

def WkT (x : TaskV) : Prop := 0 ≤ x.e ∧ x.e ≤ 2 ∧ 0 ≤ x.d ∧ x.d ≤ 2 ∧ 0 ≤ x.f ∧ x.f ≤ 2000 ∧ x.f + 5 ≤ x.t ∧ x.t ≤ x.f + 54 ∧ x.p = 5
/-- Tasks one behind the other, and where and when the next begins. -/
structure Wk (ms : List TaskV) (M nd : Int) : Prop where
  each : ∀ i, i < ms.length → WkT (tkA ms i)
  link : ∀ i, i + 1 < ms.length → (tkA ms i).d = (tkA ms (i + 1)).e ∧ (tkA ms i).t ≤ (tkA ms (i + 1)).f ∧ (tkA ms (i + 1)).f < (tkA ms i).t + 40
  last : 0 < ms.length → (tkA ms (ms.length - 1)).d = nd ∧ (tkA ms (ms.length - 1)).t ≤ M ∧ M < (tkA ms (ms.length - 1)).t + 40
  m0 : 0 ≤ M
  m1 : M ≤ 60 + 100 * ms.length
  n0 : 0 ≤ nd ∧ nd ≤ 2
theorem tkA_app1 {a b : List TaskV} {i : Nat} (h : i < a.length) : tkA (a ++ b) i = tkA a i := by
  unfold tkA; simp [List.getD, List.getElem?_append_left h]
theorem tkA_last (a : List TaskV) (x : TaskV) : tkA (a ++ [x]) a.length = x := by
  unfold tkA; simp [List.getD]
theorem Wk.nil {M nd : Int} (h0 : 0 ≤ M) (h1 : M < 60) (n0 : 0 ≤ nd) (n1 : nd < 3) : Wk [] M nd :=
  ⟨fun i h => by simp at h, fun i h => by simp at h, fun h => by simp at h, h0, by simp; omega, n0, by omega⟩
theorem Wk.snoc {ms : List TaskV} {M nd nx y g : Int} (h : Wk ms M nd) (hl : ms.length ≤ 12) (x0 : 0 ≤ nx) (x1 : nx < 3) (y0 : 0 ≤ y) (y1 : y < 50) (g0 : 0 ≤ g) (g1 : g < 40) :
    Wk (ms ++ [⟨nd, nx, M, M + 5 + y, 5⟩]) (M + 5 + y + g) nx := by
  have hn := h.n0
  have h0 := h.m0
  have h1 := h.m1
  refine ⟨fun i hi => ?_, fun i hi => ?_, fun _ => ?_, by omega, ?_, x0, by omega⟩
  · rw [List.length_append] at hi
    by_cases e : i < ms.length
    · rw [tkA_app1 e]; exact h.each i e
    · obtain rfl : i = ms.length := by simp at hi; omega
      rw [tkA_last]; unfold WkT; dsimp only; omega
  · rw [List.length_append] at hi
    by_cases e : i + 1 < ms.length
    · rw [tkA_app1 (by omega), tkA_app1 e]; exact h.link i e
    · have hl : i + 1 = ms.length := by simp at hi; omega
      rw [tkA_app1 (by omega), hl, tkA_last]
      have := h.last (by omega)
      rw [show ms.length - 1 = i by omega] at this
      exact this
  · rw [List.length_append, List.length_singleton, Nat.add_sub_cancel, tkA_last]
    dsimp only; omega
  · rw [List.length_append, List.length_singleton]; omega
def endT : TaskV := ⟨0, 1, 3, 30, 0⟩
def rangeI (n : Nat) : List Int := (List.range n).map (fun (i : Nat) => (i : Int))
theorem rangeI_len (n : Nat) : (rangeI n).length = n := by simp [rangeI]
theorem rangeI_get {n i : Nat} (h : i < n) : (rangeI n).getD i 0 = (i : Int) := by simp [rangeI, List.getD, h]
theorem rangeI_succ (n : Nat) : rangeI (n + 1) = rangeI n ++ [(n : Int)] := by simp [rangeI, List.range_succ]
theorem WkT.ok {x : TaskV} (h : WkT x) : taskB x = true := by
  unfold WkT at h; exact taskB_iff.2 (by omega)
theorem all_of {s : List TaskV} (h : ∀ i, i < s.length → taskB (tkA s i) = true) : s.all taskB = true := by
  rw [List.all_eq_true]
  intro x hx
  obtain ⟨i, hi, rfl⟩ := List.mem_iff_getElem.1 hx
  have := h i hi
  unfold tkA at this
  rwa [getD_lt hi] at this
theorem Wk.all {ms : List TaskV} {M nd : Int} (h : Wk ms M nd) : ms.all taskB = true := all_of (fun i hi => (h.each i hi).ok)
theorem Wk.tasks {ms : List TaskV} {M nd : Int} (h : Wk ms M nd) (hl : ms.length ≤ 12) : tasksB (ms ++ [endT]) = true := by
  simp only [tasksB, Bool.and_eq_true, decide_eq_true_eq]
  refine ⟨by simp; omega, ?_⟩
  rw [List.all_append, h.all]
  rfl
theorem take_range {m n : Nat} (h : m ≤ n) : (rangeI n).take m = rangeI m := by
  unfold rangeI
  rw [← List.map_take, List.take_range, Nat.min_eq_left h]
theorem range_ok {n k : Nat} (h : n ≤ k) : ∀ i, i < (rangeI n).length → okP (k + 1) (rangeI n) i = true := by
  intro i hi
  rw [rangeI_len] at hi
  simp only [okP, Bool.and_eq_true]
  rw [rangeI_get hi, take_range (by omega)]
  refine ⟨inB_yes (by omega) (by omega), ?_⟩
  have : (i : Int) ∉ rangeI i := by
    unfold rangeI
    intro hm
    obtain ⟨j, hj, e⟩ := List.mem_map.1 hm
    have := List.mem_range.1 hj
    omega
  simpa only [Bool.not_eq_true', List.contains_eq_mem, decide_eq_false_iff_not] using this
theorem Wk.places {ms : List TaskV} {M nd : Int} (h : Wk ms M nd) (hl : ms.length ≤ 12) {n m : Nat} (hn : n ≤ ms.length) (hm : n ≤ m) : plB (ms ++ [endT]) (rangeI n) m = true := by
  refine plB_iff.2 ⟨h.tasks hl, by rw [rangeI_len]; exact hm, ?_⟩
  have := range_ok (n := n) (k := ms.length) hn
  simpa using this
theorem Wk.pick {ms : List TaskV} {n : Nat} (hn : n ≤ ms.length) : pickL (ms ++ [endT]) (rangeI n) = ms.take n := by
  apply List.ext_getElem
  · rw [pickL_len, rangeI_len]; simp; omega
  · intro i h1 h2
    have hi : i < n := by rw [pickL_len, rangeI_len] at h1; exact h1
    have e := tkA_pick (ts := ms ++ [endT]) (ps := rangeI n) (i := i) (by rw [rangeI_len]; exact hi)
    rw [rangeI_get hi, Int.toNat_natCast, tkA_app1 (by omega)] at e
    unfold tkA at e
    rw [getD_lt h1, getD_lt (by omega)] at e
    rw [e, List.getElem_take]
theorem Wk.take {ms : List TaskV} {M nd : Int} (h : Wk ms M nd) (n : Nat) : (∀ i, i < (ms.take n).length → WkT (tkA (ms.take n) i)) ∧ (∀ i, i + 1 < (ms.take n).length → (tkA (ms.take n) i).d = (tkA (ms.take n) (i + 1)).e ∧ (tkA (ms.take n) i).t ≤ (tkA (ms.take n) (i + 1)).f ∧ (tkA (ms.take n) (i + 1)).f < (tkA (ms.take n) i).t + 40) := by
  have hl : (ms.take n).length = min n ms.length := by simp
  refine ⟨fun i hi => ?_, fun i hi => ?_⟩
  · rw [tkA_take (by omega)]; exact h.each i (by omega)
  · rw [tkA_take (by omega), tkA_take (by omega)]; exact h.link i (by omega)
/-- Work in a row. -/
structure Row (s : List TaskV) : Prop where
  each : ∀ i, i < s.length → WkT (tkA s i)
  link : ∀ i, i + 1 < s.length → (tkA s i).d = (tkA s (i + 1)).e ∧ (tkA s i).t ≤ (tkA s (i + 1)).f ∧ (tkA s (i + 1)).f < (tkA s i).t + 40
theorem Row.all {s : List TaskV} (h : Row s) : s.all taskB = true := all_of (fun i hi => (h.each i hi).ok)
theorem Row.ord {s : List TaskV} (h : Row s) : ordB s = true := ordB_iff.2 (fun i hi => by
  have := h.link i hi
  simp [lnkB, this.1, this.2.1])
theorem Row.joined {s : List TaskV} (h : Row s) : Jn 1440 s 0 s.length := fun q h1 h2 => by
  have := h.link (q - 1) (by omega)
  rw [show q - 1 + 1 = q by omega] at this
  unfold gp; omega
theorem Row.str_le {s : List TaskV} (h : Row s) (rest : Int) : strV rest s ≤ drv s := by
  rcases (strV_most (rest := rest) h.all).att with e | ⟨i, j, a1, a2, a3, a4⟩
  · rw [e]; exact (drv_bound h.all).1
  · rw [a4]
    have b1 := pre_mono h.all a2 (Nat.le_refl _)
    have b2 := (pre_bound h.all (b := i) (by omega)).1
    unfold drv; omega
theorem Row.str_all {s : List TaskV} (h : Row s) (h0 : 0 < s.length) : strV 1440 s = drv s := by
  have h1 := h.str_le 1440
  have h2 := (strV_most (rest := 1440) h.all).ub 0 s.length h0 (Nat.le_refl _) trivial h.joined
  rw [pre_zero] at h2
  unfold drv at *; omega
theorem Row.str_pos {s : List TaskV} (h : Row s) (h0 : 0 < s.length) (rest : Int) : 1 ≤ strV rest s := by
  have h2 := (strV_most (rest := rest) h.all).ub 0 1 (by omega) h0 trivial (Jn.one rest s 0)
  rw [pre_zero, pre_succ h0, pre_zero] at h2
  have := (mn_pos (tkA_ok h.all h0)).1
  omega
theorem Row.spd_ge {s : List TaskV} (h : Row s) : ∀ k, k < s.length → pre s (k + 1) ≤ (tkA s k).t - (tkA s 0).f ∧ (tkA s k).t - (tkA s 0).f ≤ 100 * (k + 1)
  | 0, hk => by
    have := h.each 0 hk
    unfold WkT at this
    rw [pre_succ hk, pre_zero]; unfold mn; omega
  | k + 1, hk => by
    obtain ⟨h1, h2⟩ := Row.spd_ge h k (by omega)
    have h3 := h.link k hk
    have h4 := h.each (k + 1) hk
    unfold WkT at h4
    rw [pre_succ hk]; unfold mn; omega
theorem Row.spdB {s : List TaskV} (h : Row s) (h0 : 0 < s.length) : drv s ≤ spd s ∧ spd s ≤ 100 * s.length := by
  have := h.spd_ge (s.length - 1) (by omega)
  rw [show s.length - 1 + 1 = s.length by omega] at this
  unfold spd drv
  omega
theorem Row.wide {s : List TaskV} (h : Row s) (h0 : 0 < s.length) (h3 : s.length ≤ 3) : codeV ⟨1440, 1440, 1, 1440⟩ s = 0 := by
  have a := h.spdB h0
  have b := h.str_le 1
  rw [codeV_zero]
  exact ⟨h.ord, by dsimp only; omega, by dsimp only; omega, by dsimp only; omega⟩
theorem Row.of_take {ms : List TaskV} {M nd : Int} (h : Wk ms M nd) (n : Nat) : Row (ms.take n) := ⟨(h.take n).1, (h.take n).2⟩
/-- What is paid. -/
theorem pay_ge {r : RuleV} {s : List TaskV} {rate : Int} (h : Row s) (h0 : 0 < s.length) (hr : 0 ≤ rate) : rate * drv s ≤ payV r s rate := by
  have a := h.spdB h0
  unfold payV
  exact Int.mul_le_mul_of_nonneg_left (by omega) hr
theorem pay_more {r : RuleV} {s : List TaskV} {rate : Int} (h : Row s) (h0 : 0 < s.length) : drv s ≤ payV r s (rate + 1) - payV r s rate := by
  have a := h.spdB h0
  unfold payV
  rw [Int.add_mul, Int.one_mul]
  omega
theorem pay_zero (r : RuleV) (s : List TaskV) : payV r s 0 = 0 := by unfold payV; rw [Int.zero_mul]
theorem pay_range {r : RuleV} {s : List TaskV} {rate : Int} (h : Row s) (h0 : 0 < s.length) (h3 : s.length ≤ 3) (hr : 0 ≤ rate) (hr1 : rate ≤ 1000) (hd : 0 ≤ r.d / 2) : 0 ≤ payV r s rate ∧ payV r s rate ≤ 10000000 := by
  have a := h.spdB h0
  have b := (drv_bound h.all).1
  unfold payV
  have k1 := Int.mul_le_mul_of_nonneg_left (show spd s + max 0 (drv s - r.d / 2) ≤ 1000 by omega) hr
  have k2 := Int.mul_nonneg hr (show 0 ≤ spd s + max 0 (drv s - r.d / 2) by omega)
  omega
end Go.Proofs.Ytdmdoknkkfhheaa
