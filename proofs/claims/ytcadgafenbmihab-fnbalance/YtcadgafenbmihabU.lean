/- A steeper slope drags more: the mathematics of the balance. -/
import Derived.Test.YtcadgafenbmihabDP
import Derived.Test.YtcadgafenbmihabB2
namespace Go.Proofs.Ytcadgafenbmihab
open Go.RowKit Fl

theorem mul_fv {x y : Nat} (hx : fin x) (hy : fin y) : fv (fmul x y) = if (sg x ^^ sg y) then -(mg (rr 1074 (mg (rg x) * mg (rg y))) : Int) else (mg (rr 1074 (mg (rg x) * mg (rg y))) : Int) := by
  have e : fmul x y = Ieee.double.word (sg x ^^ sg y) (rr 1074 (mg (rg x) * mg (rg y))) := by unfold fmul; rw [mul_eq hx hy]; rfl
  rw [e]
  generalize hr : rr 1074 (mg (rg x) * mg (rg y)) = r
  have hlt : r < 2 ^ 63 := hr ▸ rr_lt _ _
  unfold fv
  rw [rg_word _ hlt, sg_word _ hlt]
theorem fv_of (x : Nat) : (sg x = true ∧ fv x = -(mg (rg x) : Int)) ∨ (sg x = false ∧ fv x = (mg (rg x) : Int)) := by
  unfold fv
  cases sg x
  · exact .inr ⟨rfl, rfl⟩
  · exact .inl ⟨rfl, rfl⟩
theorem mul_mono {m y z : Nat} (hm : fin m) (hs : sg m = false) (hy : fin y) (hz : fin z) (h : fv y ≤ fv z) : fv (fmul m y) ≤ fv (fmul m z) := by
  rw [mul_fv hm hy, mul_fv hm hz, hs]
  have mono : ∀ a b, a ≤ b → mg (rr 1074 (mg (rg m) * a)) ≤ mg (rr 1074 (mg (rg m) * b)) := fun a b hab => mg_mono (rr_mono (Nat.mul_le_mul_left _ hab))
  have zero : mg (rr 1074 (mg (rg m) * 0)) = 0 := by rw [Nat.mul_zero]; have : rr 1074 0 = 0 := by unfold rr; rw [if_pos rfl]
                                                     rw [this, mg_zero]
  generalize hf : (fun a => mg (rr 1074 (mg (rg m) * a))) = f at *
  have mono' : ∀ a b, a ≤ b → f a ≤ f b := by subst hf; exact mono
  have zero' : f 0 = 0 := by subst hf; exact zero
  have e1 : mg (rr 1074 (mg (rg m) * mg (rg y))) = f (mg (rg y)) := by subst hf; rfl
  have e2 : mg (rr 1074 (mg (rg m) * mg (rg z))) = f (mg (rg z)) := by subst hf; rfl
  rw [e1, e2]
  clear e1 e2 mono zero hf
  rcases fv_of y with ⟨s1, v1⟩ | ⟨s1, v1⟩ <;> rcases fv_of z with ⟨s2, v2⟩ | ⟨s2, v2⟩ <;> rw [s1, s2] <;> rw [v1, v2] at h <;> simp only [Bool.false_bne, Bool.bne_true, Bool.not_false, if_true, Bool.false_eq_true, if_false]
  · have := mono' (mg (rg z)) (mg (rg y)) (by omega); omega
  · omega
  · have h1 : mg (rg y) = 0 := by omega
    have h2 : mg (rg z) = 0 := by omega
    rw [h1, h2, zero']; omega
  · have := mono' (mg (rg y)) (mg (rg z)) (by omega); omega

theorem drag_le (v sl s2 : Nat) (h1 : slp sl = true) (h2 : slp s2 = true) (hle : fv sl ≤ fv s2) (cs : List CarV) : ∀ (s t e : Nat), (∀ c ∈ cs, carOk c = true) → Bd e s → Bd e t → fv s ≤ fv t → 1047 ≤ e → e + 2 * cs.length < 2047 → fv (dragFrom v sl s cs) ≤ fv (dragFrom v s2 t cs) := by
  induction cs with
  | nil => intro s t e _ _ _ h _ _; exact h
  | cons c cs ih =>
    intro s t e hc bs bt h he he2
    have hl : (c :: cs).length = cs.length + 1 := rfl
    rw [hl] at he2
    have hcc := hc c (by simp)
    obtain ⟨-, a1, a2⟩ := vadd bs ((resist_bd c v).mono he) (by omega) (by omega)
    obtain ⟨-, b1, b2⟩ := vadd bt ((resist_bd c v).mono he) (by omega) (by omega)
    have bm := (car_bd hcc).1
    obtain ⟨-, m1⟩ := vmul 1036 bm (slp_bd h1) (by decide) (by decide) (by decide) (by decide) (by decide) (by decide) (by decide)
    obtain ⟨-, m2⟩ := vmul 1036 bm (slp_bd h2) (by decide) (by decide) (by decide) (by decide) (by decide) (by decide) (by decide)
    obtain ⟨-, c1, c2⟩ := vadd a1 (m1.mono (show 1036 ≤ e + 1 by omega)) (by omega) (by omega)
    obtain ⟨-, d1, d2⟩ := vadd b1 (m2.mono (show 1036 ≤ e + 1 by omega)) (by omega) (by omega)
    have hms : sg c.m = false := fv_pos (Int.lt_of_lt_of_le one_pos (mass_ge hcc))
    have hmm := mul_mono (bm.fin (by decide)) hms ((slp_bd h1).fin (by decide)) ((slp_bd h2).fin (by decide)) hle
    have g1 : fv (fadd s (resist c v)) ≤ fv (fadd t (resist c v)) := by rw [a2, b2]; exact rv_mono (by omega)
    have g2 : fv (fadd (fadd s (resist c v)) (fmul c.m sl)) ≤ fv (fadd (fadd t (resist c v)) (fmul c.m s2)) := by rw [c2, d2]; exact rv_mono (by omega)
    exact ih _ _ (e + 2) (fun d hd => hc d (by simp [hd])) c1 d1 g2 (by omega) (by omega)
theorem drag_mono {es : List CarV} {v sl s2 : Nat} (h1 : slp sl = true) (h2 : slp s2 = true) (hle : fv sl ≤ fv s2) : fv (drag es v sl) ≤ fv (drag es v s2) := by
  unfold drag
  rw [h1, h2]
  by_cases h : (trainOk es && spd v) = true
  · rw [h]
    simp only [Bool.and_true, if_true]
    simp only [Bool.and_eq_true] at h
    have hl := (train_len h.1).2
    exact drag_le v sl s2 h1 h2 hle es 0 0 1047 (train_ok h.1) (bd0 _) (bd0 _) (Int.le_refl _) (by omega) (by omega)
  · rw [Bool.not_eq_true] at h; rw [h]; simp

theorem balFrom_le (l : LocoV) (es : List CarV) (sl : Nat) : ∀ k : Nat, -1 ≤ balFrom l es sl k ∧ balFrom l es sl k ≤ (k : Int) - 1 := by
  intro k
  induction k with
  | zero => exact ⟨by unfold balFrom; omega, by unfold balFrom; omega⟩
  | succ k ih =>
    unfold balFrom
    split
    · omega
    · omega
theorem balFrom_at (l : LocoV) (es : List CarV) (sl : Nat) : ∀ k n : Nat, balFrom l es sl k = (n : Int) → flt (effort l (fi n)) (drag es (fi n) sl) = false := by
  intro k
  induction k with
  | zero => intro n h; unfold balFrom at h; omega
  | succ k ih =>
    intro n h
    unfold balFrom at h
    split at h
    · exact ih n h
    · rename_i hf
      obtain rfl : k = n := by omega
      simpa using hf
theorem balFrom_above (l : LocoV) (es : List CarV) (sl : Nat) : ∀ k n : Nat, balFrom l es sl k < (n : Int) → n < k → flt (effort l (fi n)) (drag es (fi n) sl) = true := by
  intro k
  induction k with
  | zero => intro n _ h; omega
  | succ k ih =>
    intro n h hn
    unfold balFrom at h
    split at h
    · rename_i hf
      by_cases e : n = k
      · subst e; exact hf
      · exact ih n h (by omega)
    · omega
theorem balFrom_mono {l : LocoV} {es : List CarV} {sl s2 : Nat} (h1 : slp sl = true) (h2 : slp s2 = true) (hle : fv sl ≤ fv s2) : ∀ k : Nat, balFrom l es s2 k ≤ balFrom l es sl k := by
  intro k
  induction k with
  | zero => exact Int.le_refl _
  | succ k ih =>
    unfold balFrom
    have hd := drag_mono (es := es) (v := fi k) h1 h2 hle
    have f1 := (effort_bd l (fi k)).fin (by decide)
    have f2 := (drag_all (cs := es) (v := fi k) (sl := sl)).fin (by decide)
    have f3 := (drag_all (cs := es) (v := fi k) (sl := s2)).fin (by decide)
    by_cases h : flt (effort l (fi k)) (drag es (fi k) sl) = true
    · have h' : flt (effort l (fi k)) (drag es (fi k) s2) = true := by
        rw [flt_eq f1 f2] at h
        rw [flt_eq f1 f3]
        simp only [decide_eq_true_eq] at h ⊢
        omega
      rw [h, h']; exact ih
    · rw [Bool.not_eq_true] at h
      rw [h]
      simp only [Bool.false_eq_true, if_false]
      split
      · have := balFrom_le l es s2 k; omega
      · omega
theorem bal_mono {l : LocoV} {es : List CarV} {sl s2 : Nat} (h0 : locoOk l = true) (ht : trainOk es = true) (h1 : slp sl = true) (hle : slp s2 = true → fv sl ≤ fv s2) : bal l es s2 ≤ bal l es sl := by
  rw [bal_yes h0 ht h1]
  cases h2 : slp s2
  · rw [bal_no (by rw [h2]; simp)]
    exact (balFrom_le l es sl 201).1
  · rw [bal_yes h0 ht h2]
    exact balFrom_mono h1 h2 (hle h2) 201

theorem slope_in2 {n : Int} (h0 : 0 ≤ n) (h1 : n < 64) : floatBits .quo .f64 (floatOfInt .f64 (n - 20)) k256 = some (fdiv (floatOfInt .f64 (n - 20)) k256) ∧ slp (fdiv (floatOfInt .f64 (n - 20)) k256) = true := by
  have hb := conv_any (n - 20) 6 (by omega) (by omega)
  have hY : fin k256 := by unfold fin rg; decide
  obtain ⟨q1, q2, q3, q4, q5⟩ := vquo (hb.fin (by omega)) hY (by unfold rg; decide)
  have g := mg_P2 (x := k256) (e := 1031) (by unfold rg; decide) (by omega)
  rw [show 51 + 1031 = 1074 + 8 by omega] at g
  have b := q4 (1023 + 6) 8 (by omega) (by omega) (P2_mg hb (by omega)) g
  generalize fdiv (floatOfInt .f64 (n - 20)) k256 = q at *
  refine ⟨q1, ?_⟩
  have hf := b.fin (by omega)
  have hm1 : fin km1 := by unfold fin rg; decide
  unfold slp inR
  rw [fle_eq hm1 hf, fle_eq hf fin1]
  have h1 := mg_mono (Nat.le_trans b (show (1023 + 6 - 8) * 2 ^ 52 ≤ rg k1 by unfold rg; decide))
  have h2 : fv k1 = mg (rg k1) := fv_nn (by unfold sg; decide)
  have h3 : fv km1 = -(mg (rg k1) : Int) := by
    unfold fv; rw [show sg km1 = true by unfold sg; decide, show rg km1 = rg k1 by unfold rg; decide]; rfl
  have h4 := fv_abs q
  rw [h2, h3]
  simp
  omega
/-- The steeper slope. -/
theorem steeper {n sl : Nat} (h : n < 32) (hs : slp sl = true) : floatBits .quo .f64 (floatOfInt .f64 (n : Int)) k256 = some (fdiv (floatOfInt .f64 (n : Int)) k256) ∧
    floatBits .add .f64 sl (fdiv (floatOfInt .f64 (n : Int)) k256) = some (fadd sl (fdiv (floatOfInt .f64 (n : Int)) k256)) ∧ fv sl ≤ fv (fadd sl (fdiv (floatOfInt .f64 (n : Int)) k256)) := by
  obtain ⟨q1, q2, q3, q4⟩ := quoN (n := n) (j := 5) (b := 8) (Y := k256) (by omega) (by omega) (by unfold fin rg; decide) (by unfold sg; decide) (by unfold rg; decide) (by omega)
  generalize fdiv (floatOfInt .f64 (n : Int)) k256 = q at *
  obtain ⟨a1, a2, a3⟩ := vadd (slp_bd hs) (q4.mono (show 1023 + 5 - 8 ≤ 1023 by omega)) (by decide) (by decide)
  refine ⟨q1, a1, ?_⟩
  rw [a3]
  have hq : 0 ≤ fv q := by rw [fv_nn q2]; omega
  have := rv_mono (show fv sl ≤ fv sl + fv q by omega)
  rwa [rv_fv ((slp_bd hs).fin (by decide))] at this

end Go.Proofs.Ytcadgafenbmihab
