import Derived.Laws.FloatArith
namespace Fl
open Ieee

/-! Rounding to the nearest whole number, between two the even one. -/
theorem cut_spec (neg : Bool) (n d : Nat) :
    2 * Toward.even.cut neg n d * 2 ^ d ≤ 2 * n + 2 ^ d ∧ 2 * n ≤ 2 * Toward.even.cut neg n d * 2 ^ d + 2 ^ d ∧
    ((2 * Toward.even.cut neg n d * 2 ^ d = 2 * n + 2 ^ d ∨ 2 * n = 2 * Toward.even.cut neg n d * 2 ^ d + 2 ^ d) → Toward.even.cut neg n d % 2 = 0) := by
  unfold Toward.cut
  simp only [Nat.shiftLeft_eq, Nat.one_mul]
  by_cases h : d ≤ n.log2 + 2
  · rw [Nat.min_eq_left h]
    have hp : 0 < 2 ^ d := Nat.two_pow_pos d
    have hdm := Nat.div_add_mod n (2 ^ d)
    have hlt := Nat.mod_lt n hp
    generalize n / 2 ^ d = q at *
    generalize n % 2 ^ d = r at *
    generalize 2 ^ d = g at *
    by_cases hm : (decide (g < 2 * r) || g == 2 * r && q % 2 == 1) = true
    · rw [hm]
      simp only [Bool.or_eq_true, decide_eq_true_eq, Bool.and_eq_true, beq_iff_eq] at hm
      simp only [Bool.toNat_true]
      have e1 : 2 * (q + 1) * g = 2 * (g * q) + 2 * g := by grind
      rw [e1]
      refine ⟨by omega, by omega, ?_⟩
      intro hh
      rcases hm with hm | hm
      · omega
      · omega
    · rw [Bool.not_eq_true] at hm
      rw [hm]
      simp only [Bool.or_eq_false_iff, decide_eq_false_iff_not, Bool.and_eq_false_iff, beq_eq_false_iff_ne] at hm
      simp only [Bool.toNat_false, Nat.add_zero]
      have e1 : 2 * q * g = 2 * (g * q) := by grind
      rw [e1]
      refine ⟨by omega, by omega, ?_⟩
      intro hh
      omega
  · have h' : n.log2 + 2 ≤ d := by omega
    rw [Nat.min_eq_right h']
    have hn : n < 2 ^ (n.log2 + 1) := Nat.lt_log2_self
    have hg : 2 ^ (n.log2 + 2) = 2 * 2 ^ (n.log2 + 1) := by rw [Nat.pow_succ, Nat.mul_comm]
    have hle : 2 ^ (n.log2 + 2) ≤ 2 ^ d := Nat.pow_le_pow_right (by decide) h'
    have hq : n / 2 ^ (n.log2 + 2) = 0 := Nat.div_eq_of_lt (by omega)
    have hr : n % 2 ^ (n.log2 + 2) = n := Nat.mod_eq_of_lt (by omega)
    rw [hq, hr]
    have hm : (decide (2 ^ (n.log2 + 2) < 2 * n) || 2 ^ (n.log2 + 2) == 2 * n && 0 % 2 == 1) = false := by
      simp; omega
    rw [hm]
    simp
    omega

theorem cut_mono {s t : Bool} {n1 d1 n2 d2 : Nat} (h : n1 * 2 ^ d2 ≤ n2 * 2 ^ d1) : Toward.even.cut s n1 d1 ≤ Toward.even.cut t n2 d2 := by
  obtain ⟨a1, -, a3⟩ := cut_spec s n1 d1
  obtain ⟨-, b2, b3⟩ := cut_spec t n2 d2
  generalize Toward.even.cut s n1 d1 = c1 at *
  generalize Toward.even.cut t n2 d2 = c2 at *
  have p1 : 0 < 2 ^ d1 := Nat.two_pow_pos d1
  have p2 : 0 < 2 ^ d2 := Nat.two_pow_pos d2
  generalize 2 ^ d1 = g1 at *
  generalize 2 ^ d2 = g2 at *
  apply Nat.le_of_not_lt
  intro hc
  -- scale
  have s1 : (2 * c1 * g1) * g2 ≤ (2 * n1 + g1) * g2 := Nat.mul_le_mul_right g2 a1
  have s2 : (2 * n2) * g1 ≤ (2 * c2 * g2 + g2) * g1 := Nat.mul_le_mul_right g1 b2
  have hcc : (c2 + 1) * (g1 * g2) ≤ c1 * (g1 * g2) := Nat.mul_le_mul_right _ hc
  have e1 : (2 * c1 * g1) * g2 = 2 * (c1 * (g1 * g2)) := by grind
  have e2 : (2 * n1 + g1) * g2 = 2 * (n1 * g2) + g1 * g2 := by grind
  have e3 : (2 * n2) * g1 = 2 * (n2 * g1) := by grind
  have e4 : (2 * c2 * g2 + g2) * g1 = 2 * (c2 * (g1 * g2)) + g1 * g2 := by grind
  have e5 : (c2 + 1) * (g1 * g2) = c2 * (g1 * g2) + g1 * g2 := by grind
  rw [e1, e2] at s1
  rw [e3, e4] at s2
  rw [e5] at hcc
  have pg : 0 < g1 * g2 := Nat.mul_pos p1 p2
  have t1 : c1 * (g1 * g2) = (c2 + 1) * (g1 * g2) := by rw [e5]; omega
  have t2 : c1 = c2 + 1 := Nat.eq_of_mul_eq_mul_right pg t1
  have u1 : (2 * c1 * g1) * g2 = (2 * n1 + g1) * g2 := by rw [e1, e2]; omega
  have u2 : 2 * c1 * g1 = 2 * n1 + g1 := Nat.eq_of_mul_eq_mul_right p2 u1
  have u3 : (2 * n2) * g1 = (2 * c2 * g2 + g2) * g1 := by rw [e3, e4]; omega
  have u4 : 2 * n2 = 2 * c2 * g2 + g2 := Nat.eq_of_mul_eq_mul_right p1 u3
  have v1 := a3 (Or.inl u2)
  have v2 := b3 (Or.inr u4)
  omega

theorem cut_scale {s t : Bool} {n1 d1 n2 d2 : Nat} (h : n1 * 2 ^ d2 = n2 * 2 ^ d1) : Toward.even.cut s n1 d1 = Toward.even.cut t n2 d2 :=
  Nat.le_antisymm (cut_mono (Nat.le_of_eq h)) (cut_mono (Nat.le_of_eq h.symm))

theorem cut_zero (s : Bool) (n : Nat) : Toward.even.cut s n 0 = n := by
  have h := cut_spec s n 0
  generalize Toward.even.cut s n 0 = c at *
  simp at h
  omega

theorem cut_exact (s : Bool) (n d : Nat) : Toward.even.cut s (n * 2 ^ d) d = n :=
  (cut_scale (t := s) (n2 := n) (d2 := 0) (by simp)).trans (cut_zero s n)

/-- The rung of 'n * 2 ^ -(c + 1074)'. -/
def rr (c n : Nat) : Nat :=
  if n = 0 then 0 else
  min ((max (n.log2 - 52) c - c) * 2 ^ 52 + Toward.even.cut false n (max (n.log2 - 52) c)) double.infRung

theorem log2_mono {a b : Nat} (h : a ≤ b) : a.log2 ≤ b.log2 := by
  by_cases ha : a = 0
  · subst ha; simp
  · have hb : b ≠ 0 := by omega
    exact (Nat.le_log2 hb).2 (Nat.le_trans (Nat.log2_self_le ha) h)

theorem rr_mono {c a b : Nat} (h : a ≤ b) : rr c a ≤ rr c b := by
  unfold rr
  by_cases ha : a = 0
  · simp [ha]
  have hb : b ≠ 0 := by omega
  rw [if_neg ha, if_neg hb]
  have hl := log2_mono h
  have key : (max (a.log2 - 52) c - c) * 2 ^ 52 + Toward.even.cut false a (max (a.log2 - 52) c) ≤ (max (b.log2 - 52) c - c) * 2 ^ 52 + Toward.even.cut false b (max (b.log2 - 52) c) := by
    by_cases he : max (a.log2 - 52) c = max (b.log2 - 52) c
    · rw [he]
      exact Nat.add_le_add_left (cut_mono (Nat.mul_le_mul_right _ h)) _
    · have h1 : Toward.even.cut false a (max (a.log2 - 52) c) ≤ 2 ^ 53 := by
        rw [← cut_zero false (2 ^ 53)]
        refine cut_mono ?_
        rw [Nat.pow_zero, Nat.mul_one, ← Nat.pow_add]
        refine Nat.le_of_lt (Nat.lt_of_lt_of_le Nat.lt_log2_self (Nat.pow_le_pow_right (by decide) (by omega)))
      have h2 : 2 ^ 52 ≤ Toward.even.cut false b (max (b.log2 - 52) c) := by
        rw [← cut_zero false (2 ^ 52)]
        refine cut_mono ?_
        rw [Nat.pow_zero, Nat.mul_one, ← Nat.pow_add]
        exact Nat.le_trans (Nat.pow_le_pow_right (by decide) (by omega)) (Nat.log2_self_le hb)
      generalize Toward.even.cut false a (max (a.log2 - 52) c) = x at *
      generalize Toward.even.cut false b (max (b.log2 - 52) c) = y at *
      have h3 : max (a.log2 - 52) c - c + 1 ≤ max (b.log2 - 52) c - c := by omega
      generalize max (a.log2 - 52) c - c = u at *
      generalize max (b.log2 - 52) c - c = v at *
      omega
  omega

/-- The magnitude of a rung, in units of 2 ^ -1074. -/
def mg (r : Nat) : Nat := if r < 2 ^ 52 then r else (2 ^ 52 + r % 2 ^ 52) * 2 ^ (r / 2 ^ 52 - 1)

theorem infRung_eq : double.infRung = 2047 * 2 ^ 52 := rfl
theorem binade_eq : double.binade = 2 ^ 52 := rfl
theorem signWeight_eq : double.signWeight = 2 ^ 63 := rfl
theorem leastPlace_eq : double.leastPlace = -1074 := by decide

theorem log2_mul_pow {a : Nat} (h : a ≠ 0) (k : Nat) : (a * 2 ^ k).log2 = a.log2 + k := by
  have hp : 0 < 2 ^ k := Nat.two_pow_pos k
  have h0 : a * 2 ^ k ≠ 0 := Nat.mul_ne_zero h (by omega)
  refine (Nat.log2_eq_iff h0).2 ⟨?_, ?_⟩
  · rw [Nat.pow_add]; exact Nat.mul_le_mul_right _ (Nat.log2_self_le h)
  · rw [show a.log2 + k + 1 = (a.log2 + 1) + k by omega, Nat.pow_add]
    exact Nat.mul_lt_mul_of_pos_right Nat.lt_log2_self hp

theorem rr_mg (c r : Nat) (h : r < double.infRung) : rr c (mg r * 2 ^ c) = r := by
  rw [infRung_eq] at h
  unfold rr mg
  by_cases h0 : r = 0
  · subst h0; simp
  have pc : 0 < 2 ^ c := Nat.two_pow_pos c
  by_cases h1 : r < 2 ^ 52
  · rw [if_pos h1]
    have hn : r * 2 ^ c ≠ 0 := Nat.mul_ne_zero h0 (by omega)
    rw [if_neg hn, log2_mul_pow h0]
    have hl : r.log2 < 52 := (Nat.log2_lt h0).2 h1
    rw [show max (r.log2 + c - 52) c = c by omega, cut_exact]
    rw [infRung_eq]; omega
  · rw [if_neg h1]
    have hm : 2 ^ 52 + r % 2 ^ 52 ≠ 0 := by omega
    have hlog : (2 ^ 52 + r % 2 ^ 52).log2 = 52 := (Nat.log2_eq_iff hm).2 ⟨by omega, by omega⟩
    rw [Nat.mul_assoc, ← Nat.pow_add]
    have hp : 0 < 2 ^ (r / 2 ^ 52 - 1 + c) := Nat.two_pow_pos _
    have hn : (2 ^ 52 + r % 2 ^ 52) * 2 ^ (r / 2 ^ 52 - 1 + c) ≠ 0 := Nat.mul_ne_zero hm (by omega)
    rw [if_neg hn, log2_mul_pow hm, hlog]
    have : 0 < r / 2 ^ 52 := Nat.div_pos (by omega) (by decide)
    rw [show max (52 + (r / 2 ^ 52 - 1 + c) - 52) c = r / 2 ^ 52 - 1 + c by omega, cut_exact]
    rw [infRung_eq]
    omega

theorem nearest_rr (s : Bool) (m : Nat) (p : Int) (c : Nat) (hp : -1074 - (c : Int) ≤ p) :
    double.nearest s m p = double.word s (rr c (m * 2 ^ (p + 1074 + c).toNat)) := by
  unfold Format.nearest rr
  by_cases hm : m = 0
  · simp [hm]
  obtain ⟨k, hk⟩ : ∃ k : Nat, p + 1074 + c = k := ⟨(p + 1074 + c).toNat, by omega⟩
  have hp2 : 0 < 2 ^ k := Nat.two_pow_pos k
  have hn : m * 2 ^ k ≠ 0 := Nat.mul_ne_zero hm (by omega)
  rw [if_neg hm, hk, Int.toNat_natCast, if_neg hn, log2_mul_pow hm]
  simp only [leastPlace_eq, show (double.fractionBits : Int) = 52 from rfl, binade_eq]
  have el : (max (p + m.log2 - 52) (-1074) - (-1074)).toNat = max (m.log2 + k - 52) c - c := by omega
  rw [el]
  congr 3
  simp only [Nat.shiftLeft_eq]
  refine cut_scale ?_
  rw [Nat.mul_assoc, Nat.mul_assoc, ← Nat.pow_add, ← Nat.pow_add]
  congr 2
  omega

end Fl
