/- Small quotients by powers of two: what is done with them is exact. -/
import Derived.Test.YtapnidhokpkmdaaFX
import Derived.Laws.Cover2
namespace Fl
open Ieee Go

/-- Every magnitude of 53 digits is one. -/
theorem mg_ex (n j : Nat) (hn : n < 2 ^ 53) (hj : j ≤ 2000) : ∃ r, r < 2047 * 2 ^ 52 ∧ mg r = n * 2 ^ j := by
  by_cases h0 : n = 0
  · subst h0; exact ⟨0, by decide, by rw [mg_zero, Nat.zero_mul]⟩
  have hL : n.log2 ≤ 52 := by
    have := (Nat.log2_lt h0).2 hn
    omega
  have hlo := Nat.log2_self_le h0
  have hhi : n < 2 ^ (n.log2 + 1) := Nat.lt_log2_self
  by_cases hs : j + n.log2 < 52
  · refine ⟨n * 2 ^ j, ?_, ?_⟩
    · have h1 : n * 2 ^ j < 2 ^ (n.log2 + 1) * 2 ^ j := Nat.mul_lt_mul_of_pos_right hhi (Nat.two_pow_pos j)
      rw [← Nat.pow_add] at h1
      have h2 : 2 ^ (n.log2 + 1 + j) ≤ 2 ^ 52 := Nat.pow_le_pow_right (by decide) (by omega)
      omega
    · have h1 : n * 2 ^ j < 2 ^ (n.log2 + 1) * 2 ^ j := Nat.mul_lt_mul_of_pos_right hhi (Nat.two_pow_pos j)
      rw [← Nat.pow_add] at h1
      have h2 : 2 ^ (n.log2 + 1 + j) ≤ 2 ^ 52 := Nat.pow_le_pow_right (by decide) (by omega)
      unfold mg
      rw [if_pos (by omega)]
  · obtain ⟨d, hd⟩ : ∃ d, n.log2 + d = 52 := ⟨52 - n.log2, by omega⟩
    have h1 : 2 ^ 52 ≤ n * 2 ^ d := by
      rw [← hd, Nat.pow_add]
      exact Nat.mul_le_mul_right _ hlo
    have h2 : n * 2 ^ d < 2 ^ 53 := by
      have : n * 2 ^ d < 2 ^ (n.log2 + 1) * 2 ^ d := Nat.mul_lt_mul_of_pos_right hhi (Nat.two_pow_pos d)
      rw [← Nat.pow_add] at this
      rwa [show n.log2 + 1 + d = 53 by omega] at this
    obtain ⟨f, hf⟩ : ∃ f, n * 2 ^ d = 2 ^ 52 + f := ⟨n * 2 ^ d - 2 ^ 52, by omega⟩
    obtain ⟨e, he⟩ : ∃ e, j = d + e := ⟨j - d, by omega⟩
    refine ⟨(e + 1) * 2 ^ 52 + f, by omega, ?_⟩
    unfold mg
    rw [if_neg (by omega), show ((e + 1) * 2 ^ 52 + f) % 2 ^ 52 = f by omega, show ((e + 1) * 2 ^ 52 + f) / 2 ^ 52 - 1 = e by omega, ← hf, he, Nat.pow_add, Nat.mul_assoc]

/-- The unit of a quotient by 2 ^ k. -/
def pw (k : Nat) : Int := ((2 ^ (1074 - k) : Nat) : Int)
theorem pw_pos (k : Nat) : 0 < pw k := Int.natCast_pos.2 (Nat.two_pow_pos _)
theorem pw_up {k l : Nat} (h : k ≤ l) (hl : l ≤ 1000) : pw k = ((2 ^ (l - k) : Nat) : Int) * pw l := by
  unfold pw
  rw [← Int.natCast_mul, ← Nat.pow_add]
  congr 2
  omega
/-- A finite number that is n by 2 ^ k. -/
def Dq (k : Nat) (n : Int) (x : Nat) : Prop := fin x ∧ fv x = n * pw k
theorem small_abs {n : Int} (h : -9007199254740992 < n ∧ n < 9007199254740992) : n.natAbs < 2 ^ 53 := by omega
theorem exact_rung {k : Nat} {n : Int} (hk : k ≤ 1000) (h : -9007199254740992 < n ∧ n < 9007199254740992) : ∃ r, r < 2047 * 2 ^ 52 ∧ mg r = n.natAbs * 2 ^ (1074 - k) := mg_ex _ _ (small_abs h) (by omega)
theorem abs_pw (n : Int) (k : Nat) : (n * pw k).natAbs = n.natAbs * 2 ^ (1074 - k) := by
  unfold pw
  rw [Int.natAbs_mul, Int.natAbs_natCast]
theorem put_exact {k : Nat} {n : Int} {z : Bool} (hk : k ≤ 1000) (h : -9007199254740992 < n ∧ n < 9007199254740992) : Dq k n (put z (n * pw k)) := by
  obtain ⟨r, h1, h2⟩ := exact_rung hk h
  have hr : rr 0 (n * pw k).natAbs = r := by
    rw [abs_pw, ← h2]
    have := rr_mg 0 r (by rw [infRung_eq]; exact h1)
    rwa [Nat.pow_zero, Nat.mul_one] at this
  refine ⟨?_, ?_⟩
  · unfold fin; rw [put_rg, hr]; exact h1
  · rw [put_fv]
    unfold rv
    rw [hr, h2]
    have hp := pw_pos k
    have ha := abs_pw n k
    rw [← ha]
    split
    · omega
    · omega
theorem Dq.add {k : Nat} {n m : Int} {x y : Nat} (hx : Dq k n x) (hy : Dq k m y) (hk : k ≤ 1000) (h : -9007199254740992 < n + m ∧ n + m < 9007199254740992) : ∃ r, floatBits .add .f64 x y = some r ∧ Dq k (n + m) r := by
  refine ⟨_, add_eq hx.1 hy.1, ?_⟩
  rw [hx.2, hy.2, ← Int.add_mul]
  exact put_exact hk h
theorem Dq.sub {k : Nat} {n m : Int} {x y : Nat} (hx : Dq k n x) (hy : Dq k m y) (hk : k ≤ 1000) (h : -9007199254740992 < n - m ∧ n - m < 9007199254740992) : ∃ r, floatBits .sub .f64 x y = some r ∧ Dq k (n - m) r := by
  refine ⟨_, sub_eq hx.1 hy.1, ?_⟩
  rw [hx.2, hy.2, ← Int.sub_mul]
  exact put_exact hk h
theorem Dq.mg {k : Nat} {n : Int} {x : Nat} (hx : Dq k n x) : mg (rg x) = n.natAbs * 2 ^ (1074 - k) := by rw [← fv_abs, hx.2, abs_pw]
theorem Dq.sg {k : Nat} {n : Int} {x : Nat} (hx : Dq k n x) (h : n ≠ 0) : sg x = decide (n < 0) := by
  have h1 := hx.2
  have hp := pw_pos k
  unfold fv at h1
  have hm := hx.mg
  have h2 : 0 < n.natAbs * 2 ^ (1074 - k) := Nat.mul_pos (by omega) (Nat.two_pow_pos _)
  rw [← hm] at h2
  cases hs : Fl.sg x
  · rw [hs] at h1
    simp only [Bool.false_eq_true, if_false] at h1
    symm
    simp only [decide_eq_false_iff_not]
    intro hn
    have := Int.mul_neg_of_neg_of_pos hn hp
    omega
  · rw [hs] at h1
    simp only [if_true] at h1
    symm
    simp only [decide_eq_true_eq]
    apply Int.lt_of_not_ge
    intro hn
    have := Int.mul_nonneg hn (Int.le_of_lt hp)
    omega
theorem word_Dq {k : Nat} {n : Int} {s : Bool} {r : Nat} (h1 : r < 2047 * 2 ^ 52) (h2 : Fl.mg r = n.natAbs * 2 ^ (1074 - k)) (hs : n ≠ 0 → s = decide (n < 0)) : Dq k n (double.word s r) := by
  have hr : r < 2 ^ 63 := Nat.lt_trans h1 (by decide)
  refine ⟨?_, ?_⟩
  · unfold fin; rw [rg_word _ hr]; exact h1
  · unfold fv
    rw [rg_word _ hr, sg_word _ hr, h2]
    have ha := abs_pw n k
    have hp := pw_pos k
    rw [← ha]
    by_cases h0 : n = 0
    · subst h0; simp
    · rw [hs h0]
      by_cases hn : n < 0
      · have := Int.mul_neg_of_neg_of_pos hn hp
        simp only [hn, decide_true, if_true]; omega
      · have := Int.mul_nonneg (Int.le_of_not_gt hn) (Int.le_of_lt hp)
        simp only [hn, decide_false, Bool.false_eq_true, if_false]; omega
theorem sign_mul {n m : Int} (h : n * m ≠ 0) : (decide (n < 0) ^^ decide (m < 0)) = decide (n * m < 0) := by
  have hn : n ≠ 0 := fun e => h (by rw [e, Int.zero_mul])
  have hm : m ≠ 0 := fun e => h (by rw [e, Int.mul_zero])
  by_cases h1 : n < 0 <;> by_cases h2 : m < 0
  · have := Int.mul_pos_of_neg_of_neg h1 h2
    simp [h1, h2]; omega
  · have := Int.mul_neg_of_neg_of_pos h1 (show 0 < m by omega)
    simp [h1, h2, this]
  · have := Int.mul_neg_of_pos_of_neg (show 0 < n by omega) h2
    simp [h1, h2, this]
  · have := Int.mul_pos (show 0 < n by omega) (show 0 < m by omega)
    simp [h1, h2]; omega
theorem Dq.mul {k l : Nat} {n m : Int} {x y : Nat} (hx : Dq k n x) (hy : Dq l m y) (hk : k + l ≤ 1000) (h : -9007199254740992 < n * m ∧ n * m < 9007199254740992) : ∃ r, floatBits .mul .f64 x y = some r ∧ Dq (k + l) (n * m) r := by
  refine ⟨_, mul_eq hx.1 hy.1, ?_⟩
  obtain ⟨r, h1, h2⟩ := exact_rung hk h
  have e : Fl.mg (rg x) * Fl.mg (rg y) = Fl.mg r * 2 ^ 1074 := by
    rw [hx.mg, hy.mg, h2, Int.natAbs_mul]
    obtain ⟨z, hz⟩ : ∃ z, z = 1074 := ⟨_, rfl⟩
    rw [← hz]
    have e1 : 2 ^ (z - k) * 2 ^ (z - l) = 2 ^ (z - (k + l)) * 2 ^ z := by rw [← Nat.pow_add, ← Nat.pow_add]; congr 1; omega
    have e2 : n.natAbs * 2 ^ (z - k) * (m.natAbs * 2 ^ (z - l)) = n.natAbs * m.natAbs * (2 ^ (z - k) * 2 ^ (z - l)) := by grind
    have e3 : n.natAbs * m.natAbs * 2 ^ (z - (k + l)) * 2 ^ z = n.natAbs * m.natAbs * (2 ^ (z - (k + l)) * 2 ^ z) := by grind
    rw [e2, e3, e1]
  rw [e, rr_mg 1074 r (by rw [infRung_eq]; exact h1)]
  refine word_Dq h1 h2 (fun h0 => ?_)
  have hn : n ≠ 0 := fun e => h0 (by rw [e, Int.zero_mul])
  have hm : m ≠ 0 := fun e => h0 (by rw [e, Int.mul_zero])
  rw [hx.sg hn, hy.sg hm]
  exact sign_mul h0
theorem Dq.up {k l : Nat} {n : Int} {x : Nat} (h : Dq k n x) (hkl : k ≤ l) (hl : l ≤ 1000) : Dq l (n * ((2 ^ (l - k) : Nat) : Int)) x := ⟨h.1, by rw [h.2, pw_up hkl hl, Int.mul_assoc]⟩
theorem Dq.cmp {k : Nat} {n m : Int} {x y : Nat} (hx : Dq k n x) (hy : Dq k m y) : FloatKind.f64.format.order x y = some (compare n m) := by
  have h : double.order x y = _ := order_eq hx.1 hy.1
  show double.order x y = _
  rw [h, hx.2, hy.2]
  have hp := pw_pos k
  congr 1
  show compareOfLessAndEq _ _ = compareOfLessAndEq _ _
  unfold compareOfLessAndEq
  by_cases h1 : n < m
  · have := Int.mul_lt_mul_of_pos_right h1 hp
    simp [h1, this]
  · by_cases h2 : n = m
    · subst h2; simp
    · have h3 : m < n := by omega
      have := Int.mul_lt_mul_of_pos_right h3 hp
      rw [if_neg h1, if_neg h2, if_neg (by omega), if_neg (by omega)]
theorem pwz {z k : Nat} (hz : z = 1074) : pw k = ((2 ^ (z - k) : Nat) : Int) := by
  unfold pw
  rw [hz]
theorem pw0 {z : Nat} (hz : z = 1074) : pw 0 = ((2 ^ z : Nat) : Int) := (pwz hz).trans (by rw [Nat.sub_zero])
theorem exact_rz {k z : Nat} {n : Int} (hz : z = 1074) (hk : k ≤ 1000) (h : -9007199254740992 < n ∧ n < 9007199254740992) : ∃ r, r < 2047 * 2 ^ 52 ∧ Fl.mg r = n.natAbs * 2 ^ (z - k) := by
  obtain ⟨r, h1, h2⟩ := exact_rung hk h
  exact ⟨r, h1, by rw [hz]; exact h2⟩
theorem word_Dz {k z : Nat} {n : Int} {s : Bool} {r : Nat} (hz : z = 1074) (h1 : r < 2047 * 2 ^ 52) (h2 : Fl.mg r = n.natAbs * 2 ^ (z - k)) (hs : n ≠ 0 → s = decide (n < 0)) : Dq k n (double.word s r) :=
  word_Dq h1 (by rw [h2, hz]) hs
theorem Dq.pow {s x : Nat} (h1 : rg x = (1023 + s) * 2 ^ 52) (h2 : Fl.sg x = false) (hs : s ≤ 100) : Dq 0 ((2 ^ s : Nat) : Int) x := by
  obtain ⟨z, hz⟩ : ∃ z, z = 1074 := ⟨_, rfl⟩
  refine ⟨?_, ?_⟩
  · unfold fin; rw [h1]; exact Nat.mul_lt_mul_of_pos_right (by omega) (by decide)
  · rw [pw0 hz]
    unfold fv
    rw [h1, h2, mg_pow _ (by omega), ← Int.natCast_mul, ← Nat.pow_add]
    simp only [Bool.false_eq_true, if_false]
    congr 2
    omega
theorem Dq.mgz {k z : Nat} {n : Int} {x : Nat} (hx : Dq k n x) (hz : z = 1074) : Fl.mg (rg x) = n.natAbs * 2 ^ (z - k) := by rw [hz]; exact hx.mg
theorem Dq.rgpow {s x : Nat} (h : Dq 0 ((2 ^ s : Nat) : Int) x) (hs : s ≤ 100) : rg x = (1023 + s) * 2 ^ 52 := by
  obtain ⟨z, hz⟩ : ∃ z, z = 1074 := ⟨_, rfl⟩
  refine mg_inj h.1 (Nat.mul_lt_mul_of_pos_right (by omega) (by decide)) ?_
  rw [h.mgz hz, mg_pow _ (by omega), Int.natAbs_natCast, ← Nat.pow_add]
  congr 1
  omega
theorem Dq.sgpow {s x : Nat} (h : Dq 0 ((2 ^ s : Nat) : Int) x) : Fl.sg x = false := by
  have hp : (0 : Int) < ((2 ^ s : Nat) : Int) := Int.natCast_pos.2 (Nat.two_pow_pos s)
  rw [h.sg (by omega)]
  simp only [decide_eq_false_iff_not]
  omega
theorem read_sig {x : Nat} (h : fin x) : ∃ m k, double.read x = .number (Fl.sg x) m (-1074 + (k : Nat)) ∧ m * 2 ^ k = Fl.mg (rg x) ∧ m < 2 ^ 53 := by
  unfold fin at h
  rw [read_eq]
  unfold Fl.mg
  by_cases h1 : rg x < 2 ^ 52
  · rw [if_pos h1, if_pos h1]
    exact ⟨rg x, 0, by simp, by simp, by omega⟩
  · rw [if_neg h1, if_pos h, if_neg h1]
    exact ⟨_, rg x / 2 ^ 52 - 1, rfl, rfl, by have := Nat.mod_lt (rg x) (show 0 < 2 ^ 52 by decide); omega⟩
theorem read_pow {y s : Nat} (h1 : rg y = (1023 + s) * 2 ^ 52) (h2 : Fl.sg y = false) (hs : s ≤ 100) : double.read y = .number false (2 ^ 52) (-1074 + ((1022 + s : Nat) : Int)) := by
  rw [read_eq, if_neg (by omega), if_pos (by rw [h1]; exact Nat.mul_lt_mul_of_pos_right (by omega) (by decide)), h2, h1]
  rw [show (1023 + s) * 2 ^ 52 % 2 ^ 52 = 0 by omega, show (1023 + s) * 2 ^ 52 / 2 ^ 52 - 1 = 1022 + s by omega]
theorem ar1 (m j more : Nat) (h : 52 ≤ more) : 2 * (m * 2 ^ (more - 52)) * 2 ^ (j + 51) = (m * 2 ^ j) * 2 ^ more := by
  obtain ⟨q, rfl⟩ : ∃ q, more = q + 52 := ⟨more - 52, by omega⟩
  rw [Nat.add_sub_cancel, Nat.pow_add 2 j 51, Nat.pow_add 2 q 52, show (2 : Nat) ^ 52 = 2 * 2 ^ 51 by decide]
  generalize 2 ^ 51 = c
  generalize 2 ^ q = d
  generalize 2 ^ j = e
  grind
theorem ar2 {z k s : Nat} (h : k + s ≤ z) : 2 ^ (z - k) = 2 ^ (z - (k + s)) * 2 ^ s := by
  rw [← Nat.pow_add]
  congr 1
  omega
theorem ar3 (m more : Nat) (h : 52 ≤ more) : m * 2 ^ more / 2 ^ 52 = m * 2 ^ (more - 52) ∧ m * 2 ^ more % 2 ^ 52 = 0 := by
  have e5 : m * 2 ^ more = (m * 2 ^ (more - 52)) * 2 ^ 52 := by rw [Nat.mul_assoc, ← Nat.pow_add]; congr 2; omega
  rw [e5]
  exact ⟨Nat.mul_div_cancel _ (by decide), Nat.mul_mod_left _ _⟩
theorem Dq.div {k s : Nat} {n : Int} {x y : Nat} (hx : Dq k n x) (hy : Dq 0 ((2 ^ s : Nat) : Int) y) (hs : s ≤ 100) (hk : k + s ≤ 1000) (h : -9007199254740992 < n ∧ n < 9007199254740992) : ∃ r, floatBits .quo .f64 x y = some r ∧ Dq (k + s) n r := by
  obtain ⟨z, hz⟩ : ∃ z, z = 1074 := ⟨_, rfl⟩
  obtain ⟨m, j, e1, e2, e3⟩ := read_sig hx.1
  have e4 := read_pow (hy.rgpow hs) hy.sgpow hs
  obtain ⟨r, h1, h2⟩ := exact_rz hz hk h
  have hL : m.log2 ≤ 52 := by
    by_cases h0 : m = 0
    · subst h0; simp
    · have := (Nat.log2_lt h0).2 e3; omega
  obtain ⟨more, hmore⟩ : ∃ more, more = 54 + 52 - m.log2 := ⟨_, rfl⟩
  have hm52 : 52 ≤ more := by omega
  have hdiv := ar3 m more hm52
  have hq : double.div x y = some (double.word (Fl.sg x) r) := by
    unfold Format.div
    rw [e1, e4]
    unfold Datum.quotient
    dsimp only
    rw [if_neg (by decide)]
    have elog : (2 ^ 52).log2 = 52 := Nat.log2_two_pow
    rw [show double.fractionBits + 2 = 54 by rfl, elog, ← hmore, Nat.shiftLeft_eq, hdiv.1, hdiv.2]
    simp only [Option.map_some, Format.write, Bool.xor_false, Option.some.injEq]
    have hw := nearest_rr (Fl.sg x) (2 * (m * 2 ^ (more - 52)) + ((0 : Nat) != 0).toNat) (-1074 + (j : Int) - (-1074 + ((1022 + s : Nat) : Int)) - (more : Int) - 1) (s + more) (by omega)
    rw [hw]
    congr 1
    have e6 : (-1074 + (j : Int) - (-1074 + ((1022 + s : Nat) : Int)) - (more : Int) - 1 + 1074 + ((s + more : Nat) : Int)).toNat = j + 51 := by omega
    rw [e6]
    have e7 : (2 * (m * 2 ^ (more - 52)) + ((0 : Nat) != 0).toNat) * 2 ^ (j + 51) = Fl.mg r * 2 ^ (s + more) := by
      have e8 : ((0 : Nat) != 0).toNat = 0 := rfl
      rw [e8, Nat.add_zero]
      rw [ar1 m j more hm52, e2, hx.mgz hz, h2, ar2 (show k + s ≤ z by omega), Nat.pow_add]
      generalize 2 ^ (z - (k + s)) = c
      simp only [Nat.mul_assoc]
    rw [e7]
    exact rr_mg _ _ (by rw [infRung_eq]; exact h1)
  exact ⟨_, hq, word_Dz hz h1 h2 (fun h0 => hx.sg h0)⟩
theorem Dq.conv {n : Int} (h : -9007199254740992 < n ∧ n < 9007199254740992) : Dq 0 n (floatOfInt .f64 n) := by
  obtain ⟨z, hz⟩ : ∃ z, z = 1074 := ⟨_, rfl⟩
  obtain ⟨r, h1, h2⟩ := exact_rz (k := 0) hz (by omega) h
  have hw := nearest_rr (decide (n < 0)) n.natAbs 0 0 (by omega)
  have e : floatOfInt .f64 n = double.word (decide (n < 0)) (rr 0 (n.natAbs * 2 ^ (0 + 1074 + ((0 : Nat) : Int)).toNat)) := hw
  rw [e]
  have e2 : (0 + 1074 + ((0 : Nat) : Int)).toNat = z := by omega
  rw [e2]
  have ez : Fl.mg r = n.natAbs * 2 ^ z := by rw [h2, Nat.sub_zero]
  have e3 : rr 0 (n.natAbs * 2 ^ z) = r := by
    rw [← ez]
    have := rr_mg 0 r (by rw [infRung_eq]; exact h1)
    rwa [Nat.pow_zero, Nat.mul_one] at this
  rw [e3]
  exact word_Dz hz h1 h2 (fun _ => rfl)
/-! The same of what floats stand for. -/
def Dz (k : Nat) (n : Int) (o : Option Nat) : Prop := ∃ x, o = some x ∧ Dq k n x
theorem Dq.cl {k : Nat} {n : Int} {x : Nat} (h : Dq k n x) : Dz k n (Fl.cl x) := by
  refine ⟨x, ?_, h⟩
  have hn : isN x = false := by
    unfold isN
    simp only [decide_eq_false_iff_not]
    have := h.1
    unfold fin at this
    omega
  simp [Fl.cl, hn]
theorem Dz.of {k : Nat} {n : Int} {x : Nat} (h : Dz k n (Fl.cl x)) : Dq k n x := by
  obtain ⟨y, h1, h2⟩ := h
  unfold Fl.cl at h1
  split at h1
  · cases h1
  · cases h1; exact h2
theorem Dz.add {k : Nat} {n m : Int} {a b : Option Nat} (ha : Dz k n a) (hb : Dz k m b) (hk : k ≤ 1000) (h : -9007199254740992 < n + m ∧ n + m < 9007199254740992) : Dz k (n + m) (zo .add a b) := by
  obtain ⟨x, rfl, hx⟩ := ha
  obtain ⟨y, rfl, hy⟩ := hb
  obtain ⟨r, h1, h2⟩ := hx.add hy hk h
  exact ⟨r, h1, h2⟩
theorem Dz.sub {k : Nat} {n m : Int} {a b : Option Nat} (ha : Dz k n a) (hb : Dz k m b) (hk : k ≤ 1000) (h : -9007199254740992 < n - m ∧ n - m < 9007199254740992) : Dz k (n - m) (zo .sub a b) := by
  obtain ⟨x, rfl, hx⟩ := ha
  obtain ⟨y, rfl, hy⟩ := hb
  obtain ⟨r, h1, h2⟩ := hx.sub hy hk h
  exact ⟨r, h1, h2⟩
theorem Dz.mul {k l : Nat} {n m : Int} {a b : Option Nat} (ha : Dz k n a) (hb : Dz l m b) (hk : k + l ≤ 1000) (h : -9007199254740992 < n * m ∧ n * m < 9007199254740992) : Dz (k + l) (n * m) (zo .mul a b) := by
  obtain ⟨x, rfl, hx⟩ := ha
  obtain ⟨y, rfl, hy⟩ := hb
  obtain ⟨r, h1, h2⟩ := hx.mul hy hk h
  exact ⟨r, h1, h2⟩
theorem Dz.div {k s : Nat} {n : Int} {a b : Option Nat} (ha : Dz k n a) (hb : Dz 0 ((2 ^ s : Nat) : Int) b) (hs : s ≤ 100) (hk : k + s ≤ 1000) (h : -9007199254740992 < n ∧ n < 9007199254740992) : Dz (k + s) n (zo .quo a b) := by
  obtain ⟨x, rfl, hx⟩ := ha
  obtain ⟨y, rfl, hy⟩ := hb
  obtain ⟨r, h1, h2⟩ := hx.div hy hs hk h
  exact ⟨r, h1, h2⟩
theorem Dz.cmp {k : Nat} {n m : Int} {a b : Option Nat} (ha : Dz k n a) (hb : Dz k m b) : zc a b = some (compare n m) := by
  obtain ⟨x, rfl, hx⟩ := ha
  obtain ⟨y, rfl, hy⟩ := hb
  exact hx.cmp hy
theorem Dz.up {k l : Nat} {n : Int} {a : Option Nat} (h : Dz k n a) (hkl : k ≤ l) (hl : l ≤ 1000) : Dz l (n * ((2 ^ (l - k) : Nat) : Int)) a := by
  obtain ⟨x, rfl, hx⟩ := h
  exact ⟨x, rfl, hx.up hkl hl⟩
theorem Dz.some {k : Nat} {n : Int} {a : Option Nat} (h : Dz k n a) : a.isSome = true := by
  obtain ⟨x, rfl, -⟩ := h; rfl
end Fl
