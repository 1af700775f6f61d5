/- Floats out of whole numbers, and their quotients, within bounds. -/
import Derived.Test.YtcadgafenbmihabPM
import Derived.Laws.Cover2
namespace Fl
open Ieee Go

theorem quo_up {m n k l more z e j : Nat} (hn : n ≠ 0) (h1 : n < m * 2 ^ more) (hj : j ≤ e) (hx : m * 2 ^ k ≤ 2 ^ (51 + e)) (hy : 2 ^ (z + j) ≤ n * 2 ^ l) :
    (2 * (m * 2 ^ more / n) + (m * 2 ^ more % n != 0).toNat) * 2 ^ (k + z) ≤ 2 ^ (51 + (e - j) + (l + more + 1)) := by
  have key : (m * 2 ^ more) * 2 ^ (k + z) ≤ n * 2 ^ (51 + (e - j) + l + more) := by
    have g1 : (m * 2 ^ k) * 2 ^ (z + j) ≤ 2 ^ (51 + e) * (n * 2 ^ l) := Nat.mul_le_mul hx hy
    have g2 : ((m * 2 ^ k) * 2 ^ (z + j)) * 2 ^ more ≤ (2 ^ (51 + e) * (n * 2 ^ l)) * 2 ^ more := Nat.mul_le_mul_right _ g1
    have e1 : ((m * 2 ^ k) * 2 ^ (z + j)) * 2 ^ more = ((m * 2 ^ more) * 2 ^ (k + z)) * 2 ^ j := by
      rw [Nat.pow_add 2 z j, Nat.pow_add 2 k z]; ac_rfl
    have e2 : (2 ^ (51 + e) * (n * 2 ^ l)) * 2 ^ more = (n * 2 ^ (51 + (e - j) + l + more)) * 2 ^ j := by
      rw [show 51 + e = 51 + (e - j) + j by omega, Nat.pow_add 2 (51 + (e - j)) j, Nat.pow_add 2 (51 + (e - j) + l) more, Nat.pow_add 2 (51 + (e - j)) l]; ac_rfl
    rw [e1, e2] at g2
    exact Nat.le_of_mul_le_mul_right g2 (Nat.two_pow_pos j)
  have hDT : k + z ≤ 51 + (e - j) + l + more := by
    apply Nat.le_of_not_lt
    intro hlt
    have h2 : 2 ^ (51 + (e - j) + l + more) ≤ 2 ^ (k + z) := Nat.pow_le_pow_right (by decide) (by omega)
    have h3 : n * 2 ^ (51 + (e - j) + l + more) ≤ n * 2 ^ (k + z) := Nat.mul_le_mul_left _ h2
    have h4 : n * 2 ^ (k + z) < (m * 2 ^ more) * 2 ^ (k + z) := Nat.mul_lt_mul_of_pos_right h1 (Nat.two_pow_pos _)
    omega
  obtain ⟨q, hq⟩ : ∃ q, 51 + (e - j) + l + more = q + (k + z) := ⟨_, (Nat.sub_add_cancel hDT).symm⟩
  rw [hq, Nat.pow_add 2 q, ← Nat.mul_assoc] at key
  have key2 : m * 2 ^ more ≤ n * 2 ^ q := Nat.le_of_mul_le_mul_right key (Nat.two_pow_pos _)
  have hM : 2 * (m * 2 ^ more / n) + (m * 2 ^ more % n != 0).toNat ≤ 2 * 2 ^ q := by
    have hdm := Nat.div_add_mod (m * 2 ^ more) n
    generalize m * 2 ^ more = A at *
    generalize 2 ^ q = B at *
    by_cases hlt : A / n < B
    · have h3 : (A % n != 0).toNat ≤ 1 := Bool.toNat_le _
      omega
    · have h4 : n * B ≤ n * (A / n) := Nat.mul_le_mul_left _ (by omega)
      have h5 : A % n = 0 := by omega
      have h6 : A / n = B := by
        have : n * (A / n) = n * B := by omega
        exact Nat.eq_of_mul_eq_mul_left (by omega) this
      rw [h5, h6]; simp
  refine Nat.le_trans (Nat.mul_le_mul_right _ hM) ?_
  rw [show 51 + (e - j) + (l + more + 1) = 1 + q + (k + z) by omega, Nat.pow_add 2 (1 + q) (k + z), Nat.pow_add 2 1 q]
  exact Nat.le_refl _

theorem quo_lo {m n k l more z a b : Nat} (hn : n ≠ 0) (h1 : n < m * 2 ^ more) (hab : b ≤ a) (hx : 2 ^ (z + a) ≤ m * 2 ^ k) (hy : n * 2 ^ l ≤ 2 ^ (z + b)) :
    2 ^ (z + (a - b) + (l + more + 1)) ≤ (2 * (m * 2 ^ more / n) + (m * 2 ^ more % n != 0).toNat) * 2 ^ (k + z) := by
  have key : n * 2 ^ ((a - b) + l + more) ≤ (m * 2 ^ more) * 2 ^ k := by
    have g1 : 2 ^ (z + a) * (n * 2 ^ l) ≤ (m * 2 ^ k) * 2 ^ (z + b) := Nat.mul_le_mul hx hy
    have g2 : (2 ^ (z + a) * (n * 2 ^ l)) * 2 ^ more ≤ ((m * 2 ^ k) * 2 ^ (z + b)) * 2 ^ more := Nat.mul_le_mul_right _ g1
    have e1 : (2 ^ (z + a) * (n * 2 ^ l)) * 2 ^ more = (n * 2 ^ ((a - b) + l + more)) * 2 ^ (z + b) := by
      rw [show z + a = (a - b) + (z + b) by omega, Nat.pow_add 2 (a - b) (z + b), Nat.pow_add 2 ((a - b) + l) more, Nat.pow_add 2 (a - b) l]; ac_rfl
    have e2 : ((m * 2 ^ k) * 2 ^ (z + b)) * 2 ^ more = ((m * 2 ^ more) * 2 ^ k) * 2 ^ (z + b) := by ac_rfl
    rw [e1, e2] at g2
    exact Nat.le_of_mul_le_mul_right g2 (Nat.two_pow_pos _)
  have hM : 2 * (m * 2 ^ more / n) ≤ 2 * (m * 2 ^ more / n) + (m * 2 ^ more % n != 0).toNat := Nat.le_add_right _ _
  refine Nat.le_trans ?_ (Nat.mul_le_mul_right _ hM)
  by_cases hle : k ≤ (a - b) + l + more
  · obtain ⟨q, hq⟩ : ∃ q, (a - b) + l + more = q + k := ⟨_, (Nat.sub_add_cancel hle).symm⟩
    rw [hq, Nat.pow_add 2 q, ← Nat.mul_assoc] at key
    have key2 : n * 2 ^ q ≤ m * 2 ^ more := Nat.le_of_mul_le_mul_right key (Nat.two_pow_pos _)
    have h3 : 2 ^ q ≤ m * 2 ^ more / n := by
      rw [Nat.le_div_iff_mul_le (by omega), Nat.mul_comm]; exact key2
    rw [show z + (a - b) + (l + more + 1) = 1 + q + (k + z) by omega, Nat.pow_add 2 (1 + q), Nat.pow_add 2 1 q]
    exact Nat.mul_le_mul_right _ (Nat.mul_le_mul_left _ h3)
  · have h3 : 1 ≤ m * 2 ^ more / n := by
      rw [Nat.le_div_iff_mul_le (by omega), Nat.one_mul]; exact Nat.le_of_lt h1
    have h4 : 2 ^ (z + (a - b) + (l + more + 1)) ≤ 2 ^ (k + z) := Nat.pow_le_pow_right (by decide) (by omega)
    calc 2 ^ (z + (a - b) + (l + more + 1)) ≤ 1 * 2 ^ (k + z) := by rw [Nat.one_mul]; exact h4
      _ ≤ _ := Nat.mul_le_mul_right _ (by omega)

/-- The rung of a quotient, between powers of two. -/
theorem div_rung {x y : Nat} (hx : fin x) (hy : fin y) (h0 : 0 < rg y) :
    ∃ r, double.div x y = some (double.word (sg x ^^ sg y) r) ∧ r ≤ 2047 * 2 ^ 52 ∧
      (∀ e j, j < e → e - j < 2047 → mg (rg x) ≤ P2 (51 + e) → P2 (1074 + j) ≤ mg (rg y) → r ≤ (e - j) * 2 ^ 52) ∧
      (∀ a b, b ≤ a → 1023 + (a - b) < 2047 → P2 (1074 + a) ≤ mg (rg x) → mg (rg y) ≤ P2 (1074 + b) → (1023 + (a - b)) * 2 ^ 52 ≤ r) := by
  obtain ⟨m, k, ex, fx⟩ := read_fin hx
  obtain ⟨n, l, ey, fy⟩ := read_fin hy
  have hn : n ≠ 0 := by
    rintro rfl
    rw [Nat.zero_mul] at fy
    have := mg_pos h0
    omega
  unfold Format.div
  rw [ex, ey]
  unfold Datum.quotient
  simp only [if_neg hn, Option.map_some, Format.write, Option.some.injEq]
  have hf : double.fractionBits = 52 := rfl
  generalize hmore : double.fractionBits + 2 + n.log2 - m.log2 = more
  have hgt : m ≠ 0 → n < m * 2 ^ more := by
    intro hm
    have hne : m * 2 ^ more ≠ 0 := Nat.mul_ne_zero hm (by have := Nat.two_pow_pos more; omega)
    refine Nat.lt_of_lt_of_le Nat.lt_log2_self (Nat.le_trans (Nat.pow_le_pow_right (by decide) ?_) (Nat.log2_self_le hne))
    rw [log2_mul_pow hm]; omega
  rw [nearest_rr _ _ _ (l + more + 1) (by omega)]
  obtain ⟨z, hz⟩ : ∃ z, z = 1074 := ⟨_, rfl⟩
  rw [show (-1074 + (k : Int) - (-1074 + (l : Int)) - more - 1 + 1074 + ((l + more + 1 : Nat) : Int)).toNat = k + z by omega]
  rw [Nat.shiftLeft_eq]
  refine ⟨_, rfl, rr_le _ _, ?_, ?_⟩
  · intro e j hj he2 hx2 hy1
    refine rr_bd (by omega) he2 ?_
    rw [← fx] at hx2
    rw [← fy, ← hz] at hy1
    by_cases hm : m = 0
    · subst hm; rw [Nat.zero_mul, Nat.zero_div, Nat.zero_mod]; simp
    exact quo_up hn (hgt hm) (Nat.le_of_lt hj) hx2 hy1
  · intro a b hab he2 hx2 hy1
    rw [← fx, ← hz] at hx2
    rw [← fy, ← hz] at hy1
    have hm : m ≠ 0 := by
      rintro rfl
      rw [Nat.zero_mul] at hx2
      have := P2_pos (z + a)
      omega
    have hr : rr (l + more + 1) (mg ((1023 + (a - b)) * 2 ^ 52) * 2 ^ (l + more + 1)) = (1023 + (a - b)) * 2 ^ 52 := rr_mg _ _ (by rw [infRung_eq]; omega)
    rw [← hr, mg_pow _ (by omega), ← Nat.pow_add, show 51 + (1023 + (a - b)) = z + (a - b) by omega]
    exact rr_mono (quo_lo hn (hgt hm) hab hx2 hy1)

/-- A quotient of a finite one by one that is at least 1. -/
theorem vquo {x y : Nat} (hx : fin x) (hy : fin y) (h0 : 0 < rg y) :
    floatBits .quo .f64 x y = some (fdiv x y) ∧ sg (fdiv x y) = (sg x ^^ sg y) ∧ fdiv x y < 2 ^ 64 ∧
      (∀ e j, j < e → e - j < 2047 → mg (rg x) ≤ P2 (51 + e) → P2 (1074 + j) ≤ mg (rg y) → Bd (e - j) (fdiv x y)) ∧
      (∀ a b, b ≤ a → 1023 + (a - b) < 2047 → P2 (1074 + a) ≤ mg (rg x) → mg (rg y) ≤ P2 (1074 + b) → (1023 + (a - b)) * 2 ^ 52 ≤ rg (fdiv x y)) := by
  obtain ⟨r, h1, h2, h3, h4⟩ := div_rung hx hy h0
  have e1 : fdiv x y = double.word (sg x ^^ sg y) r := by unfold fdiv; rw [h1]; rfl
  have hlt : r < 2 ^ 63 := Nat.lt_of_le_of_lt h2 (by decide)
  rw [e1, rg_word _ hlt, sg_word _ hlt]
  refine ⟨h1, rfl, ?_, ?_, ?_⟩
  · unfold Format.word; rw [signWeight_eq]; split <;> omega
  · intro e j a b c d
    unfold Bd; rw [rg_word _ hlt]
    exact h3 e j a b c d
  · exact h4

/-- A whole number as a float. -/
theorem conv_nat (n : Nat) (h : n < 2 ^ 40) : fin (floatOfInt .f64 (n : Int)) ∧ sg (floatOfInt .f64 (n : Int)) = false ∧ floatOfInt .f64 (n : Int) < 2 ^ 64 ∧
    (∀ j, j ≤ 40 → n ≤ 2 ^ j → Bd (1023 + j) (floatOfInt .f64 (n : Int))) ∧ (∀ j, j ≤ 40 → 2 ^ j ≤ n → (1023 + j) * 2 ^ 52 ≤ rg (floatOfInt .f64 (n : Int))) := by
  obtain ⟨z, hz⟩ : ∃ z, z = 1074 := ⟨_, rfl⟩
  have e : floatOfInt .f64 (n : Int) = double.word false (rr 0 (n * 2 ^ z)) := by
    have h := nearest_rr (decide ((n : Int) < 0)) (n : Int).natAbs 0 0 (by omega)
    rw [show (0 + 1074 + ((0 : Nat) : Int)).toNat = z by omega, show decide ((n : Int) < 0) = false by simp, Int.natAbs_natCast] at h
    refine Eq.trans ?_ h
    show double.nearest (decide ((n : Int) < 0)) _ _ = _
    rw [show decide ((n : Int) < 0) = false by simp]; rfl
  have up : ∀ j, j ≤ 40 → n ≤ 2 ^ j → rr 0 (n * 2 ^ z) ≤ (1023 + j) * 2 ^ 52 := by
    intro j hj hn
    refine rr_bd (by omega) (by omega) ?_
    rw [show 51 + (1023 + j) + 0 = j + z by omega, Nat.pow_add]
    exact Nat.mul_le_mul_right _ hn
  have lo : ∀ j, j ≤ 40 → 2 ^ j ≤ n → (1023 + j) * 2 ^ 52 ≤ rr 0 (n * 2 ^ z) := by
    intro j hj hn
    have hr := rr_mg 0 ((1023 + j) * 2 ^ 52) (by rw [infRung_eq]; omega)
    rw [← hr, mg_pow _ (by omega), Nat.pow_zero, Nat.mul_one, show 51 + (1023 + j) = j + z by omega, Nat.pow_add]
    exact rr_mono (Nat.mul_le_mul_right _ hn)
  have hlt := rr_lt 0 (n * 2 ^ z)
  have h40 := up 40 (by omega) (by omega)
  generalize rr 0 (n * 2 ^ z) = R at *
  rw [e]
  refine ⟨?_, sg_word _ hlt, ?_, ?_, ?_⟩
  · unfold fin; rw [rg_word _ hlt]; omega
  · unfold Format.word; rw [signWeight_eq]; simp; omega
  · intro j hj hn; unfold Bd; rw [rg_word _ hlt]; exact up j hj hn
  · intro j hj hn; rw [rg_word _ hlt]; exact lo j hj hn

/-- The same below nought. -/
theorem conv_any (n : Int) (j : Nat) (hj : j ≤ 40) (h : n.natAbs ≤ 2 ^ j) : Bd (1023 + j) (floatOfInt .f64 n) := by
  obtain ⟨z, hz⟩ : ∃ z, z = 1074 := ⟨_, rfl⟩
  have e : floatOfInt .f64 n = double.word (decide (n < 0)) (rr 0 (n.natAbs * 2 ^ z)) := by
    have h := nearest_rr (decide (n < 0)) n.natAbs 0 0 (by omega)
    rw [show (0 + 1074 + ((0 : Nat) : Int)).toNat = z by omega] at h
    exact h
  unfold Bd
  rw [e, rg_word _ (rr_lt _ _)]
  refine rr_bd (by omega) (by omega) ?_
  rw [show 51 + (1023 + j) + 0 = j + z by omega, Nat.pow_add]
  exact Nat.mul_le_mul_right _ h

theorem P2_mg {e x : Nat} (h : Bd e x) (he : 0 < e) : mg (rg x) ≤ P2 (51 + e) := h.mg he
theorem mg_P2 {e x : Nat} (h : e * 2 ^ 52 ≤ rg x) (he : 0 < e) : P2 (51 + e) ≤ mg (rg x) := by
  have := mg_mono h
  rw [mg_pow e he] at this
  exact this

/-- Ordering of floats that are not below nought, by their words. -/
theorem fv_nn {x : Nat} (h : sg x = false) : fv x = mg (rg x) := by unfold fv; rw [h]; rfl
theorem pos_in {x K e : Nat} (hs : sg x = false) (hb : Bd e x) (he : e < 2047) (hK : e * 2 ^ 52 ≤ rg K) (hKs : sg K = false) (hf : fin K) : inR x 0 K = true := by
  have hx := hb.fin he
  unfold inR
  rw [fle_eq fin0 hx, fle_eq hx hf, fv0, fv_nn hs, fv_nn hKs]
  have := mg_mono (Nat.le_trans hb hK)
  simp; omega
theorem pos_in1 {x K e : Nat} (hs : sg x = false) (hb : Bd e x) (he : e < 2047) (hl : 1023 * 2 ^ 52 ≤ rg x) (hK : e * 2 ^ 52 ≤ rg K) (hKs : sg K = false) (hf : fin K) : inR x k1 K = true := by
  have hx := hb.fin he
  unfold inR
  rw [fle_eq fin1 hx, fle_eq hx hf, fv_nn hs, fv_nn hKs, fv_nn (show sg k1 = false by unfold sg; decide)]
  have h1 := mg_mono (Nat.le_trans hb hK)
  have h2 := mg_mono (show rg k1 ≤ rg x from hl)
  simp; omega

end Fl
