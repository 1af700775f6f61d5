import Derived.Test.YtapnidhokpkmdaaFM
namespace Fl
open Ieee Go

/-- The two orders that are asked, as the walk says them. -/
abbrev ford (x y : Nat) : Option Ordering := FloatKind.f64.format.order x y
theorem ford_eq (x y : Nat) : ford x y = double.order x y := rfl
def fle (x y : Nat) : Bool := ford x y == some .lt || ford x y == some .eq
def flt (x y : Nat) : Bool := ford x y == some .lt
def fgt (x y : Nat) : Bool := ford x y == some .gt
def feq (x y : Nat) : Bool := ford x y == some .eq
def inR (x lo hi : Nat) : Bool := fle lo x && fle x hi

theorem cmp_lt {a b : Int} : (some (compare a b) == some Ordering.lt) = decide (a < b) := by
  show (some (compareOfLessAndEq a b) == _) = _
  unfold compareOfLessAndEq
  by_cases h : a < b
  · simp [h]
  · by_cases h2 : a = b <;> simp [h, h2]
theorem cmp_eq {a b : Int} : (some (compare a b) == some Ordering.eq) = decide (a = b) := by
  show (some (compareOfLessAndEq a b) == _) = _
  unfold compareOfLessAndEq
  by_cases h : a < b
  · simp [h]; omega
  · by_cases h2 : a = b <;> simp [h, h2]
theorem cmp_gt {a b : Int} : (some (compare a b) == some Ordering.gt) = decide (b < a) := by
  show (some (compareOfLessAndEq a b) == _) = _
  unfold compareOfLessAndEq
  by_cases h : a < b
  · simp [h]; omega
  · by_cases h2 : a = b
    · simp [h2]
    · simp [h, h2]; omega

theorem fle_eq {x y : Nat} (hx : fin x) (hy : fin y) : fle x y = decide (fv x ≤ fv y) := by
  unfold fle; rw [ford_eq, order_eq hx hy, cmp_lt, cmp_eq]
  by_cases h : fv x < fv y
  · simp [h]; omega
  · by_cases h2 : fv x = fv y
    · simp [h2]
    · simp [h, h2]; omega
theorem flt_eq {x y : Nat} (hx : fin x) (hy : fin y) : flt x y = decide (fv x < fv y) := by
  unfold flt; rw [ford_eq, order_eq hx hy, cmp_lt]
theorem fgt_eq {x y : Nat} (hx : fin x) (hy : fin y) : fgt x y = decide (fv y < fv x) := by
  unfold fgt; rw [ford_eq, order_eq hx hy, cmp_gt]
theorem feq_eq {x y : Nat} (hx : fin x) (hy : fin y) : feq x y = decide (fv x = fv y) := by
  unfold feq; rw [ford_eq, order_eq hx hy, cmp_eq]

theorem order_fi {x y : Nat} (hx : fin x) (hy : rg y = 2047 * 2 ^ 52) : double.order x y = some (if sg y then .gt else .lt) := by
  obtain ⟨m, k, e, -⟩ := read_fin hx
  unfold Format.order; rw [e, read_inf hy]; rfl
theorem order_if {x y : Nat} (hx : rg x = 2047 * 2 ^ 52) (hy : fin y) : double.order x y = some (if sg x then .lt else .gt) := by
  obtain ⟨m, k, e, -⟩ := read_fin hy
  unfold Format.order; rw [e, read_inf hx]; rfl
theorem order_nl {x y : Nat} (hx : 2047 * 2 ^ 52 < rg x) : double.order x y = none := by
  obtain ⟨f, e⟩ := read_nan hx
  unfold Format.order; rw [e]; rfl
theorem order_nr {x y : Nat} (hy : 2047 * 2 ^ 52 < rg y) : double.order x y = none := by
  obtain ⟨f, e⟩ := read_nan hy
  unfold Format.order; rw [e]; cases double.read x <;> rfl

theorem fle_fin {lo x hi : Nat} (hl : fin lo) (hh : fin hi) (h1 : fle lo x = true) (h2 : fle x hi = true) : fin x := by
  unfold fin
  apply Nat.lt_of_not_le
  intro hge
  by_cases he : rg x = 2047 * 2 ^ 52
  · unfold fle at h1 h2
    rw [ford_eq, order_fi hl he] at h1
    rw [ford_eq, order_if he hh] at h2
    cases hs : sg x <;> simp [hs] at h1 h2
  · unfold fle at h1
    rw [ford_eq, order_nr (by omega)] at h1
    simp at h1

theorem inR_fin {x lo hi : Nat} (hl : fin lo) (hh : fin hi) (h : inR x lo hi = true) : fin x ∧ fv lo ≤ fv x ∧ fv x ≤ fv hi := by
  simp only [inR, Bool.and_eq_true] at h
  have hx := fle_fin hl hh h.1 h.2
  refine ⟨hx, ?_, ?_⟩
  · have := h.1; rw [fle_eq hl hx] at this; simpa using this
  · have := h.2; rw [fle_eq hx hh] at this; simpa using this

theorem rg_of_mg {x e : Nat} (hx : fin x) (h : mg (rg x) ≤ mg (e * 2 ^ 52)) (he : e < 2047) : Bd e x := by
  apply Nat.le_of_not_lt
  intro hlt
  have h1 := mg_mono (Nat.le_of_lt hlt)
  have h2 : e * 2 ^ 52 < 2047 * 2 ^ 52 := Nat.mul_lt_mul_of_pos_right he (by omega)
  have h3 := mg_inj hx h2 (Nat.le_antisymm h h1)
  exact Nat.lt_irrefl _ (h3 ▸ hlt)

theorem inR_bd {x lo hi e : Nat} (hl : Bd e lo) (hh : Bd e hi) (he : e < 2047) (h : inR x lo hi = true) : Bd e x := by
  obtain ⟨hx, h1, h2⟩ := inR_fin (hl.fin he) (hh.fin he) h
  refine rg_of_mg hx ?_ he
  have m1 := mg_mono hl
  have m2 := mg_mono hh
  rw [← fv_abs x]
  rw [← fv_abs lo] at m1
  rw [← fv_abs hi] at m2
  omega

def fadd (x y : Nat) : Nat := (double.add x y).getD 0
def fsub (x y : Nat) : Nat := (double.sub x y).getD 0
def fmul (x y : Nat) : Nat := (double.mul x y).getD 0
def fdiv (x y : Nat) : Nat := (double.div x y).getD 0

theorem vadd {x y e : Nat} (hx : Bd e x) (hy : Bd e y) (he : 0 < e) (he2 : e + 1 < 2047) :
    floatBits .add .f64 x y = some (fadd x y) ∧ Bd (e + 1) (fadd x y) ∧ fv (fadd x y) = rv (fv x + fv y) := by
  obtain ⟨r, h1, h2, h3, -⟩ := add_bd hx hy he he2
  have e1 : fadd x y = r := by unfold fadd; rw [h1]; rfl
  rw [e1]
  exact ⟨h1, h2, h3⟩
theorem vsub {x y e : Nat} (hx : Bd e x) (hy : Bd e y) (he : 0 < e) (he2 : e + 1 < 2047) :
    floatBits .sub .f64 x y = some (fsub x y) ∧ Bd (e + 1) (fsub x y) := by
  obtain ⟨r, h1, h2, -⟩ := sub_bd hx hy he he2
  have e1 : fsub x y = r := by unfold fsub; rw [h1]; rfl
  rw [e1]
  exact ⟨h1, h2⟩
theorem vmul {x y a b : Nat} (e : Nat) (hx : Bd a x) (hy : Bd b y) (ha : 0 < a) (hb : 0 < b) (ha2 : a < 2047) (hb2 : b < 2047) (he : 0 < e) (he2 : e < 2047) (hab : a + b ≤ e + 1023) :
    floatBits .mul .f64 x y = some (fmul x y) ∧ Bd e (fmul x y) := by
  obtain ⟨r, h1, h2, -⟩ := mul_bd hx hy ha hb ha2 hb2 he he2 hab
  have e1 : fmul x y = r := by unfold fmul; rw [h1]; rfl
  rw [e1]
  exact ⟨h1, h2⟩

/-- A quotient of finite ones, the lower not nought. -/
theorem div_eq {x y : Nat} (hx : fin x) (hy : fin y) (h0 : 0 < rg y) :
    ∃ r, double.div x y = some (double.word (sg x ^^ sg y) r) ∧ r ≤ 2047 * 2 ^ 52 ∧ ∀ e, 0 < e → e + 1 < 2047 → Bd e x → 2 ^ 1074 ≤ mg (rg y) → r ≤ (e + 1) * 2 ^ 52 := by
  obtain ⟨m, k, ex, fx⟩ := read_fin hx
  obtain ⟨n, l, ey, fy⟩ := read_fin hy
  have hn : n ≠ 0 := by
    rintro rfl
    rw [Nat.zero_mul] at fy
    have := mg_pos h0
    omega
  unfold Format.div
  rw [ex, ey]
  unfold Datum.quotient
  simp only [if_neg hn, Option.map_some, Format.write, Option.some.injEq]
  generalize hmore : double.fractionBits + 2 + n.log2 - m.log2 = more
  rw [nearest_rr _ _ _ (l + more + 1) (by omega)]
  refine ⟨_, rfl, rr_le _ _, ?_⟩
  intro e he he2 hb hy1
  have hm2 := hb.mg he
  refine rr_bd (by omega) he2 ?_
  rw [show (-1074 + (k : Int) - (-1074 + (l : Int)) - more - 1 + 1074 + ((l + more + 1 : Nat) : Int)).toNat = k + 1074 by omega]
  rw [← fx] at hm2
  rw [← fy] at hy1
  rw [Nat.shiftLeft_eq]
  have hf : double.fractionBits = 52 := rfl
  have hq : 2 * (m * 2 ^ more / n) + (m * 2 ^ more % n != 0).toNat ≤ 4 * (m * 2 ^ more / n) := by
    by_cases hm : m = 0
    · subst hm; simp
    · have h1 : n < m * 2 ^ more := by
        have hne : m * 2 ^ more ≠ 0 := Nat.mul_ne_zero hm (by have := Nat.two_pow_pos more; omega)
        refine Nat.lt_of_lt_of_le Nat.lt_log2_self (Nat.le_trans (Nat.pow_le_pow_right (by decide) ?_) (Nat.log2_self_le hne))
        rw [log2_mul_pow hm]; omega
      have h2 : 0 < m * 2 ^ more / n := Nat.div_pos (Nat.le_of_lt h1) (by omega)
      have h3 : (m * 2 ^ more % n != 0).toNat ≤ 1 := Bool.toNat_le _
      omega
  have hdn : n * (m * 2 ^ more / n) ≤ m * 2 ^ more := Nat.mul_div_le _ _
  generalize m * 2 ^ more / n = q at *
  generalize 2 * q + (m * 2 ^ more % n != 0).toNat = M at *
  refine Nat.le_trans (Nat.mul_le_mul_right _ hq) ?_
  rw [Nat.pow_add 2 k 1074]
  calc 4 * q * (2 ^ k * 2 ^ 1074) ≤ 4 * q * (2 ^ k * (n * 2 ^ l)) := Nat.mul_le_mul_left _ (Nat.mul_le_mul_left _ hy1)
    _ = (n * q) * (4 * 2 ^ k * 2 ^ l) := by ac_rfl
    _ ≤ (m * 2 ^ more) * (4 * 2 ^ k * 2 ^ l) := Nat.mul_le_mul_right _ hdn
    _ = (m * 2 ^ k) * (2 ^ more * (4 * 2 ^ l)) := by ac_rfl
    _ ≤ 2 ^ (51 + e) * (2 ^ more * (4 * 2 ^ l)) := Nat.mul_le_mul_right _ hm2
    _ = 2 ^ (51 + (e + 1) + (l + more + 1)) := by
        rw [show 51 + (e + 1) + (l + more + 1) = (51 + e) + (more + (2 + l)) by omega, Nat.pow_add 2 (51 + e), Nat.pow_add 2 more, Nat.pow_add 2 2 l]

theorem vdiv {x y : Nat} (hx : fin x) (hy : fin y) (h0 : 0 < rg y) :
    floatBits .quo .f64 x y = some (fdiv x y) ∧ rg (fdiv x y) ≤ 2047 * 2 ^ 52 ∧ sg (fdiv x y) = (sg x ^^ sg y) ∧ ∀ e, 0 < e → e + 1 < 2047 → Bd e x → 2 ^ 1074 ≤ mg (rg y) → Bd (e + 1) (fdiv x y) := by
  obtain ⟨r, h1, h2, h3⟩ := div_eq hx hy h0
  have e1 : fdiv x y = double.word (sg x ^^ sg y) r := by unfold fdiv; rw [h1]; rfl
  have h4 : r < 2 ^ 63 := Nat.lt_of_le_of_lt h2 (by decide)
  rw [e1, rg_word _ h4, sg_word _ h4]
  refine ⟨h1, h2, rfl, ?_⟩
  intro e a b c d
  unfold Bd
  rw [rg_word _ h4]
  exact h3 e a b c d

end Fl
