import Derived.Test.YtapnidhokpkmdaaFL
namespace Fl
open Ieee

def rg (x : Nat) : Nat := x % 2 ^ 63
def sg (x : Nat) : Bool := x / 2 ^ 63 % 2 == 1
/-- A finite number. -/
def fin (x : Nat) : Prop := rg x < 2047 * 2 ^ 52
/-- Its value, in units of 2 ^ -1074. -/
def fv (x : Nat) : Int := if sg x then -(mg (rg x) : Int) else mg (rg x)

theorem read_eq (x : Nat) : double.read x = if rg x < 2 ^ 52 then .number (sg x) (rg x) (-1074) else if rg x < 2047 * 2 ^ 52 then
    .number (sg x) (2 ^ 52 + rg x % 2 ^ 52) (-1074 + (rg x / 2 ^ 52 - 1 : Nat)) else if rg x = 2047 * 2 ^ 52 then .infinity (sg x) else .nan (sg x) (rg x - 2047 * 2 ^ 52) := by
  rw [← leastPlace_eq]
  rfl

theorem read_fin {x : Nat} (h : fin x) : ∃ m k, double.read x = .number (sg x) m (-1074 + (k : Nat)) ∧ m * 2 ^ k = mg (rg x) := by
  unfold fin at h
  rw [read_eq]
  unfold mg
  by_cases h1 : rg x < 2 ^ 52
  · rw [if_pos h1, if_pos h1]
    exact ⟨rg x, 0, by simp, by simp⟩
  · rw [if_neg h1, if_pos h, if_neg h1]
    exact ⟨_, _, rfl, rfl⟩

theorem read_inf {x : Nat} (h : rg x = 2047 * 2 ^ 52) : double.read x = .infinity (sg x) := by
  rw [read_eq]
  rw [if_neg (by omega), if_neg (by omega), if_pos h]

theorem read_nan {x : Nat} (h : 2047 * 2 ^ 52 < rg x) : ∃ f, double.read x = .nan (sg x) f := by
  rw [read_eq]
  rw [if_neg (by omega), if_neg (by omega), if_neg (by omega)]
  exact ⟨_, rfl⟩

theorem rg_word (s : Bool) {r : Nat} (h : r < 2 ^ 63) : rg (double.word s r) = r := by
  unfold Format.word
  rw [signWeight_eq]
  cases s <;> simp only [rg, Bool.false_eq_true, if_false, if_true] <;> omega

theorem sg_word (s : Bool) {r : Nat} (h : r < 2 ^ 63) : sg (double.word s r) = s := by
  unfold Format.word
  rw [signWeight_eq]
  cases s <;> simp [sg] <;> omega

theorem word_self {x : Nat} (h : x < 2 ^ 64) : double.word (sg x) (rg x) = x := by
  unfold Format.word
  rw [signWeight_eq]
  by_cases hs : x / 2 ^ 63 % 2 = 1
  · simp only [sg, rg, hs, beq_self_eq_true, if_true]; omega
  · have hs' : (x / 2 ^ 63 % 2 == 1) = false := by simpa using hs
    simp only [sg, rg, hs', Bool.false_eq_true, if_false]; omega

theorem rr_le (c n : Nat) : rr c n ≤ 2047 * 2 ^ 52 := by
  unfold rr
  split
  · omega
  · rw [infRung_eq]; omega

theorem rr_lt (c n : Nat) : rr c n < 2 ^ 63 := Nat.lt_of_le_of_lt (rr_le c n) (by decide)

theorem mg_mono {a b : Nat} (h : a ≤ b) : mg a ≤ mg b := by
  unfold mg
  by_cases hb : b < 2 ^ 52
  · rw [if_pos hb, if_pos (by omega)]; exact h
  rw [if_neg hb]
  have pb : 0 < 2 ^ (b / 2 ^ 52 - 1) := Nat.two_pow_pos _
  by_cases ha : a < 2 ^ 52
  · rw [if_pos ha]
    exact Nat.le_trans (show a ≤ 2 ^ 52 + b % 2 ^ 52 by omega) (Nat.le_mul_of_pos_right _ pb)
  rw [if_neg ha]
  have hq : a / 2 ^ 52 ≤ b / 2 ^ 52 := Nat.div_le_div_right h
  by_cases he : a / 2 ^ 52 = b / 2 ^ 52
  · rw [he]; exact Nat.mul_le_mul_right _ (by omega)
  · obtain ⟨k, hk⟩ : ∃ k, b / 2 ^ 52 - 1 = a / 2 ^ 52 - 1 + (k + 1) := ⟨b / 2 ^ 52 - a / 2 ^ 52 - 1, by omega⟩
    rw [hk, Nat.pow_add, Nat.pow_succ]
    have pk : 0 < 2 ^ k := Nat.two_pow_pos _
    generalize 2 ^ (a / 2 ^ 52 - 1) = g at *
    have h1 : (2 ^ 52 + a % 2 ^ 52) * g ≤ 2 ^ 53 * g := Nat.mul_le_mul_right _ (by omega)
    have h2 : 2 ^ 52 * (g * (1 * 2)) ≤ (2 ^ 52 + b % 2 ^ 52) * (g * (2 ^ k * 2)) := Nat.mul_le_mul (by omega) (Nat.mul_le_mul_left _ (Nat.mul_le_mul_right _ pk))
    have h3 : 2 ^ 52 * (g * (1 * 2)) = 2 ^ 53 * g := by omega
    exact Nat.le_trans h1 (Nat.le_trans (Nat.le_of_eq h3.symm) h2)

/-- The value of a rounded one, within the finite. -/
theorem mg_zero : mg 0 = 0 := rfl
theorem mg_pos {r : Nat} (h : 0 < r) : 0 < mg r := by
  have := mg_mono (show 1 ≤ r from h)
  have h1 : mg 1 = 1 := by simp [mg]
  omega
theorem mg_inj {a b : Nat} (ha : a < 2047 * 2 ^ 52) (hb : b < 2047 * 2 ^ 52) (h : mg a = mg b) : a = b := by
  rw [← rr_mg 0 a (by rw [infRung_eq]; exact ha), ← rr_mg 0 b (by rw [infRung_eq]; exact hb), h]

theorem mg_pow (e : Nat) (h : 0 < e) : mg (e * 2 ^ 52) = 2 ^ (51 + e) := by
  unfold mg
  have h1 : ¬ e * 2 ^ 52 < 2 ^ 52 := by omega
  have h2 : e * 2 ^ 52 % 2 ^ 52 = 0 := by omega
  have h3 : e * 2 ^ 52 / 2 ^ 52 = e := by omega
  rw [if_neg h1, h2, h3, Nat.add_zero, ← Nat.pow_add]
  congr 1; omega

/-- At most 2 ^ (e - 1023). -/
def Bd (e x : Nat) : Prop := rg x ≤ e * 2 ^ 52
theorem Bd.fin {e x : Nat} (h : Bd e x) (he : e < 2047) : fin x := by
  unfold Bd at h; unfold Fl.fin
  have h2 : e * 2 ^ 52 < 2047 * 2 ^ 52 := Nat.mul_lt_mul_of_pos_right he (by omega)
  omega
theorem Bd.mono {e f x : Nat} (h : Bd e x) (he : e ≤ f) : Bd f x := by
  exact Nat.le_trans h (Nat.mul_le_mul_right _ he)

theorem Bd.mg {e x : Nat} (h : Bd e x) (he : 0 < e) : mg (rg x) ≤ 2 ^ (51 + e) :=
  Nat.le_trans (mg_mono h) (Nat.le_of_eq (mg_pow e he))

theorem rr_bd {c n e : Nat} (he : 0 < e) (he2 : e < 2047) (h : n ≤ 2 ^ (51 + e + c)) : rr c n ≤ e * 2 ^ 52 := by
  have h1 : rr c n ≤ rr c (Fl.mg (e * 2 ^ 52) * 2 ^ c) := rr_mono (by rw [mg_pow e he, ← Nat.pow_add]; exact h)
  rw [rr_mg c _ (by rw [infRung_eq]; omega)] at h1
  exact h1

theorem signed_eq (s : Bool) (m u : Nat) : signed s m u = if s then -((m * 2 ^ u : Nat) : Int) else ((m * 2 ^ u : Nat) : Int) := by
  unfold signed; rw [Nat.shiftLeft_eq]

theorem signed_up (s : Bool) (m u v : Nat) : signed s m (u + v) = signed s m u * ((2 ^ v : Nat) : Int) := by
  rw [signed_eq, signed_eq, Nat.pow_add, ← Nat.mul_assoc]
  cases s
  · simp only [Bool.false_eq_true, if_false, Int.natCast_mul]
  · simp only [if_true, Int.natCast_mul, Int.neg_mul]

/-- The word of a sum's exact value. -/
def put (z : Bool) (t : Int) : Nat := double.word (if t = 0 then z else decide (t < 0)) (rr 0 t.natAbs)

theorem write_sum {s t : Bool} {m k n j : Nat} :
    (Datum.sum (.number s m (-1074 + (k : Int))) (.number t n (-1074 + (j : Int)))).map double.write = some (put (s && t) (signed s m k + signed t n j)) := by
  unfold Datum.sum
  simp only [Option.map_some, Format.write, Option.some.injEq]
  obtain ⟨b, hb⟩ : ∃ b : Nat, min (-1074 + (k : Int)) (-1074 + (j : Int)) = -1074 + (b : Int) := ⟨min k j, by omega⟩
  rw [hb]
  obtain ⟨k', hk⟩ : ∃ k' : Nat, k = k' + b := ⟨k - b, by omega⟩
  obtain ⟨j', hj⟩ : ∃ j' : Nat, j = j' + b := ⟨j - b, by omega⟩
  rw [show (-1074 + (k : Int) - (-1074 + (b : Int))).toNat = k' by omega, show (-1074 + (j : Int) - (-1074 + (b : Int))).toNat = j' by omega]
  rw [hk, hj, signed_up, signed_up, ← Int.add_mul]
  generalize signed s m k' + signed t n j' = T
  have pb : 0 < 2 ^ b := Nat.two_pow_pos b
  rw [nearest_rr _ _ _ 0 (by omega)]
  unfold put
  rw [show (-1074 + (b : Int) + 1074 + (0 : Nat)).toNat = b by omega]
  have e1 : (T * ((2 ^ b : Nat) : Int)).natAbs = T.natAbs * 2 ^ b := by rw [Int.natAbs_mul, Int.natAbs_natCast]
  rw [e1]
  generalize 2 ^ b = g at *
  congr 1
  have e2 : (T * (g : Int) = 0) = (T = 0) := by
    simp only [eq_iff_iff]
    constructor
    · intro h
      rcases Int.mul_eq_zero.1 h with h | h
      · exact h
      · omega
    · rintro rfl; simp
  have e3 : (T * (g : Int) < 0) = (T < 0) := by
    simp only [eq_iff_iff]
    constructor
    · intro h
      apply Int.not_le.1
      intro h2
      have := Int.mul_nonneg h2 (show (0 : Int) ≤ g by omega)
      omega
    · intro h
      exact Int.mul_neg_of_neg_of_pos h (by omega)
  simp only [e2, e3]

theorem fv_signed {x : Nat} {m k : Nat} (h : m * 2 ^ k = mg (rg x)) : signed (sg x) m k = fv x := by
  rw [signed_eq, h]; rfl

theorem add_eq {x y : Nat} (hx : fin x) (hy : fin y) : double.add x y = some (put (sg x && sg y) (fv x + fv y)) := by
  obtain ⟨m, k, e, f⟩ := read_fin hx
  obtain ⟨n, j, g, h⟩ := read_fin hy
  unfold Format.add
  rw [e, g, write_sum, fv_signed f, fv_signed h]

theorem signed_not (s : Bool) (m u : Nat) : signed (!s) m u = - signed s m u := by
  rw [signed_eq, signed_eq]; cases s <;> simp

theorem sub_eq {x y : Nat} (hx : fin x) (hy : fin y) : double.sub x y = some (put (sg x && !sg y) (fv x - fv y)) := by
  obtain ⟨m, k, e, f⟩ := read_fin hx
  obtain ⟨n, j, g, h⟩ := read_fin hy
  unfold Format.sub
  rw [e, g]
  show (Datum.sum _ (.number (!sg y) n _)).map double.write = _
  rw [write_sum, signed_not, fv_signed f, fv_signed h]
  rfl

theorem mul_eq {x y : Nat} (hx : fin x) (hy : fin y) : double.mul x y = some (double.word (sg x ^^ sg y) (rr 1074 (mg (rg x) * mg (rg y)))) := by
  obtain ⟨m, k, e, f⟩ := read_fin hx
  obtain ⟨n, j, g, h⟩ := read_fin hy
  unfold Format.mul
  rw [e, g]
  unfold Datum.product
  simp only [Option.map_some, Format.write, Option.some.injEq]
  rw [nearest_rr _ _ _ 1074 (by omega), show (-1074 + (k : Int) + (-1074 + (j : Int)) + 1074 + (1074 : Nat)).toNat = k + j by omega, ← f, ← h, Nat.pow_add]
  congr 2
  grind

theorem order_eq {x y : Nat} (hx : fin x) (hy : fin y) : double.order x y = some (compare (fv x) (fv y)) := by
  obtain ⟨m, k, e, f⟩ := read_fin hx
  obtain ⟨n, j, g, h⟩ := read_fin hy
  unfold Format.order
  rw [e, g]
  unfold Datum.order
  simp only [Option.some.injEq]
  obtain ⟨b, hb⟩ : ∃ b : Nat, min (-1074 + (k : Int)) (-1074 + (j : Int)) = -1074 + (b : Int) := ⟨min k j, by omega⟩
  rw [hb]
  obtain ⟨k', hk⟩ : ∃ k' : Nat, k = k' + b := ⟨k - b, by omega⟩
  obtain ⟨j', hj⟩ : ∃ j' : Nat, j = j' + b := ⟨j - b, by omega⟩
  rw [show (-1074 + (k : Int) - (-1074 + (b : Int))).toNat = k' by omega, show (-1074 + (j : Int) - (-1074 + (b : Int))).toNat = j' by omega]
  rw [← fv_signed f, ← fv_signed h, hk, hj, signed_up, signed_up]
  generalize signed (sg x) m k' = A
  generalize signed (sg y) n j' = C
  have pb : (0 : Int) < ((2 ^ b : Nat) : Int) := by have := Nat.two_pow_pos b; omega
  generalize ((2 ^ b : Nat) : Int) = G at *
  show compareOfLessAndEq A C = compareOfLessAndEq (A * G) (C * G)
  have e1 : (A * G < C * G) = (A < C) := by
    simp only [eq_iff_iff]
    exact ⟨fun h => Int.lt_of_mul_lt_mul_right h (by omega), fun h => Int.mul_lt_mul_of_pos_right h pb⟩
  have e2 : (A * G = C * G) = (A = C) := by
    simp only [eq_iff_iff]
    exact ⟨fun h => Int.eq_of_mul_eq_mul_right (by omega) h, fun h => by rw [h]⟩
  unfold compareOfLessAndEq
  simp only [e1, e2]

theorem put_rg (z : Bool) (t : Int) : rg (put z t) = rr 0 t.natAbs := rg_word _ (rr_lt _ _)
theorem put_sg (z : Bool) (t : Int) : sg (put z t) = if t = 0 then z else decide (t < 0) := sg_word _ (rr_lt _ _)

/-- The value that rounding gives. -/
def rv (t : Int) : Int := if t < 0 then -(mg (rr 0 t.natAbs) : Int) else mg (rr 0 t.natAbs)
theorem put_fv (z : Bool) (t : Int) : fv (put z t) = rv t := by
  unfold fv rv
  rw [put_rg, put_sg]
  by_cases h : t = 0
  · subst h
    have : rr 0 (0 : Int).natAbs = 0 := by simp [rr]
    rw [this]
    simp [mg_zero]
  · simp [h]

theorem rv_mono {a b : Int} (h : a ≤ b) : rv a ≤ rv b := by
  unfold rv
  have p1 : ∀ n : Int, (0 : Int) ≤ mg (rr 0 n.natAbs) := fun n => by omega
  by_cases ha : a < 0
  · rw [if_pos ha]
    by_cases hb : b < 0
    · rw [if_pos hb]
      have := mg_mono (rr_mono (c := 0) (show b.natAbs ≤ a.natAbs by omega))
      omega
    · rw [if_neg hb]; have := p1 a; have := p1 b; omega
  · rw [if_neg ha, if_neg (by omega)]
    have := mg_mono (rr_mono (c := 0) (show a.natAbs ≤ b.natAbs by omega))
    omega

theorem fv_abs (x : Nat) : (fv x).natAbs = mg (rg x) := by
  unfold fv; split <;> omega

/-- A value that is one already stays. -/
theorem rv_fv {x : Nat} (h : fin x) : rv (fv x) = fv x := by
  unfold rv
  rw [fv_abs]
  have h1 := rr_mg 0 (rg x) (by rw [infRung_eq]; exact h)
  rw [Nat.pow_zero, Nat.mul_one] at h1
  rw [h1]
  unfold fv
  cases hs : sg x
  · simp; omega
  · simp only [if_true]
    by_cases h0 : mg (rg x) = 0
    · rw [h0]; simp
    · rw [if_pos (by omega)]

theorem put_bd {z : Bool} {t : Int} {e : Nat} (he : 0 < e) (he2 : e < 2047) (h : t.natAbs ≤ 2 ^ (51 + e)) : Bd e (put z t) := by
  unfold Bd; rw [put_rg]; exact rr_bd he he2 (by simpa using h)

theorem add_bd {x y e : Nat} (hx : Bd e x) (hy : Bd e y) (he : 0 < e) (he2 : e + 1 < 2047) :
    ∃ r, double.add x y = some r ∧ Bd (e + 1) r ∧ fv r = rv (fv x + fv y) ∧ r = put (sg x && sg y) (fv x + fv y) := by
  refine ⟨_, add_eq (hx.fin (by omega)) (hy.fin (by omega)), put_bd (by omega) he2 ?_, put_fv _ _, rfl⟩
  have h1 := hx.mg he
  have h2 := hy.mg he
  have := fv_abs x
  have := fv_abs y
  rw [show 51 + (e + 1) = 51 + e + 1 by omega, Nat.pow_succ]
  omega

theorem sub_bd {x y e : Nat} (hx : Bd e x) (hy : Bd e y) (he : 0 < e) (he2 : e + 1 < 2047) :
    ∃ r, double.sub x y = some r ∧ Bd (e + 1) r ∧ fv r = rv (fv x - fv y) := by
  refine ⟨_, sub_eq (hx.fin (by omega)) (hy.fin (by omega)), put_bd (by omega) he2 ?_, put_fv _ _⟩
  have h1 := hx.mg he
  have h2 := hy.mg he
  have := fv_abs x
  have := fv_abs y
  rw [show 51 + (e + 1) = 51 + e + 1 by omega, Nat.pow_succ]
  omega

theorem mul_bd {x y a b e : Nat} (hx : Bd a x) (hy : Bd b y) (ha : 0 < a) (hb : 0 < b) (ha2 : a < 2047) (hb2 : b < 2047) (he : 0 < e) (he2 : e < 2047) (hab : a + b ≤ e + 1023) :
    ∃ r, double.mul x y = some r ∧ Bd e r ∧ r = double.word (sg x ^^ sg y) (rr 1074 (mg (rg x) * mg (rg y))) := by
  refine ⟨_, mul_eq (hx.fin ha2) (hy.fin hb2), ?_, rfl⟩
  unfold Bd
  rw [rg_word _ (rr_lt _ _)]
  refine rr_bd he he2 ?_
  refine Nat.le_trans (Nat.mul_le_mul (hx.mg ha) (hy.mg hb)) ?_
  rw [← Nat.pow_add]
  exact Nat.pow_le_pow_right (by decide) (by omega)

end Fl
