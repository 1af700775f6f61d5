/- Running times: the squares at the borders as the model tells them, and as two passes over the course find them: the same list. -/
import Derived.Test.YtnhcmjfmfgoakaaA
namespace Go.Proofs.Ytnhcmjfmfgoakaa
open Go.RowKit

/-- A motor: by how much the square may grow and fall from border to border, and the top speed. -/
structure MotorV where
  u : Int
  d : Int
  t : Int
def MotorV.val (m : MotorV) : Value := .agg #[.int .i64 m.u, .int .i64 m.d, .int .i64 m.t]
def motorB (m : MotorV) : Bool := inB m.u 1 200 && (inB m.d 1 400 && inB m.t 1 90)
def courseB (zs : List Int) : Bool := inB zs.length 1 200 && zs.all (fun z => inB z 1 90)

def lo (a x : Int) : Int := if x < a then x else a
theorem lo_le1 (a x : Int) : lo a x ≤ a := by unfold lo; split <;> omega
theorem lo_le2 (a x : Int) : lo a x ≤ x := by unfold lo; split <;> omega
theorem lo_or (a x : Int) : lo a x = a ∨ lo a x = x := by unfold lo; split <;> simp
theorem lo_pos {a x b : Int} (h : b ≤ a) (g : b ≤ x) : b ≤ lo a x := by unfold lo; split <;> omega

/-- The least speed that bounds border k by its own. -/
def capV (t : Int) (zs : List Int) (k : Nat) : Int := lo (lo t (zs.getD (k - 1) 0)) (zs.getD k 0)
def capS (t : Int) (zs : List Int) (k : Nat) : Int := if k = 0 ∨ k = zs.length then 0 else capV t zs k * capV t zs k
/-- What border j lets border k be. -/
def reach (m : MotorV) (zs : List Int) (k j : Nat) : Int := capS m.t zs j + (if j < k then m.u * ((k : Int) - j) else m.d * ((j : Int) - k))
def sqFold (m : MotorV) (zs : List Int) (k : Nat) : Nat → Int
  | 0 => capS m.t zs k
  | j + 1 => lo (sqFold m zs k j) (reach m zs k j)
def sqAt (m : MotorV) (zs : List Int) (k : Nat) : Int := sqFold m zs k (zs.length + 1)
def sqs (m : MotorV) (zs : List Int) : List Int := if motorB m && courseB zs then (List.range (zs.length + 1)).map (sqAt m zs) else []

/-- What the program's rules make of the square at border b. -/
def lowV (m : MotorV) (zs xs : List Int) (b : Nat) : Int :=
  lo (lo (lo (lo (lo (xs.getD b 0) (m.t * m.t)) (zs.getD (b - 1) 0 * zs.getD (b - 1) 0)) (zs.getD b 0 * zs.getD b 0)) (xs.getD (b - 1) 0 + m.u)) (xs.getD (b + 1) 0 + m.d)
def lower (m : MotorV) (zs xs : List Int) (b : Nat) : List Int := xs.set b (lowV m zs xs b)
/-- The list behind the first loop: k inner borders filled. -/
def filled (n k : Nat) : List Int := (List.range (n + 1)).map (fun i => if 1 ≤ i ∧ i ≤ k then 8100 else 0)
def pass1 (m : MotorV) (zs : List Int) : Nat → List Int
  | 0 => filled zs.length (zs.length - 1)
  | k + 1 => lower m zs (pass1 m zs k) (k + 1)
/-- k borders done on the way back. -/
def pass2 (m : MotorV) (zs : List Int) : Nat → List Int
  | 0 => pass1 m zs (zs.length - 1)
  | k + 1 => lower m zs (pass2 m zs k) (zs.length - 1 - k)

theorem getD_out {xs : List Int} {i : Nat} (h : xs.length ≤ i) : xs.getD i 0 = 0 := by simp [List.getD, List.getElem?_eq_none h]
theorem sq_le {a b : Int} (h0 : 0 ≤ a) (h : a ≤ b) : a * a ≤ b * b := Int.mul_le_mul h h h0 (by omega)
theorem lo_sq {a x : Int} (ha : 0 ≤ a) (hx : 0 ≤ x) : lo a x * lo a x = lo (a * a) (x * x) := by
  by_cases h : x < a
  · have h1 := sq_le hx (by omega : x ≤ a)
    have e : lo a x = x := by simp [lo, h]
    rw [e]
    by_cases h2 : x * x < a * a
    · simp [lo, h2]
    · simp [lo, h2]; omega
  · have h1 := sq_le ha (by omega : a ≤ x)
    have e : lo a x = a := by simp [lo, h]
    rw [e]
    have h2 : ¬ x * x < a * a := by omega
    simp [lo, h2]
theorem lo_nn {a x : Int} (ha : 0 ≤ a) (hx : 0 ≤ x) : 0 ≤ lo a x := lo_pos ha hx

section
variable {m : MotorV} {zs : List Int}

structure Right (m : MotorV) (zs : List Int) : Prop where
  u0 : 1 ≤ m.u
  u1 : m.u ≤ 200
  d0 : 1 ≤ m.d
  d1 : m.d ≤ 400
  t0 : 1 ≤ m.t
  t1 : m.t ≤ 90
  n0 : 1 ≤ zs.length
  n1 : zs.length ≤ 200
  z : ∀ i, i < zs.length → 1 ≤ zs.getD i 0 ∧ zs.getD i 0 ≤ 90

theorem motorB_parts (h : motorB m = true) : (1 ≤ m.u ∧ m.u ≤ 200) ∧ (1 ≤ m.d ∧ m.d ≤ 400) ∧ (1 ≤ m.t ∧ m.t ≤ 90) := by
  simp only [motorB, Bool.and_eq_true] at h
  exact ⟨inB_true h.1, inB_true h.2.1, inB_true h.2.2⟩
theorem courseB_parts (h : courseB zs = true) : (1 ≤ zs.length ∧ zs.length ≤ 200) ∧ ∀ i, i < zs.length → 1 ≤ zs.getD i 0 ∧ zs.getD i 0 ≤ 90 := by
  simp only [courseB, Bool.and_eq_true, List.all_eq_true] at h
  have h1 := inB_true h.1
  refine ⟨by omega, fun i hi => ?_⟩
  have := inB_true (h.2 zs[i] (List.getElem_mem hi))
  simpa [List.getD, hi] using this
theorem Right.of (h : motorB m = true) (g : courseB zs = true) : Right m zs := by
  obtain ⟨⟨a, b⟩, ⟨c, d⟩, ⟨e, f⟩⟩ := motorB_parts h
  obtain ⟨⟨k, l⟩, z⟩ := courseB_parts g
  exact ⟨a, b, c, d, e, f, k, l, z⟩

theorem Right.capS_nn (_R : Right m zs) (k : Nat) : 0 ≤ capS m.t zs k := by
  unfold capS
  split
  · exact Int.le_refl _
  · generalize capV m.t zs k = v
    by_cases h : 0 ≤ v
    · exact Int.mul_nonneg h h
    · exact Int.mul_nonneg_of_nonpos_of_nonpos (by omega) (by omega)
theorem Right.cap_in (R : Right m zs) {k : Nat} (h1 : 1 ≤ k) (h2 : k < zs.length) :
    capS m.t zs k = lo (lo (m.t * m.t) (zs.getD (k - 1) 0 * zs.getD (k - 1) 0)) (zs.getD k 0 * zs.getD k 0) := by
  have a := R.z (k - 1) (by omega)
  have b := R.z k h2
  have c := R.t0
  unfold capS capV
  rw [if_neg (by omega), lo_sq (lo_nn (by omega) (by omega)) (by omega), lo_sq (by omega) (by omega)]
theorem Right.cap_le (R : Right m zs) (k : Nat) : capS m.t zs k ≤ 8100 := by
  by_cases h : k = 0 ∨ k = zs.length
  · simp [capS, h]
  · by_cases h2 : k < zs.length
    · have := R.cap_in (by omega) h2
      rw [this]
      have h3 := lo_le1 (lo (m.t * m.t) (zs.getD (k - 1) 0 * zs.getD (k - 1) 0)) (zs.getD k 0 * zs.getD k 0)
      have h4 := lo_le1 (m.t * m.t) (zs.getD (k - 1) 0 * zs.getD (k - 1) 0)
      have h5 := sq_le (a := m.t) (b := 90) (by have := R.t0; omega) R.t1
      omega
    · have e : zs.getD k 0 = 0 := getD_out (by omega)
      unfold capS capV
      rw [if_neg h, e]
      have a := R.z (k - 1)
      have h5 : 0 ≤ lo m.t (zs.getD (k - 1) 0) := by
        refine lo_nn (by have := R.t0; omega) ?_
        by_cases hk : k - 1 < zs.length
        · have := a hk; omega
        · have e : zs.getD (k - 1) 0 = 0 := getD_out (by omega)
          omega
      have e : lo (lo m.t (zs.getD (k - 1) 0)) 0 = 0 := by
        generalize lo m.t (zs.getD (k - 1) 0) = v at h5
        unfold lo; split <;> omega
      rw [e]; omega

theorem reach_back {m : MotorV} {zs : List Int} {k j : Nat} (h : k < j) : reach m zs k j = reach m zs (k + 1) j + m.d := by
  unfold reach
  rw [if_neg (by omega), if_neg (by omega)]
  have e : ((k + 1 : Nat) : Int) = (k : Int) + 1 := by omega
  rw [e]
  simp only [Int.mul_sub, Int.mul_add, Int.mul_one]
  omega
theorem reach_on {m : MotorV} {zs : List Int} {k j : Nat} (h : j ≤ k) : reach m zs (k + 1) j = reach m zs k j + m.u := by
  unfold reach
  rw [if_pos (by omega)]
  have e : ((k + 1 : Nat) : Int) = (k : Int) + 1 := by omega
  by_cases h2 : j < k
  · rw [if_pos h2, e]
    simp only [Int.mul_sub, Int.mul_add, Int.mul_one]
    omega
  · obtain rfl : j = k := by omega
    rw [if_neg h2, e]
    simp only [Int.mul_sub, Int.mul_add, Int.mul_one]
    omega
theorem reach_self {m : MotorV} {zs : List Int} {k : Nat} : reach m zs k k = capS m.t zs k := by
  unfold reach
  rw [if_neg (by omega)]
  simp
theorem Right.reach_nn (R : Right m zs) (k j : Nat) : 0 ≤ reach m zs k j := by
  have h := R.capS_nn j
  unfold reach
  split
  · have := Int.mul_nonneg (a := m.u) (b := (k : Int) - j) (by have := R.u0; omega) (by omega)
    omega
  · have := Int.mul_nonneg (a := m.d) (b := (j : Int) - k) (by have := R.d0; omega) (by omega)
    omega

/-- x is the least of what the borders let border k be. -/
def Least (m : MotorV) (zs : List Int) (k : Nat) (x : Int) : Prop := (∀ j, j ≤ zs.length → x ≤ reach m zs k j) ∧ ∃ j, j ≤ zs.length ∧ x = reach m zs k j
theorem Least.uniq {k : Nat} {x y : Int} (h : Least m zs k x) (g : Least m zs k y) : x = y := by
  obtain ⟨h1, j, hj, rfl⟩ := h
  obtain ⟨g1, i, hi, rfl⟩ := g
  have := h1 i hi
  have := g1 j hj
  omega
theorem sqFold_le (k : Nat) : ∀ n j, j < n → sqFold m zs k n ≤ reach m zs k j := by
  intro n
  induction n with
  | zero => intro j hj; omega
  | succ n ih =>
    intro j hj
    unfold sqFold
    by_cases h : j < n
    · have := ih j h
      have := lo_le1 (sqFold m zs k n) (reach m zs k n)
      omega
    · obtain rfl : j = n := by omega
      exact lo_le2 _ _
theorem sqFold_or (k : Nat) : ∀ n, sqFold m zs k n = capS m.t zs k ∨ ∃ j, j < n ∧ sqFold m zs k n = reach m zs k j := by
  intro n
  induction n with
  | zero => exact .inl rfl
  | succ n ih =>
    unfold sqFold
    rcases lo_or (sqFold m zs k n) (reach m zs k n) with h | h
    · rw [h]
      rcases ih with h | ⟨j, hj, h⟩
      · exact .inl h
      · exact .inr ⟨j, by omega, h⟩
    · exact .inr ⟨n, by omega, h⟩
theorem sqAt_least {k : Nat} (hk : k ≤ zs.length) : Least m zs k (sqAt m zs k) := by
  refine ⟨fun j hj => sqFold_le k _ j (by omega), ?_⟩
  rcases sqFold_or (m := m) (zs := zs) k (zs.length + 1) with h | ⟨j, hj, h⟩
  · exact ⟨k, hk, by rw [reach_self]; exact h⟩
  · exact ⟨j, by omega, h⟩
theorem Right.zero_least (R : Right m zs) {k : Nat} (h : k = 0 ∨ k = zs.length) (hk : k ≤ zs.length) : Least m zs k 0 :=
  ⟨fun j _ => R.reach_nn k j, k, hk, by rw [reach_self, capS, if_pos h]⟩

/-- Borders below k are as the way on leaves them. -/
structure On (m : MotorV) (zs : List Int) (x : Nat → Int) (k : Nat) : Prop where
  first : x 0 = 0
  last : x zs.length = 0
  cap : ∀ i, 1 ≤ i → i < k → x i ≤ capS m.t zs i
  grow : ∀ i, 1 ≤ i → i < k → x i ≤ x (i - 1) + m.u
  got : ∀ i, i < k → (∃ j, j ≤ i ∧ x i = reach m zs i j) ∨ (i + 1 = zs.length ∧ x i = reach m zs i zs.length)

theorem On.le (R : Right m zs) {x : Nat → Int} {k : Nat} (h : On m zs x k) : ∀ i, i < k → i < zs.length → ∀ j, j ≤ i → x i ≤ reach m zs i j := by
  intro i
  induction i with
  | zero => intro _ _ j _; rw [h.first]; exact R.reach_nn _ _
  | succ i ih =>
    intro hk hn j hj
    by_cases e : j = i + 1
    · subst e; rw [reach_self]; exact h.cap _ (by omega) hk
    · have h1 := ih (by omega) (by omega) j (by omega)
      have h2 := h.grow (i + 1) (by omega) hk
      rw [Nat.add_sub_cancel] at h2
      rw [reach_on (by omega)]
      omega

theorem lowV_or (m : MotorV) (zs xs : List Int) (b : Nat) : lowV m zs xs b = xs.getD b 0 ∨ lowV m zs xs b = m.t * m.t ∨ lowV m zs xs b = zs.getD (b - 1) 0 * zs.getD (b - 1) 0 ∨ lowV m zs xs b = zs.getD b 0 * zs.getD b 0 ∨ lowV m zs xs b = xs.getD (b - 1) 0 + m.u ∨ lowV m zs xs b = xs.getD (b + 1) 0 + m.d := by
  unfold lowV
  generalize xs.getD b 0 = a1
  generalize m.t * m.t = a2
  generalize zs.getD (b - 1) 0 * zs.getD (b - 1) 0 = a3
  generalize zs.getD b 0 * zs.getD b 0 = a4
  generalize xs.getD (b - 1) 0 + m.u = a5
  generalize xs.getD (b + 1) 0 + m.d = a6
  unfold lo
  repeat' split
  all_goals omega
theorem lowV_le (m : MotorV) (zs xs : List Int) (b : Nat) : lowV m zs xs b ≤ xs.getD b 0 ∧ lowV m zs xs b ≤ m.t * m.t ∧ lowV m zs xs b ≤ zs.getD (b - 1) 0 * zs.getD (b - 1) 0 ∧ lowV m zs xs b ≤ zs.getD b 0 * zs.getD b 0 ∧ lowV m zs xs b ≤ xs.getD (b - 1) 0 + m.u ∧ lowV m zs xs b ≤ xs.getD (b + 1) 0 + m.d := by
  unfold lowV
  generalize xs.getD b 0 = a1
  generalize m.t * m.t = a2
  generalize zs.getD (b - 1) 0 * zs.getD (b - 1) 0 = a3
  generalize zs.getD b 0 * zs.getD b 0 = a4
  generalize xs.getD (b - 1) 0 + m.u = a5
  generalize xs.getD (b + 1) 0 + m.d = a6
  unfold lo
  repeat' split
  all_goals omega

theorem Right.cap_eq (R : Right m zs) {k : Nat} (h1 : 1 ≤ k) (h2 : k < zs.length) : capS m.t zs k ≤ m.t * m.t ∧ capS m.t zs k ≤ zs.getD (k - 1) 0 * zs.getD (k - 1) 0 ∧ capS m.t zs k ≤ zs.getD k 0 * zs.getD k 0 ∧
    (capS m.t zs k = m.t * m.t ∨ capS m.t zs k = zs.getD (k - 1) 0 * zs.getD (k - 1) 0 ∨ capS m.t zs k = zs.getD k 0 * zs.getD k 0) := by
  rw [R.cap_in h1 h2]
  generalize m.t * m.t = a2
  generalize zs.getD (k - 1) 0 * zs.getD (k - 1) 0 = a3
  generalize zs.getD k 0 * zs.getD k 0 = a4
  unfold lo
  repeat' split
  all_goals omega

theorem getD_set_self {xs : List Int} {b : Nat} {v : Int} (h : b < xs.length) : (xs.set b v).getD b 0 = v := by simp [List.getD, h]
theorem getD_set_ne {xs : List Int} {b i : Nat} {v : Int} (h : b ≠ i) : (xs.set b v).getD i 0 = xs.getD i 0 := by simp [List.getD, List.getElem?_set_ne h]

/-- The first pass's state: k borders done. -/
structure S1 (m : MotorV) (zs xs : List Int) (k : Nat) : Prop where
  len : xs.length = zs.length + 1
  on : On m zs (fun i => xs.getD i 0) (k + 1)
  rest : ∀ i, k < i → i < zs.length → xs.getD i 0 = 8100

theorem S1.start (R : Right m zs) : S1 m zs (pass1 m zs 0) 0 := by
  have n0 := R.n0
  have hg : ∀ i, i < zs.length + 1 → (pass1 m zs 0).getD i 0 = if 1 ≤ i ∧ i ≤ zs.length - 1 then 8100 else 0 := by
    intro i hi
    simp [pass1, filled, List.getD, hi]
  have e0 : (pass1 m zs 0).getD 0 0 = 0 := by rw [hg 0 (by omega), if_neg (by omega)]
  have e1 : (pass1 m zs 0).getD zs.length 0 = 0 := by rw [hg _ (by omega), if_neg (by omega)]
  refine ⟨by simp [pass1, filled], ⟨e0, e1, fun i _ _ => by omega, fun i _ _ => by omega, fun i hi => ?_⟩, fun i h1 h2 => ?_⟩
  · obtain rfl : i = 0 := by omega
    exact .inl ⟨0, Nat.le_refl _, by rw [reach_self, capS, if_pos (.inl rfl)]; exact e0⟩
  · rw [hg i (by omega), if_pos (by omega)]

theorem S1.step (R : Right m zs) {xs : List Int} {k : Nat} (h : S1 m zs xs k) (hk : k + 1 < zs.length) : S1 m zs (lower m zs xs (k + 1)) (k + 1) := by
  obtain ⟨l1, l2, l3, l4, l5, l6⟩ := lowV_le m zs xs (k + 1)
  have lor := lowV_or m zs xs (k + 1)
  obtain ⟨c1, c2, c3, cor⟩ := R.cap_eq (k := k + 1) (by omega) hk
  have ccle := R.cap_le (k + 1)
  rw [Nat.add_sub_cancel] at l3 l5 lor c2 cor
  have hx := h.rest (k + 1) (by omega) hk
  have hlast : xs.getD (k + 1 + 1) 0 = 8100 ∨ (k + 1 + 1 = zs.length ∧ xs.getD (k + 1 + 1) 0 = 0) := by
    by_cases e : k + 1 + 1 < zs.length
    · exact .inl (h.rest _ (by omega) e)
    · have e2 : k + 1 + 1 = zs.length := by omega
      exact .inr ⟨e2, by rw [e2]; exact h.on.last⟩
  have hself : (lower m zs xs (k + 1)).getD (k + 1) 0 = lowV m zs xs (k + 1) := getD_set_self (by rw [h.len]; omega)
  have hoth : ∀ i, i ≠ k + 1 → (lower m zs xs (k + 1)).getD i 0 = xs.getD i 0 := fun i hi => getD_set_ne (fun e => hi e.symm)
  have d0 := R.d0
  have u0 := R.u0
  generalize hV : lowV m zs xs (k + 1) = V at *
  refine ⟨by simp [lower, h.len], ⟨?_, ?_, fun i h1 h2 => ?_, fun i h1 h2 => ?_, fun i hi => ?_⟩, fun i h1 h2 => ?_⟩
  · show (lower m zs xs (k + 1)).getD 0 0 = 0
    rw [hoth 0 (by omega)]; exact h.on.first
  · show (lower m zs xs (k + 1)).getD zs.length 0 = 0
    rw [hoth _ (by omega)]; exact h.on.last
  · show (lower m zs xs (k + 1)).getD i 0 ≤ _
    by_cases e : i = k + 1
    · subst e; rw [hself]; omega
    · rw [hoth i e]; exact h.on.cap i h1 (by omega)
  · show (lower m zs xs (k + 1)).getD i 0 ≤ (lower m zs xs (k + 1)).getD (i - 1) 0 + m.u
    rw [hoth (i - 1) (by omega)]
    by_cases e : i = k + 1
    · subst e; rw [hself, Nat.add_sub_cancel]; exact l5
    · rw [hoth i e]; exact h.on.grow i h1 (by omega)
  · show (∃ j, j ≤ i ∧ (lower m zs xs (k + 1)).getD i 0 = _) ∨ (_ ∧ (lower m zs xs (k + 1)).getD i 0 = _)
    by_cases e : i = k + 1
    · subst e
      rw [hself]
      have : V = capS m.t zs (k + 1) ∨ V = xs.getD k 0 + m.u ∨ (k + 1 + 1 = zs.length ∧ V = m.d) := by
        rcases hlast with hl | ⟨hl, hl2⟩
        · rw [hl] at l6 lor
          omega
        · rw [hl2] at l6 lor
          omega
      rcases this with e | e | ⟨e1, e2⟩
      · exact .inl ⟨k + 1, Nat.le_refl _, by rw [reach_self]; exact e⟩
      · rcases h.on.got k (by omega) with ⟨j, hj, hr⟩ | ⟨hj, _⟩
        · exact .inl ⟨j, by omega, by rw [reach_on hj, e]; have hr' : xs.getD k 0 = reach m zs k j := hr; omega⟩
        · omega
      · refine .inr ⟨e1, ?_⟩
        rw [← e1, reach_back (by omega), reach_self, capS, if_pos (.inr e1)]
        omega
    · rw [hoth i e]; exact h.on.got i (by omega)
  · rw [hoth i (by omega)]
    exact h.rest i (by omega) h2

theorem S1.all (R : Right m zs) : ∀ k, k < zs.length → S1 m zs (pass1 m zs k) k := by
  intro k
  induction k with
  | zero => intro _; exact S1.start R
  | succ k ih => intro hk; exact (ih (by omega)).step R hk

/-- The second pass's state: the borders from c on are done. -/
structure S2 (m : MotorV) (zs xs : List Int) (c : Nat) : Prop where
  len : xs.length = zs.length + 1
  on : On m zs (fun i => xs.getD i 0) c
  fin : ∀ i, c ≤ i → i ≤ zs.length → Least m zs i (xs.getD i 0)

theorem S2.start (R : Right m zs) : S2 m zs (pass2 m zs 0) zs.length := by
  have n0 := R.n0
  have h := S1.all R (zs.length - 1) (by omega)
  have hon : On m zs (fun i => (pass1 m zs (zs.length - 1)).getD i 0) zs.length := by
    have := h.on
    rwa [Nat.sub_add_cancel n0] at this
  refine ⟨h.len, hon, fun i h1 h2 => ?_⟩
  obtain rfl : i = zs.length := by omega
  have e : (pass2 m zs 0).getD zs.length 0 = 0 := hon.last
  rw [e]
  exact R.zero_least (.inr rfl) (Nat.le_refl _)

theorem S2.step (R : Right m zs) {xs : List Int} {k : Nat} (h : S2 m zs xs (k + 1)) (h1 : 1 ≤ k) (hk : k < zs.length) : S2 m zs (lower m zs xs k) k := by
  obtain ⟨l1, l2, l3, l4, l5, l6⟩ := lowV_le m zs xs k
  have lor := lowV_or m zs xs k
  obtain ⟨c1, c2, c3, cor⟩ := R.cap_eq h1 hk
  have hcap := h.on.cap k h1 (by omega)
  have hgrow := h.on.grow k h1 (by omega)
  have hself : (lower m zs xs k).getD k 0 = lowV m zs xs k := getD_set_self (by rw [h.len]; omega)
  have hoth : ∀ i, i ≠ k → (lower m zs xs k).getD i 0 = xs.getD i 0 := fun i hi => getD_set_ne (fun e => hi e.symm)
  have d0 := R.d0
  have u0 := R.u0
  have hV2 : lowV m zs xs k = xs.getD k 0 ∨ lowV m zs xs k = xs.getD (k + 1) 0 + m.d := by
    have hcap' : xs.getD k 0 ≤ capS m.t zs k := hcap
    have hgrow' : xs.getD k 0 ≤ xs.getD (k - 1) 0 + m.u := hgrow
    omega
  have hle := h.on.le R k (by omega) hk
  have hfin := h.fin (k + 1) (Nat.le_refl _) (by omega)
  generalize hV : lowV m zs xs k = V at *
  have hall : ∀ j, j ≤ zs.length → V ≤ reach m zs k j := by
    intro j hj
    by_cases e : j ≤ k
    · have : xs.getD k 0 ≤ reach m zs k j := hle j e
      omega
    · have := hfin.1 j hj
      rw [reach_back (by omega)]
      omega
  refine ⟨by simp [lower, h.len], ⟨?_, ?_, fun i h1 h2 => ?_, fun i h1 h2 => ?_, fun i hi => ?_⟩, fun i i1 i2 => ?_⟩
  · show (lower m zs xs k).getD 0 0 = 0
    rw [hoth 0 (by omega)]; exact h.on.first
  · show (lower m zs xs k).getD zs.length 0 = 0
    rw [hoth _ (by omega)]; exact h.on.last
  · show (lower m zs xs k).getD i 0 ≤ _
    rw [hoth i (by omega)]; exact h.on.cap i h1 (by omega)
  · show (lower m zs xs k).getD i 0 ≤ (lower m zs xs k).getD (i - 1) 0 + m.u
    rw [hoth (i - 1) (by omega), hoth i (by omega)]; exact h.on.grow i h1 (by omega)
  · show (∃ j, j ≤ i ∧ (lower m zs xs k).getD i 0 = _) ∨ (_ ∧ (lower m zs xs k).getD i 0 = _)
    rw [hoth i (by omega)]; exact h.on.got i (by omega)
  · by_cases e : i = k
    · subst e
      rw [hself]
      refine ⟨hall, ?_⟩
      rcases hV2 with e | e
      · rcases h.on.got i (by omega) with ⟨j, hj, hr⟩ | ⟨hj, hr⟩
        · exact ⟨j, by omega, e.trans hr⟩
        · exact ⟨_, Nat.le_refl _, e.trans hr⟩
      · obtain ⟨_, j, hj, hr⟩ := hfin
        by_cases c : j ≤ i
        · have := hall j hj
          rw [hr, reach_on c] at e
          omega
        · exact ⟨j, hj, by rw [reach_back (by omega), e, hr]⟩
    · rw [hoth i e]; exact h.fin i (by omega) i2

theorem S2.all (R : Right m zs) : ∀ k, k < zs.length → S2 m zs (pass2 m zs k) (zs.length - k) := by
  intro k
  induction k with
  | zero => intro _; exact S2.start R
  | succ k ih =>
    intro hk
    have h := ih (by omega)
    have e : zs.length - k = zs.length - 1 - k + 1 := by omega
    rw [e] at h
    have e2 : zs.length - (k + 1) = zs.length - 1 - k := by omega
    rw [e2]
    exact h.step R (by omega) (by omega)

theorem passes (R : Right m zs) : pass2 m zs (zs.length - 1) = (List.range (zs.length + 1)).map (sqAt m zs) := by
  have n0 := R.n0
  have h := S2.all R (zs.length - 1) (by omega)
  have e : zs.length - (zs.length - 1) = 1 := by omega
  rw [e] at h
  refine List.ext_getElem (by simp [h.len]) fun i h1 h2 => ?_
  have hi : i ≤ zs.length := by rw [h.len] at h1; omega
  have hg : (pass2 m zs (zs.length - 1))[i] = (pass2 m zs (zs.length - 1)).getD i 0 := by simp [List.getD, h1]
  rw [hg]
  simp only [List.getElem_map, List.getElem_range]
  by_cases e : i = 0
  · subst e
    have e0 : (pass2 m zs (zs.length - 1)).getD 0 0 = 0 := h.on.first
    rw [e0]
    exact (R.zero_least (.inl rfl) (by omega)).uniq (sqAt_least (by omega))
  · exact (h.fin i (by omega) hi).uniq (sqAt_least hi)

/-- What stands in the lists on the way is in 0 .. 8100. -/
def In81 (xs : List Int) : Prop := ∀ i, 0 ≤ xs.getD i 0 ∧ xs.getD i 0 ≤ 8100
theorem In81.lower (R : Right m zs) {xs : List Int} (h : In81 xs) (b : Nat) : In81 (lower m zs xs b) := by
  intro i
  by_cases e : b = i
  · subst e
    by_cases hb : b < xs.length
    · rw [Ytnhcmjfmfgoakaa.lower, getD_set_self hb]
      have h1 := lowV_le m zs xs b
      have h2 := lowV_or m zs xs b
      have a1 := h b
      have a2 := h (b - 1)
      have a3 := h (b + 1)
      have u0 := R.u0
      have d0 := R.d0
      have b1 : 0 ≤ m.t * m.t := Int.mul_nonneg (by have := R.t0; omega) (by have := R.t0; omega)
      have nn : ∀ j, 0 ≤ zs.getD j 0 * zs.getD j 0 := by
        intro j
        generalize zs.getD j 0 = v
        by_cases h : 0 ≤ v
        · exact Int.mul_nonneg h h
        · exact Int.mul_nonneg_of_nonpos_of_nonpos (by omega) (by omega)
      have b2 := nn (b - 1)
      have b3 := nn b
      omega
    · have : (xs.set b (lowV m zs xs b)) = xs := by rw [List.set_eq_of_length_le (by omega)]
      rw [Ytnhcmjfmfgoakaa.lower, this]; exact h b
  · rw [Ytnhcmjfmfgoakaa.lower, getD_set_ne e]; exact h i
theorem filled_get (n k i : Nat) (hi : i < n + 1) : (filled n k).getD i 0 = if 1 ≤ i ∧ i ≤ k then 8100 else 0 := by simp [filled, List.getD, hi]
theorem filled_len (n k : Nat) : (filled n k).length = n + 1 := by simp [filled]
theorem In81.filled (n k : Nat) : In81 (filled n k) := by
  intro i
  by_cases hi : i < n + 1
  · rw [filled_get n k i hi]; split <;> omega
  · have : (Ytnhcmjfmfgoakaa.filled n k).getD i 0 = 0 := getD_out (by rw [filled_len]; omega)
    rw [this]; omega
theorem In81.pass1 (R : Right m zs) : ∀ k, In81 (pass1 m zs k)
  | 0 => In81.filled _ _
  | k + 1 => (In81.pass1 R k).lower R _
theorem In81.pass2 (R : Right m zs) : ∀ k, In81 (pass2 m zs k)
  | 0 => In81.pass1 R _
  | k + 1 => (In81.pass2 R k).lower R _
theorem pass1_len : ∀ k, (pass1 m zs k).length = zs.length + 1
  | 0 => filled_len _ _
  | k + 1 => by rw [pass1, lower, List.length_set]; exact pass1_len k
theorem pass2_len : ∀ k, (pass2 m zs k).length = zs.length + 1
  | 0 => pass1_len _
  | k + 1 => by rw [pass2, lower, List.length_set]; exact pass2_len k
end
end Go.Proofs.Ytnhcmjfmfgoakaa
