/- Running times: the squares' own rule, and what is faster takes no longer. -/
import Derived.Test.YtnhcmjfmfgoakaaT
namespace Go.Proofs.Ytnhcmjfmfgoakaa
open Go.RowKit

section
variable {m m' : MotorV} {zs zs' : List Int}

theorem sqAt_ends (R : Right m zs) {k : Nat} (h : k = 0 ∨ k = zs.length) (hk : k ≤ zs.length) : sqAt m zs k = 0 := (sqAt_least hk).uniq (R.zero_least h hk)
theorem reach_near (R : Right m zs) {k j : Nat} : reach m zs (k + 1) j ≤ reach m zs k j + m.u ∧ reach m zs k j ≤ reach m zs (k + 1) j + m.d := by
  have u0 := R.u0
  have d0 := R.d0
  by_cases h : j ≤ k
  · have := reach_on (m := m) (zs := zs) h
    omega
  · have := reach_back (m := m) (zs := zs) (k := k) (j := j) (by omega)
    omega
theorem sqAt_near (R : Right m zs) {k : Nat} (hk : k + 1 ≤ zs.length) : sqAt m zs (k + 1) ≤ sqAt m zs k + m.u ∧ sqAt m zs k ≤ sqAt m zs (k + 1) + m.d := by
  obtain ⟨a1, j, hj, a2⟩ := sqAt_least (m := m) (zs := zs) (k := k) (by omega)
  obtain ⟨b1, i, hi, b2⟩ := sqAt_least (m := m) (zs := zs) (k := k + 1) hk
  have h1 := b1 j hj
  have h2 := a1 i hi
  have h3 := (reach_near R (k := k) (j := j)).1
  have h4 := (reach_near R (k := k) (j := i)).2
  omega
theorem sqAt_top (R : Right m zs) {k : Nat} (h1 : 1 ≤ k) (h2 : k < zs.length) :
    sqAt m zs k ≤ capS m.t zs k ∧ sqAt m zs k ≤ sqAt m zs (k - 1) + m.u ∧ sqAt m zs k ≤ sqAt m zs (k + 1) + m.d ∧
    ¬ (sqAt m zs k + 1 ≤ capS m.t zs k ∧ sqAt m zs k + 1 ≤ sqAt m zs (k - 1) + m.u ∧ sqAt m zs k + 1 ≤ sqAt m zs (k + 1) + m.d) := by
  obtain ⟨b1, i, hi, b2⟩ := sqAt_least (m := m) (zs := zs) (k := k) (by omega)
  have c0 := b1 k (by omega)
  rw [reach_self] at c0
  obtain ⟨q, rfl⟩ : ∃ q, k = q + 1 := ⟨k - 1, by omega⟩
  rw [Nat.add_sub_cancel]
  have n1 := (sqAt_near R (k := q) (by omega)).1
  have n2 := (sqAt_near R (k := q + 1) (by omega)).2
  refine ⟨c0, n1, n2, ?_⟩
  rintro ⟨e1, e2, e3⟩
  by_cases h : i = q + 1
  · subst h; rw [reach_self] at b2; omega
  · by_cases h3 : i ≤ q
    · have := (sqAt_least (m := m) (zs := zs) (k := q) (by omega)).1 i hi
      rw [reach_on h3] at b2
      omega
    · have := (sqAt_least (m := m) (zs := zs) (k := q + 1 + 1) (by omega)).1 i hi
      rw [reach_back (by omega)] at b2
      omega

/-- One motor and course are nowhere beyond another. -/
structure Less (m m' : MotorV) (zs zs' : List Int) : Prop where
  u : m.u ≤ m'.u
  d : m.d ≤ m'.d
  t : m.t ≤ m'.t
  n : zs.length = zs'.length
  z : ∀ i, zs.getD i 0 ≤ zs'.getD i 0
theorem lo_mono {a b x y : Int} (h : a ≤ b) (g : x ≤ y) : lo a x ≤ lo b y := by unfold lo; repeat' split <;> omega
theorem getD_nn (R : Right m zs) (k : Nat) : 0 ≤ zs.getD k 0 := by
  by_cases h : k < zs.length
  · have := (R.z k h).1; omega
  · rw [getD_out (by omega)]; omega
theorem capS_mono (R : Right m zs) (L : Less m m' zs zs') (k : Nat) : capS m.t zs k ≤ capS m'.t zs' k := by
  unfold capS
  rw [← L.n]
  by_cases h : k = 0 ∨ k = zs.length
  · rw [if_pos h, if_pos h]; omega
  · rw [if_neg h, if_neg h]
    have h1 : capV m.t zs k ≤ capV m'.t zs' k := lo_mono (lo_mono L.t (L.z _)) (L.z _)
    have h0 : 0 ≤ capV m.t zs k := lo_nn (lo_nn (by have := R.t0; omega) (getD_nn R _)) (getD_nn R _)
    exact sq_le h0 h1
theorem reach_mono (R : Right m zs) (L : Less m m' zs zs') (k j : Nat) : reach m zs k j ≤ reach m' zs' k j := by
  have h := capS_mono R L j
  unfold reach
  split
  · have := Int.mul_le_mul_of_nonneg_right L.u (show (0 : Int) ≤ (k : Int) - j by omega)
    omega
  · have := Int.mul_le_mul_of_nonneg_right L.d (show (0 : Int) ≤ (j : Int) - k by omega)
    omega
theorem sqAt_mono (R : Right m zs) (L : Less m m' zs zs') {k : Nat} (hk : k ≤ zs.length) : sqAt m zs k ≤ sqAt m' zs' k := by
  obtain ⟨_, i, hi, b2⟩ := sqAt_least (m := m') (zs := zs') (k := k) (by have := L.n; omega)
  have h1 := (sqAt_least (m := m) (zs := zs) hk).1 i (by have := L.n; omega)
  have h2 := reach_mono R L k i
  omega
theorem sqAt_in (R : Right m zs) (k : Nat) : 0 ≤ sqAt m zs k ∧ sqAt m zs k ≤ 8100 := R.fold_in k _
end

theorem rootZ_mono {x y : Int} (h0 : 0 ≤ x) (h : x ≤ y) : rootZ x ≤ rootZ y := by
  obtain ⟨a0, a1, _⟩ := rootZ_is h0
  obtain ⟨b0, _, b2⟩ := rootZ_is (x := y) (by omega)
  have := sq_lt a0 (by omega : 0 ≤ rootZ y + 1) (by omega)
  omega
theorem pace_eq {u : Int} (h : 20 ≤ u) : paceT u = 9999 / u + 1 := by
  unfold paceT
  rw [if_neg (by omega), show 10000 + u - 1 = 9999 + 1 * u by omega, Int.add_mul_ediv_right _ _ (by omega)]
theorem div_anti {a u v : Int} (ha : 0 ≤ a) (hu : 0 < u) (h : u ≤ v) : a / v ≤ a / u := by
  obtain ⟨A, rfl⟩ := Int.eq_ofNat_of_zero_le ha
  obtain ⟨U, rfl⟩ := Int.eq_ofNat_of_zero_le (Int.le_of_lt hu)
  obtain ⟨V, rfl⟩ := Int.eq_ofNat_of_zero_le (show 0 ≤ v by omega)
  have := Nat.div_le_div_left (a := A) (b := V) (c := U) (by omega) (by omega)
  exact_mod_cast this
theorem pace_anti {u v : Int} (h0 : 0 ≤ u) (h : u ≤ v) (h1 : v ≤ 1800) : paceT v ≤ paceT u := by
  by_cases hu : u < 20
  · have := (paceT_in v (by omega) h1).2
    have e : paceT u = 500 := by unfold paceT; rw [if_pos hu]
    omega
  · have := div_anti (a := 9999) (by omega) (show 0 < u by omega) h
    rw [pace_eq (by omega), pace_eq (by omega)]
    omega
theorem pace_pos {u : Int} (h0 : 0 ≤ u) : 1 ≤ paceT u := by
  by_cases hu : u < 20
  · have e : paceT u = 500 := by unfold paceT; rw [if_pos hu]
    omega
  · rw [pace_eq (by omega)]
    have := Int.ediv_nonneg (a := 9999) (b := u) (by omega) (by omega)
    omega
theorem in81 {a : Int} (h : 0 ≤ a ∧ a ≤ 8100) : inB a 0 8100 = true := by simp [inB]; omega
theorem cellT_anti {a b a' b' : Int} (ha : 0 ≤ a) (hb : 0 ≤ b) (h1 : a ≤ a') (h2 : b ≤ b') (ha' : a' ≤ 8100) (hb' : b' ≤ 8100) : cellT a' b' ≤ cellT a b := by
  rw [cellT_in (in81 ⟨by omega, ha'⟩) (in81 ⟨by omega, hb'⟩), cellT_in (in81 ⟨ha, by omega⟩) (in81 ⟨hb, by omega⟩)]
  have r1 := rootZ_mono (x := 100 * a) (y := 100 * a') (by omega) (by omega)
  have r2 := rootZ_mono (x := 100 * b) (y := 100 * b') (by omega) (by omega)
  have s1 := root81 ha (by omega : a ≤ 8100)
  have s2 := root81 hb (by omega : b ≤ 8100)
  have s3 := root81 (by omega : 0 ≤ a') ha'
  have s4 := root81 (by omega : 0 ≤ b') hb'
  exact pace_anti (by omega) (by omega) (by omega)
theorem cellT_pos {a b : Int} (ha : 0 ≤ a ∧ a ≤ 8100) (hb : 0 ≤ b ∧ b ≤ 8100) : 1 ≤ cellT a b := by
  rw [cellT_in (in81 ha) (in81 hb)]
  have s1 := root81 ha.1 ha.2
  have s2 := root81 hb.1 hb.2
  exact pace_pos (by omega)

/-- The time at border k of a right motor and course. -/
def timeAt (m : MotorV) (zs : List Int) (k : Nat) : Int := pas (sqs m zs) k
theorem sqs_get {m : MotorV} {zs : List Int} (h1 : motorB m = true) (h2 : courseB zs = true) {k : Nat} (hk : k ≤ zs.length) : (sqs m zs).getD k 0 = sqAt m zs k := by
  rw [sqs_yes h1 h2]
  simp [List.getD, show k < zs.length + 1 by omega]
theorem Right.mB {m : MotorV} {zs : List Int} (R : Right m zs) : motorB m = true := by
  obtain ⟨a, b, c, d, e, f, _, _, _⟩ := R
  simp [motorB, inB]; omega
theorem Right.cB {m : MotorV} {zs : List Int} (R : Right m zs) : courseB zs = true := by
  rw [course_yes (fun i hi => by have := R.z i hi; unfold inB; simp only [decide_eq_true_eq]; omega)]
  have := R.n0
  have := R.n1
  simp [inB]; omega
theorem runT_eq {m : MotorV} {zs : List Int} (R : Right m zs) : runT (sqs m zs) = timeAt m zs zs.length := by
  unfold runT timeAt
  have e : (sqs m zs).length = zs.length + 1 := by rw [sqs_yes R.mB R.cB]; simp
  rw [e, if_neg (by omega), Nat.add_sub_cancel]
theorem timeAt_succ {m : MotorV} {zs : List Int} (R : Right m zs) {k : Nat} (hk : k + 1 ≤ zs.length) : timeAt m zs (k + 1) = timeAt m zs k + cellT (sqAt m zs k) (sqAt m zs (k + 1)) := by
  show pas (sqs m zs) k + _ = _
  rw [sqs_get R.mB R.cB (by omega), sqs_get R.mB R.cB hk]; rfl
theorem timeAt_anti {m m' : MotorV} {zs zs' : List Int} (R : Right m zs) (R' : Right m' zs') (L : Less m m' zs zs') : ∀ k, k ≤ zs.length → timeAt m' zs' k ≤ timeAt m zs k := by
  intro k
  induction k with
  | zero => intro _; exact Int.le_refl _
  | succ k ih =>
    intro hk
    have := ih (by omega)
    rw [timeAt_succ R hk, timeAt_succ R' (by have := L.n; omega)]
    have a := sqAt_mono R L (k := k) (by omega)
    have b := sqAt_mono R L (k := k + 1) hk
    have c := cellT_anti (sqAt_in R k).1 (sqAt_in R (k + 1)).1 a b (sqAt_in R' k).2 (sqAt_in R' (k + 1)).2
    omega
theorem runT_anti {m m' : MotorV} {zs zs' : List Int} (R : Right m zs) (R' : Right m' zs') (L : Less m m' zs zs') : runT (sqs m' zs') ≤ runT (sqs m zs) := by
  rw [runT_eq R, runT_eq R', ← L.n]
  exact timeAt_anti R R' L _ (Nat.le_refl _)
theorem timeAt_pos {m : MotorV} {zs : List Int} (R : Right m zs) : ∀ k, k ≤ zs.length → (k : Int) ≤ timeAt m zs k := by
  intro k
  induction k with
  | zero => intro _; exact Int.le_refl _
  | succ k ih =>
    intro hk
    have := ih (by omega)
    rw [timeAt_succ R hk]
    have c := cellT_pos (sqAt_in R k) (sqAt_in R (k + 1))
    omega
theorem runT_pos {m : MotorV} {zs : List Int} (R : Right m zs) : 1 ≤ runT (sqs m zs) := by
  rw [runT_eq R]
  have := timeAt_pos R zs.length (Nat.le_refl _)
  have := R.n0
  omega
theorem ease_find {f : Nat → Bool} {n k : Nat} (hk : k < n) (hf : f k = true) : ∃ i : Nat, i < n ∧ easeF f n = (i : Int) + 1 ∧ f i = true ∧ ∀ j, j < i → f j = false := by
  have : ∃ i, i ≤ k ∧ f i = true ∧ ∀ j, j < i → f j = false := by
    induction k with
    | zero => exact ⟨0, by omega, hf, fun j hj => by omega⟩
    | succ k ih =>
      by_cases h : ∃ i, i ≤ k ∧ f i = true ∧ ∀ j, j < i → f j = false
      · obtain ⟨i, h1, h2, h3⟩ := h; exact ⟨i, by omega, h2, h3⟩
      · refine ⟨k + 1, by omega, hf, ?_⟩
        intro j
        induction j using Nat.strongRecOn with
        | _ j jh =>
          intro hj
          cases hb : f j
          · rfl
          · exact absurd ⟨j, by omega, hb, fun i hi => jh i hi (by omega)⟩ h
  obtain ⟨i, h1, h2, h3⟩ := this
  exact ⟨i, by omega, ease_hit h3 (by omega) h2, h2, h3⟩
theorem Right.top {m : MotorV} {zs : List Int} (R : Right m zs) {x : Int} (h0 : 1 ≤ x) (h1 : x ≤ 90) : Right ⟨m.u, m.d, x⟩ zs := ⟨R.u0, R.u1, R.d0, R.d1, h0, h1, R.n0, R.n1, R.z⟩
/-- A drawn motor and course are right. -/
theorem Right.drawn {m : MotorV} {zs : List Int} (h : 1 ≤ m.u ∧ m.u ≤ 60 ∧ 1 ≤ m.d ∧ m.d ≤ 120 ∧ 2 ≤ m.t ∧ m.t ≤ 51) (h0 : 1 ≤ zs.length) (h1 : zs.length ≤ 26) (hz : ∀ x ∈ zs, 1 ≤ x ∧ x ≤ 60) : Right m zs := by
  refine ⟨by omega, by omega, by omega, by omega, by omega, by omega, h0, by omega, fun i hi => ?_⟩
  have := hz zs[i] (List.getElem_mem hi)
  have e : zs.getD i 0 = zs[i] := by simp [List.getD, hi]
  rw [e]; omega
end Go.Proofs.Ytnhcmjfmfgoakaa
