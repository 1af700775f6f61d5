/- The mathematics of the hump: tracks by digits, passes, sorted trains, inversions. -/
import Derived.Test.YtjbecnflpfjicaaB
namespace Go.Proofs.Ytjbecnflpfjicaa
open Go.RowKit

def wagB (x : Int) : Bool := inB x 1 9999
def trainB (xs : List Int) : Bool := decide (xs.length ≤ 40) && xs.all wagB
theorem trainB_len {xs : List Int} (h : trainB xs = true) : xs.length ≤ 40 := by simp [trainB] at h; exact h.1
theorem trainB_wag {xs : List Int} (h : trainB xs = true) : ∀ x ∈ xs, 1 ≤ x ∧ x ≤ 9999 := by
  intro x hx
  simp only [trainB, Bool.and_eq_true, List.all_eq_true] at h
  exact inB_true (h.2 x hx)
theorem trainB_of {xs : List Int} (h : xs.length ≤ 40) (g : ∀ x ∈ xs, 1 ≤ x ∧ x ≤ 9999) : trainB xs = true := by
  simp only [trainB, Bool.and_eq_true, List.all_eq_true, decide_eq_true_eq]
  exact ⟨h, fun x hx => by simp only [wagB, inB, decide_eq_true_eq]; exact g x hx⟩

def dg (b w x : Int) : Int := x / w % b
def trk (b w : Int) (t : Nat) (xs : List Int) : List Int := xs.filter (fun x => decide (dg b w x = (t : Int)))
/-- The first tracks, coupled. -/
def coup (b w : Int) (xs : List Int) : Nat → List Int
  | 0 => []
  | n + 1 => coup b w xs n ++ trk b w n xs
def humpL (b : Nat) (w : Int) (xs : List Int) : List Int := coup b w xs b
theorem trk_count {b w : Int} {t : Nat} {xs : List Int} (a : Int) : (trk b w t xs).count a = if dg b w a = (t : Int) then xs.count a else 0 := by
  unfold trk
  by_cases h : dg b w a = (t : Int)
  · rw [List.count_filter (by simpa using h), if_pos h]
  · rw [if_neg h, List.count_eq_zero]
    intro hm
    simp at hm
    exact h hm.2
theorem coup_count {b w : Int} {xs : List Int} (a : Int) (h0 : 0 ≤ dg b w a) : ∀ n : Nat, (coup b w xs n).count a = if dg b w a < (n : Int) then xs.count a else 0
  | 0 => by rw [if_neg (by simpa using h0)]; rfl
  | n + 1 => by
    rw [coup, List.count_append, coup_count a h0 n, trk_count]
    by_cases h1 : dg b w a < (n : Int)
    · rw [if_pos h1, if_neg (by omega), if_pos (by omega)]; rfl
    · by_cases h2 : dg b w a = (n : Int)
      · rw [if_neg h1, if_pos h2, if_pos (by omega)]; omega
      · rw [if_neg h1, if_neg h2, if_neg (by omega)]
theorem hump_perm {b : Nat} {w : Int} {xs : List Int} (hb : 0 < b) : (humpL b w xs).Perm xs := by
  rw [List.perm_iff_count]
  intro a
  have h0 : 0 ≤ dg b w a := Int.emod_nonneg _ (by omega)
  have h1 : dg b w a < (b : Int) := Int.emod_lt_of_pos _ (by omega)
  rw [humpL, coup_count a h0, if_pos h1]
theorem hump_len {b : Nat} {w : Int} {xs : List Int} (hb : 0 < b) : (humpL b w xs).length = xs.length := (hump_perm hb).length_eq
theorem hump_train {b : Nat} {w : Int} {xs : List Int} (hb : 0 < b) (h : trainB xs = true) : trainB (humpL b w xs) = true :=
  trainB_of (by rw [hump_len hb]; exact trainB_len h) (fun x hx => trainB_wag h x ((hump_perm hb).mem_iff.1 hx))
theorem coup_mono {b w : Int} {xs : List Int} {n : Nat} : ∀ m, n ≤ m → (coup b w xs n).length ≤ (coup b w xs m).length
  | 0, h => by
    obtain rfl : n = 0 := by omega
    exact Nat.le_refl _
  | m + 1, h => by
    by_cases e : n = m + 1
    · subst e; exact Nat.le_refl _
    · refine Nat.le_trans (coup_mono m (by omega)) ?_
      rw [coup, List.length_append]; omega
theorem coup_len_le {b : Nat} {w : Int} {xs : List Int} (hb : 0 < b) (n : Nat) (hn : n ≤ b) : (coup b w xs n).length ≤ xs.length :=
  Nat.le_trans (coup_mono b hn) (Nat.le_of_eq (hump_len hb))
/-- Sorted by what is left of a division. -/
def Srt (w : Int) (xs : List Int) : Prop := xs.Pairwise (fun x y => x % w ≤ y % w)
theorem srt_one (xs : List Int) : Srt 1 xs := by
  unfold Srt
  exact List.pairwise_of_forall (by intro x y; simp [Int.emod_one])
theorem mod_mul (x w b : Int) (hw : 0 < w) (hb : 0 < b) : x % (w * b) = x % w + w * (x / w % b) := by
  have e1 := Int.emod_add_mul_ediv x w
  have e2 := Int.emod_add_mul_ediv (x / w) b
  have h0 := Int.emod_nonneg x (show w ≠ 0 by omega)
  have h1 := Int.emod_lt_of_pos x hw
  have g0 := Int.emod_nonneg (x / w) (show b ≠ 0 by omega)
  have g1 := Int.emod_lt_of_pos (x / w) hb
  have hx : x = (x % w + w * (x / w % b)) + (w * b) * (x / w / b) := by
    have : w * (x / w) = w * (x / w % b + b * (x / w / b)) := by rw [e2]
    rw [Int.mul_add, ← Int.mul_assoc] at this
    omega
  have hlt : x % w + w * (x / w % b) < w * b := by
    have : w * (x / w % b) ≤ w * (b - 1) := Int.mul_le_mul_of_nonneg_left (by omega) (by omega)
    rw [Int.mul_sub, Int.mul_one] at this
    omega
  have hge : 0 ≤ x % w + w * (x / w % b) := Int.add_nonneg h0 (Int.mul_nonneg (by omega) g0)
  calc x % (w * b) = ((x % w + w * (x / w % b)) + (w * b) * (x / w / b)) % (w * b) := by rw [← hx]
    _ = (x % w + w * (x / w % b)) % (w * b) := Int.add_mul_emod_self_left ..
    _ = _ := Int.emod_eq_of_lt hge hlt
theorem trk_mem {b w : Int} {t : Nat} {xs : List Int} {x : Int} (h : x ∈ trk b w t xs) : dg b w x = (t : Int) := by simp [trk] at h; exact h.2
theorem coup_mem {b w : Int} {xs : List Int} {x : Int} : ∀ {n : Nat}, x ∈ coup b w xs n → dg b w x < (n : Int)
  | 0, h => by simp [coup] at h
  | n + 1, h => by
    rcases List.mem_append.1 h with h | h
    · have := coup_mem h; omega
    · have := trk_mem h; omega
theorem coup_srt {b w : Int} {xs : List Int} (hw : 0 < w) (hb : 0 < b) (h : Srt w xs) : ∀ n, Srt (w * b) (coup b w xs n)
  | 0 => List.Pairwise.nil
  | n + 1 => by
    refine List.pairwise_append.2 ⟨coup_srt hw hb h n, ?_, fun x hx y hy => ?_⟩
    · have h1 : (trk b w n xs).Pairwise (fun x y => x % w ≤ y % w) := List.Pairwise.filter _ h
      refine List.Pairwise.imp_of_mem ?_ h1
      intro x y hx hy hxy
      have ex := trk_mem hx
      have ey := trk_mem hy
      unfold dg at ex ey
      rw [mod_mul _ _ _ hw hb, mod_mul _ _ _ hw hb, ex, ey]
      omega
    · have ex := coup_mem hx
      have ey := trk_mem hy
      unfold dg at ex ey
      rw [mod_mul _ _ _ hw hb, mod_mul _ _ _ hw hb, ey]
      have h1 := Int.emod_lt_of_pos x hw
      have h0 := Int.emod_nonneg y (show w ≠ 0 by omega)
      have : w * (x / w % b) ≤ w * ((n : Int) - 1) := Int.mul_le_mul_of_nonneg_left (by omega) (by omega)
      rw [Int.mul_sub, Int.mul_one] at this
      omega
/-- A power of the base, as a whole number. -/
def pw (b d : Nat) : Int := ((b ^ d : Nat) : Int)
theorem pw_zero (b : Nat) : pw b 0 = 1 := rfl
theorem pw_succ (b d : Nat) : pw b (d + 1) = pw b d * (b : Int) := by unfold pw; rw [Nat.pow_succ]; simp
theorem pw_pos {b d : Nat} (hb : 0 < b) : 0 < pw b d := by unfold pw; exact_mod_cast Nat.pow_pos hb
theorem pw_le {b d : Nat} (hb : b ≤ 10) (hd : d ≤ 14) : pw b d ≤ 100000000000000 := by
  unfold pw
  have h1 : b ^ d ≤ 10 ^ d := Nat.pow_le_pow_left hb d
  have h2 : 10 ^ d ≤ 10 ^ 14 := Nat.pow_le_pow_right (by omega) hd
  have h3 : (10 : Nat) ^ 14 = 100000000000000 := by decide
  rw [h3] at h2
  exact Int.ofNat_le.2 (Nat.le_trans h1 h2)
/-- Passes, one after the other. -/
def passL (b : Nat) (xs : List Int) : Nat → List Int
  | 0 => xs
  | k + 1 => humpL b (pw b k) (passL b xs k)
theorem pass_perm {b : Nat} {xs : List Int} (hb : 0 < b) : ∀ k, (passL b xs k).Perm xs
  | 0 => List.Perm.refl _
  | k + 1 => (hump_perm hb).trans (pass_perm hb k)
theorem pass_train {b : Nat} {xs : List Int} (hb : 0 < b) (h : trainB xs = true) : ∀ k, trainB (passL b xs k) = true
  | 0 => h
  | k + 1 => hump_train hb (pass_train hb h k)
theorem pass_len {b : Nat} {xs : List Int} (hb : 0 < b) (k : Nat) : (passL b xs k).length = xs.length := (pass_perm hb k).length_eq
theorem pass_srt {b : Nat} {xs : List Int} (hb : 0 < b) : ∀ k, Srt (pw b k) (passL b xs k)
  | 0 => srt_one xs
  | k + 1 => by rw [pw_succ]; exact coup_srt (pw_pos hb) (by omega) (pass_srt hb k) b
/-- How many digits. -/
structure IsDg (b : Nat) (m : Int) (k : Nat) : Prop where
  low : ∀ j, j < k → pw b j ≤ m
  up : m < pw b k
theorem IsDg.unique {b : Nat} {m : Int} {k k' : Nat} (h : IsDg b m k) (g : IsDg b m k') : k = k' := by
  by_cases h1 : k < k'
  · have := g.low k h1; have := h.up; omega
  · by_cases h2 : k' < k
    · have := h.low k' h2; have := g.up; omega
    · omega
theorem pow_ge {b k : Nat} (hb : 2 ≤ b) : 2 ^ k ≤ b ^ k := Nat.pow_le_pow_left hb k
theorem IsDg.le14 {b : Nat} {m : Int} {k : Nat} (h : IsDg b m k) (hb : 2 ≤ b) (hm : m ≤ 9999) : k ≤ 14 := by
  by_cases h1 : k ≤ 14
  · exact h1
  · exfalso
    have h2 := h.low 14 (by omega)
    have h3 : (2 : Nat) ^ 14 ≤ b ^ 14 := pow_ge hb
    have h4 : (2 : Nat) ^ 14 = 16384 := by decide
    unfold pw at h2
    omega
theorem low14 {b k : Nat} {m : Int} (hb : 2 ≤ b) (hm : m ≤ 9999) (h : pw b k ≤ m) : k ≤ 13 := by
  by_cases h1 : k ≤ 13
  · exact h1
  · exfalso
    have h2 : (2 : Nat) ^ 14 ≤ 2 ^ k := Nat.pow_le_pow_right (by omega) (by omega)
    have h3 : (2 : Nat) ^ k ≤ b ^ k := pow_ge hb
    have h4 : (2 : Nat) ^ 14 = 16384 := by decide
    unfold pw at h
    omega
theorem IsDg.zero {b : Nat} {m : Int} {k : Nat} (h : IsDg b m k) : k = 0 ↔ m < 1 := by
  constructor
  · rintro rfl; exact h.up
  · intro h1
    by_cases h2 : k = 0
    · exact h2
    · have := h.low 0 (by omega); rw [pw_zero] at this; omega
/-- The greatest wagon. -/
def mxL : List Int → Int := fun xs => xs.foldl (fun m x => if m < x then x else m) 0
theorem mx_snoc (xs : List Int) (x : Int) : mxL (xs ++ [x]) = if mxL xs < x then x else mxL xs := by unfold mxL; rw [List.foldl_append]; rfl
theorem mx_fold (xs : List Int) : ∀ m : Int, m ≤ xs.foldl (fun m x => if m < x then x else m) m ∧ (∀ x ∈ xs, x ≤ xs.foldl (fun m x => if m < x then x else m) m) ∧ (xs.foldl (fun m x => if m < x then x else m) m = m ∨ xs.foldl (fun m x => if m < x then x else m) m ∈ xs) := by
  induction xs with
  | nil => intro m; exact ⟨Int.le_refl _, fun x h => by simp at h, .inl rfl⟩
  | cons y ys ih =>
    intro m
    rw [List.foldl_cons]
    obtain ⟨h1, h2, h3⟩ := ih (if m < y then y else m)
    generalize ys.foldl (fun m x => if m < x then x else m) (if m < y then y else m) = M at *
    refine ⟨?_, ?_, ?_⟩
    · split at h1 <;> omega
    · intro x hx
      rcases List.mem_cons.1 hx with rfl | hx
      · split at h1 <;> omega
      · exact h2 x hx
    · rcases h3 with h3 | h3
      · split at h3
        · right; rw [h3]; exact List.mem_cons_self ..
        · left; exact h3
      · right; exact List.mem_cons_of_mem _ h3
theorem mx_nonneg (xs : List Int) : 0 ≤ mxL xs := (mx_fold xs 0).1
theorem mx_ge {xs : List Int} : ∀ x ∈ xs, x ≤ mxL xs := (mx_fold xs 0).2.1
theorem mx_le {xs : List Int} (h : trainB xs = true) : mxL xs ≤ 9999 := by
  rcases (mx_fold xs 0).2.2 with h1 | h1
  · unfold mxL; rw [h1]; omega
  · exact (trainB_wag h _ h1).2
theorem mx_take_le {xs : List Int} (h : trainB xs = true) (k : Nat) : mxL (xs.take k) ≤ 9999 := by
  rcases (mx_fold (xs.take k) 0).2.2 with h1 | h1
  · unfold mxL; rw [h1]; omega
  · exact (trainB_wag h _ (List.mem_of_mem_take h1)).2
theorem mx_zero {xs : List Int} (h : trainB xs = true) : mxL xs < 1 ↔ xs.length = 0 := by
  constructor
  · intro h1
    cases xs with
    | nil => rfl
    | cons y ys =>
      have := mx_ge (xs := y :: ys) y (List.mem_cons_self ..)
      have := (trainB_wag h y (List.mem_cons_self ..)).1
      omega
  · intro h1
    have : xs = [] := List.length_eq_zero_iff.1 h1
    subst this; decide
/-- A train that has been sorted. -/
theorem pass_sorted {b : Nat} {xs : List Int} {k : Nat} (hb : 0 < b) (h : trainB xs = true) (hk : IsDg b (mxL xs) k) : (passL b xs k).Pairwise (· ≤ ·) := by
  have h1 : (passL b xs k).Pairwise (fun x y => x % pw b k ≤ y % pw b k) := pass_srt hb k
  refine List.Pairwise.imp_of_mem ?_ h1
  intro x y hx hy hxy
  have mx := (pass_perm hb k).mem_iff.1 hx
  have my := (pass_perm hb k).mem_iff.1 hy
  have a1 := (trainB_wag h x mx).1
  have a2 := (trainB_wag h y my).1
  have b1 := mx_ge x mx
  have b2 := mx_ge y my
  have u := hk.up
  rwa [Int.emod_eq_of_lt (by omega) (by omega), Int.emod_eq_of_lt (by omega) (by omega)] at hxy
theorem sorted_unique : ∀ {xs ys : List Int}, xs.Perm ys → xs.Pairwise (· ≤ ·) → ys.Pairwise (· ≤ ·) → xs = ys
  | [], ys, h, _, _ => (List.Perm.nil_eq h)
  | x :: xs, [], h, _, _ => absurd h.length_eq (by simp)
  | x :: xs, y :: ys, h, h1, h2 => by
    have e : x = y := by
      have m1 : x ∈ y :: ys := h.mem_iff.1 (List.mem_cons_self ..)
      have m2 : y ∈ x :: xs := h.mem_iff.2 (List.mem_cons_self ..)
      have q1 : y ≤ x := by
        rcases List.mem_cons.1 m1 with rfl | m1
        · exact Int.le_refl _
        · exact (List.pairwise_cons.1 h2).1 x m1
      have q2 : x ≤ y := by
        rcases List.mem_cons.1 m2 with rfl | m2
        · exact Int.le_refl _
        · exact (List.pairwise_cons.1 h1).1 y m2
      omega
    subst e
    rw [sorted_unique (List.perm_cons _ |>.1 h) (List.pairwise_cons.1 h1).2 (List.pairwise_cons.1 h2).2]
/-! Inversions. -/
def inv : List Int → Nat
  | [] => 0
  | x :: xs => xs.countP (fun y => decide (y < x)) + inv xs
theorem inv_snoc (z : Int) : ∀ xs : List Int, inv (xs ++ [z]) = inv xs + xs.countP (fun y => decide (z < y))
  | [] => by simp [inv]
  | x :: xs => by
    rw [List.cons_append, inv, inv_snoc z xs, inv, List.countP_append, List.countP_cons]
    by_cases h : z < x
    · simp [h]; omega
    · simp [h]; omega
theorem inv_sorted : ∀ {xs : List Int}, xs.Pairwise (· ≤ ·) → inv xs = 0
  | [], _ => rfl
  | x :: xs, h => by
    rw [inv, inv_sorted (List.pairwise_cons.1 h).2]
    have : xs.countP (fun y => decide (y < x)) = 0 := by
      rw [List.countP_eq_zero]
      intro y hy
      have := (List.pairwise_cons.1 h).1 y hy
      simp; omega
    omega
theorem inv_le : ∀ xs : List Int, inv xs ≤ xs.length * xs.length
  | [] => by simp [inv]
  | x :: xs => by
    have h1 : xs.countP (fun y => decide (y < x)) ≤ xs.length := List.countP_le_length
    have h2 := inv_le xs
    rw [inv, List.length_cons, Nat.add_mul, Nat.mul_add]
    omega
theorem inv_le40 {xs : List Int} (h : xs.length ≤ 40) : inv xs ≤ 1600 := Nat.le_trans (inv_le xs) (Nat.le_trans (Nat.mul_le_mul h h) (by decide))
end Go.Proofs.Ytjbecnflpfjicaa
