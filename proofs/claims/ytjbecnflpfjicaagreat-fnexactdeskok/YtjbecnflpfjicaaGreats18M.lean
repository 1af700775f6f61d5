/- The mathematics of the hump: tracks by digits, passes, sorted trains, inversions. -/
import Derived.Test.YtjbecnflpfjicaaGreats18B
import Derived.Test.YtjbecnflpfjicaaGreatA
import Derived.Deep.RegionWith
namespace Go.Proofs.YtjbecnflpfjicaaGreat.s18
open Go.RowKit

def wagB (x : Int) : Bool := inB x 1 9999
def trainB (xs : List Int) : Bool := decide (xs.length ≤ 40) && xs.all wagB
theorem trainB_len {xs : List Int} (h : trainB xs = true) : xs.length ≤ 40 := by simp [trainB] at h; exact h.1
theorem trainB_wag {xs : List Int} (h : trainB xs = true) : ∀ x ∈ xs, 1 ≤ x ∧ x ≤ 9999 := by
  intro x hx
  simp only [trainB, Bool.and_eq_true, List.all_eq_true] at h
  exact inB_true (h.2 x hx)
theorem trainB_of {xs : List Int} (h : xs.length ≤ 40) (g : ∀ x ∈ xs, 1 ≤ x ∧ x ≤ 9999) : trainB xs = true := by
  simp only [trainB, Bool.and_eq_true, List.all_eq_true, decide_eq_true_eq]
  exact ⟨h, fun x hx => by simp only [wagB, inB, decide_eq_true_eq]; exact g x hx⟩

def dg (b w x : Int) : Int := x / w % b
def trk (b w : Int) (t : Nat) (xs : List Int) : List Int := xs.filter (fun x => decide (dg b w x = (t : Int)))
/-- The first tracks, coupled. -/
def coup (b w : Int) (xs : List Int) : Nat → List Int
  | 0 => []
  | n + 1 => coup b w xs n ++ trk b w n xs
def humpL (b : Nat) (w : Int) (xs : List Int) : List Int := coup b w xs b
theorem trk_count {b w : Int} {t : Nat} {xs : List Int} (a : Int) : (trk b w t xs).count a = if dg b w a = (t : Int) then xs.count a else 0 := by
  unfold trk
  by_cases h : dg b w a = (t : Int)
  · rw [List.count_filter (by simpa using h), if_pos h]
  · rw [if_neg h, List.count_eq_zero]
    intro hm
    simp at hm
    exact h hm.2
theorem coup_count {b w : Int} {xs : List Int} (a : Int) (h0 : 0 ≤ dg b w a) : ∀ n : Nat, (coup b w xs n).count a = if dg b w a < (n : Int) then xs.count a else 0
  | 0 => by rw [if_neg (by simpa using h0)]; rfl
  | n + 1 => by
    rw [coup, List.count_append, coup_count a h0 n, trk_count]
    by_cases h1 : dg b w a < (n : Int)
    · rw [if_pos h1, if_neg (by omega), if_pos (by omega)]; rfl
    · by_cases h2 : dg b w a = (n : Int)
      · rw [if_neg h1, if_pos h2, if_pos (by omega)]; omega
      · rw [if_neg h1, if_neg h2, if_neg (by omega)]
theorem hump_perm {b : Nat} {w : Int} {xs : List Int} (hb : 0 < b) : (humpL b w xs).Perm xs := by
  rw [List.perm_iff_count]
  intro a
  have h0 : 0 ≤ dg b w a := Int.emod_nonneg _ (by omega)
  have h1 : dg b w a < (b : Int) := Int.emod_lt_of_pos _ (by omega)
  rw [humpL, coup_count a h0, if_pos h1]
theorem hump_len {b : Nat} {w : Int} {xs : List Int} (hb : 0 < b) : (humpL b w xs).length = xs.length := (hump_perm hb).length_eq
theorem hump_train {b : Nat} {w : Int} {xs : List Int} (hb : 0 < b) (h : trainB xs = true) : trainB (humpL b w xs) = true :=
  trainB_of (by rw [hump_len hb]; exact trainB_len h) (fun x hx => trainB_wag h x ((hump_perm hb).mem_iff.1 hx))
theorem coup_mono {b w : Int} {xs : List Int} {n : Nat} : ∀ m, n ≤ m → (coup b w xs n).length ≤ (coup b w xs m).length
  | 0, h => by
    obtain rfl : n = 0 := by omega
    exact Nat.le_refl _
  | m + 1, h => by
    by_cases e : n = m + 1
    · subst e; exact Nat.le_refl _
    · refine Nat.le_trans (coup_mono m (by omega)) ?_
      rw [coup, List.length_append]; omega
theorem coup_len_le {b : Nat} {w : Int} {xs : List Int} (hb : 0 < b) (n : Nat) (hn : n ≤ b) : (coup b w xs n).length ≤ xs.length :=
  Nat.le_trans (coup_mono b hn) (Nat.le_of_eq (hump_len hb))
/-- Sorted by what is left of a division. -/
def Srt (w : Int) (xs : List Int) : Prop := xs.Pairwise (fun x y => x % w ≤ y % w)
theorem srt_one (xs : List Int) : Srt 1 xs := by
  unfold Srt
  exact List.pairwise_of_forall (by intro x y; simp [Int.emod_one])
theorem mod_mul (x w b : Int) (hw : 0 < w) (hb : 0 < b) : x % (w * b) = x % w + w * (x / w % b) := by
  have e1 := Int.emod_add_mul_ediv x w
  have e2 := Int.emod_add_mul_ediv (x / w) b
  have h0 := Int.emod_nonneg x (show w ≠ 0 by omega)
  have h1 := Int.emod_lt_of_pos x hw
  have g0 := Int.emod_nonneg (x / w) (show b ≠ 0 by omega)
  have g1 := Int.emod_lt_of_pos (x / w) hb
  have hx : x = (x % w + w * (x / w % b)) + (w * b) * (x / w / b) := by
    have : w * (x / w) = w * (x / w % b + b * (x / w / b)) := by rw [e2]
    rw [Int.mul_add, ← Int.mul_assoc] at this
    omega
  have hlt : x % w + w * (x / w % b) < w * b := by
    have : w * (x / w % b) ≤ w * (b - 1) := Int.mul_le_mul_of_nonneg_left (by omega) (by omega)
    rw [Int.mul_sub, Int.mul_one] at this
    omega
  have hge : 0 ≤ x % w + w * (x / w % b) := Int.add_nonneg h0 (Int.mul_nonneg (by omega) g0)
  calc x % (w * b) = ((x % w + w * (x / w % b)) + (w * b) * (x / w / b)) % (w * b) := by rw [← hx]
    _ = (x % w + w * (x / w % b)) % (w * b) := Int.add_mul_emod_self_left ..
    _ = _ := Int.emod_eq_of_lt hge hlt
theorem trk_mem {b w : Int} {t : Nat} {xs : List Int} {x : Int} (h : x ∈ trk b w t xs) : dg b w x = (t : Int) := by simp [trk] at h; exact h.2
theorem coup_mem {b w : Int} {xs : List Int} {x : Int} : ∀ {n : Nat}, x ∈ coup b w xs n → dg b w x < (n : Int)
  | 0, h => by simp [coup] at h
  | n + 1, h => by
    rcases List.mem_append.1 h with h | h
    · have := coup_mem h; omega
    · have := trk_mem h; omega
theorem coup_srt {b w : Int} {xs : List Int} (hw : 0 < w) (hb : 0 < b) (h : Srt w xs) : ∀ n, Srt (w * b) (coup b w xs n)
  | 0 => List.Pairwise.nil
  | n + 1 => by
    refine List.pairwise_append.2 ⟨coup_srt hw hb h n, ?_, fun x hx y hy => ?_⟩
    · have h1 : (trk b w n xs).Pairwise (fun x y => x % w ≤ y % w) := List.Pairwise.filter _ h
      refine List.Pairwise.imp_of_mem ?_ h1
      intro x y hx hy hxy
      have ex := trk_mem hx
      have ey := trk_mem hy
      unfold dg at ex ey
      rw [mod_mul _ _ _ hw hb, mod_mul _ _ _ hw hb, ex, ey]
      omega
    · have ex := coup_mem hx
      have ey := trk_mem hy
      unfold dg at ex ey
      rw [mod_mul _ _ _ hw hb, mod_mul _ _ _ hw hb, ey]
      have h1 := Int.emod_lt_of_pos x hw
      have h0 := Int.emod_nonneg y (show w ≠ 0 by omega)
      have : w * (x / w % b) ≤ w * ((n : Int) - 1) := Int.mul_le_mul_of_nonneg_left (by omega) (by omega)
      rw [Int.mul_sub, Int.mul_one] at this
      omega
/-- A power of the base, as a whole number. -/
def pw (b d : Nat) : Int := ((b ^ d : Nat) : Int)
theorem pw_zero (b : Nat) : pw b 0 = 1 := rfl
theorem pw_succ (b d : Nat) : pw b (d + 1) = pw b d * (b : Int) := by unfold pw; rw [Nat.pow_succ]; simp
theorem pw_pos {b d : Nat} (hb : 0 < b) : 0 < pw b d := by unfold pw; exact_mod_cast Nat.pow_pos hb
theorem pw_le {b d : Nat} (hb : b ≤ 10) (hd : d ≤ 14) : pw b d ≤ 100000000000000 := by
  unfold pw
  have h1 : b ^ d ≤ 10 ^ d := Nat.pow_le_pow_left hb d
  have h2 : 10 ^ d ≤ 10 ^ 14 := Nat.pow_le_pow_right (by omega) hd
  have h3 : (10 : Nat) ^ 14 = 100000000000000 := by decide
  rw [h3] at h2
  exact Int.ofNat_le.2 (Nat.le_trans h1 h2)
/-- Passes, one after the other. -/
def passL (b : Nat) (xs : List Int) : Nat → List Int
  | 0 => xs
  | k + 1 => humpL b (pw b k) (passL b xs k)
theorem pass_perm {b : Nat} {xs : List Int} (hb : 0 < b) : ∀ k, (passL b xs k).Perm xs
  | 0 => List.Perm.refl _
  | k + 1 => (hump_perm hb).trans (pass_perm hb k)
theorem pass_train {b : Nat} {xs : List Int} (hb : 0 < b) (h : trainB xs = true) : ∀ k, trainB (passL b xs k) = true
  | 0 => h
  | k + 1 => hump_train hb (pass_train hb h k)
theorem pass_len {b : Nat} {xs : List Int} (hb : 0 < b) (k : Nat) : (passL b xs k).length = xs.length := (pass_perm hb k).length_eq
theorem pass_srt {b : Nat} {xs : List Int} (hb : 0 < b) : ∀ k, Srt (pw b k) (passL b xs k)
  | 0 => srt_one xs
  | k + 1 => by rw [pw_succ]; exact coup_srt (pw_pos hb) (by omega) (pass_srt hb k) b
/-- How many digits. -/
structure IsDg (b : Nat) (m : Int) (k : Nat) : Prop where
  low : ∀ j, j < k → pw b j ≤ m
  up : m < pw b k
theorem IsDg.unique {b : Nat} {m : Int} {k k' : Nat} (h : IsDg b m k) (g : IsDg b m k') : k = k' := by
  by_cases h1 : k < k'
  · have := g.low k h1; have := h.up; omega
  · by_cases h2 : k' < k
    · have := h.low k' h2; have := g.up; omega
    · omega
theorem pow_ge {b k : Nat} (hb : 2 ≤ b) : 2 ^ k ≤ b ^ k := Nat.pow_le_pow_left hb k
theorem IsDg.le14 {b : Nat} {m : Int} {k : Nat} (h : IsDg b m k) (hb : 2 ≤ b) (hm : m ≤ 9999) : k ≤ 14 := by
  by_cases h1 : k ≤ 14
  · exact h1
  · exfalso
    have h2 := h.low 14 (by omega)
    have h3 : (2 : Nat) ^ 14 ≤ b ^ 14 := pow_ge hb
    have h4 : (2 : Nat) ^ 14 = 16384 := by decide
    unfold pw at h2
    omega
theorem low14 {b k : Nat} {m : Int} (hb : 2 ≤ b) (hm : m ≤ 9999) (h : pw b k ≤ m) : k ≤ 13 := by
  by_cases h1 : k ≤ 13
  · exact h1
  · exfalso
    have h2 : (2 : Nat) ^ 14 ≤ 2 ^ k := Nat.pow_le_pow_right (by omega) (by omega)
    have h3 : (2 : Nat) ^ k ≤ b ^ k := pow_ge hb
    have h4 : (2 : Nat) ^ 14 = 16384 := by decide
    unfold pw at h
    omega
theorem IsDg.zero {b : Nat} {m : Int} {k : Nat} (h : IsDg b m k) : k = 0 ↔ m < 1 := by
  constructor
  · rintro rfl; exact h.up
  · intro h1
    by_cases h2 : k = 0
    · exact h2
    · have := h.low 0 (by omega); rw [pw_zero] at this; omega
/-- The greatest wagon. -/
def mxL : List Int → Int := fun xs => xs.foldl (fun m x => if m < x then x else m) 0
theorem mx_snoc (xs : List Int) (x : Int) : mxL (xs ++ [x]) = if mxL xs < x then x else mxL xs := by unfold mxL; rw [List.foldl_append]; rfl
theorem mx_fold (xs : List Int) : ∀ m : Int, m ≤ xs.foldl (fun m x => if m < x then x else m) m ∧ (∀ x ∈ xs, x ≤ xs.foldl (fun m x => if m < x then x else m) m) ∧ (xs.foldl (fun m x => if m < x then x else m) m = m ∨ xs.foldl (fun m x => if m < x then x else m) m ∈ xs) := by
  induction xs with
  | nil => intro m; exact ⟨Int.le_refl _, fun x h => by simp at h, .inl rfl⟩
  | cons y ys ih =>
    intro m
    rw [List.foldl_cons]
    obtain ⟨h1, h2, h3⟩ := ih (if m < y then y else m)
    generalize ys.foldl (fun m x => if m < x then x else m) (if m < y then y else m) = M at *
    refine ⟨?_, ?_, ?_⟩
    · split at h1 <;> omega
    · intro x hx
      rcases List.mem_cons.1 hx with rfl | hx
      · split at h1 <;> omega
      · exact h2 x hx
    · rcases h3 with h3 | h3
      · split at h3
        · right; rw [h3]; exact List.mem_cons_self ..
        · left; exact h3
      · right; exact List.mem_cons_of_mem _ h3
theorem mx_nonneg (xs : List Int) : 0 ≤ mxL xs := (mx_fold xs 0).1
theorem mx_ge {xs : List Int} : ∀ x ∈ xs, x ≤ mxL xs := (mx_fold xs 0).2.1
theorem mx_le {xs : List Int} (h : trainB xs = true) : mxL xs ≤ 9999 := by
  rcases (mx_fold xs 0).2.2 with h1 | h1
  · unfold mxL; rw [h1]; omega
  · exact (trainB_wag h _ h1).2
theorem mx_take_le {xs : List Int} (h : trainB xs = true) (k : Nat) : mxL (xs.take k) ≤ 9999 := by
  rcases (mx_fold (xs.take k) 0).2.2 with h1 | h1
  · unfold mxL; rw [h1]; omega
  · exact (trainB_wag h _ (List.mem_of_mem_take h1)).2
theorem mx_zero {xs : List Int} (h : trainB xs = true) : mxL xs < 1 ↔ xs.length = 0 := by
  constructor
  · intro h1
    cases xs with
    | nil => rfl
    | cons y ys =>
      have := mx_ge (xs := y :: ys) y (List.mem_cons_self ..)
      have := (trainB_wag h y (List.mem_cons_self ..)).1
      omega
  · intro h1
    have : xs = [] := List.length_eq_zero_iff.1 h1
    subst this; decide
/-- A train that has been sorted. -/
theorem pass_sorted {b : Nat} {xs : List Int} {k : Nat} (hb : 0 < b) (h : trainB xs = true) (hk : IsDg b (mxL xs) k) : (passL b xs k).Pairwise (· ≤ ·) := by
  have h1 : (passL b xs k).Pairwise (fun x y => x % pw b k ≤ y % pw b k) := pass_srt hb k
  refine List.Pairwise.imp_of_mem ?_ h1
  intro x y hx hy hxy
  have mx := (pass_perm hb k).mem_iff.1 hx
  have my := (pass_perm hb k).mem_iff.1 hy
  have a1 := (trainB_wag h x mx).1
  have a2 := (trainB_wag h y my).1
  have b1 := mx_ge x mx
  have b2 := mx_ge y my
  have u := hk.up
  rwa [Int.emod_eq_of_lt (by omega) (by omega), Int.emod_eq_of_lt (by omega) (by omega)] at hxy
theorem sorted_unique : ∀ {xs ys : List Int}, xs.Perm ys → xs.Pairwise (· ≤ ·) → ys.Pairwise (· ≤ ·) → xs = ys
  | [], ys, h, _, _ => (List.Perm.nil_eq h)
  | x :: xs, [], h, _, _ => absurd h.length_eq (by simp)
  | x :: xs, y :: ys, h, h1, h2 => by
    have e : x = y := by
      have m1 : x ∈ y :: ys := h.mem_iff.1 (List.mem_cons_self ..)
      have m2 : y ∈ x :: xs := h.mem_iff.2 (List.mem_cons_self ..)
      have q1 : y ≤ x := by
        rcases List.mem_cons.1 m1 with rfl | m1
        · exact Int.le_refl _
        · exact (List.pairwise_cons.1 h2).1 x m1
      have q2 : x ≤ y := by
        rcases List.mem_cons.1 m2 with rfl | m2
        · exact Int.le_refl _
        · exact (List.pairwise_cons.1 h1).1 y m2
      omega
    subst e
    rw [sorted_unique (List.perm_cons _ |>.1 h) (List.pairwise_cons.1 h1).2 (List.pairwise_cons.1 h2).2]
/-! Inversions. -/
def inv : List Int → Nat
  | [] => 0
  | x :: xs => xs.countP (fun y => decide (y < x)) + inv xs
theorem inv_snoc (z : Int) : ∀ xs : List Int, inv (xs ++ [z]) = inv xs + xs.countP (fun y => decide (z < y))
  | [] => by simp [inv]
  | x :: xs => by
    rw [List.cons_append, inv, inv_snoc z xs, inv, List.countP_append, List.countP_cons]
    by_cases h : z < x
    · simp [h]; omega
    · simp [h]; omega
theorem inv_sorted : ∀ {xs : List Int}, xs.Pairwise (· ≤ ·) → inv xs = 0
  | [], _ => rfl
  | x :: xs, h => by
    rw [inv, inv_sorted (List.pairwise_cons.1 h).2]
    have : xs.countP (fun y => decide (y < x)) = 0 := by
      rw [List.countP_eq_zero]
      intro y hy
      have := (List.pairwise_cons.1 h).1 y hy
      simp; omega
    omega
theorem inv_le : ∀ xs : List Int, inv xs ≤ xs.length * xs.length
  | [] => by simp [inv]
  | x :: xs => by
    have h1 : xs.countP (fun y => decide (y < x)) ≤ xs.length := List.countP_le_length
    have h2 := inv_le xs
    rw [inv, List.length_cons, Nat.add_mul, Nat.mul_add]
    omega
theorem inv_le40 {xs : List Int} (h : xs.length ≤ 40) : inv xs ≤ 1600 := Nat.le_trans (inv_le xs) (Nat.le_trans (Nat.mul_le_mul h h) (by decide))
end Go.Proofs.YtjbecnflpfjicaaGreat.s18

/- Slices of shunts: copied, compared, marked. -/
namespace Go.Proofs.YtjbecnflpfjicaaGreat.s18
open Go.RowKit
structure ShV where
  f : Int
  t : Int
  m : Int
  deriving DecidableEq
def ShV.zero : ShV := ⟨0, 0, 0⟩
def ShV.val (e : ShV) : Value := .agg #[.int .i64 e.f, .int .i64 e.t, .int .i64 e.m]
def ShV.vs (e : ShV) : List Value := [.int .i64 e.f, .int .i64 e.t, .int .i64 e.m]
def flatShs (es : List ShV) : List Value := es.flatMap ShV.vs
theorem flatShs_cons (e : ShV) (es : List ShV) : flatShs (e :: es) = .int .i64 e.f :: .int .i64 e.t :: .int .i64 e.m :: flatShs es := rfl
theorem flatShs_len (es : List ShV) : (flatShs es).length = es.length * 3 := by
  induction es with
  | nil => rfl
  | cons e es ih => rw [flatShs_cons]; simp only [List.length_cons, ih]; omega
theorem flatShs_app (xs ys : List ShV) : flatShs (xs ++ ys) = flatShs xs ++ flatShs ys := by simp [flatShs]
theorem flatShs_get (es : List ShV) : ∀ i, i < es.length → (flatShs es)[i * 3]? = some (.int .i64 (es.getD i ShV.zero).f) ∧ (flatShs es)[i * 3 + 1]? = some (.int .i64 (es.getD i ShV.zero).t) ∧ (flatShs es)[i * 3 + 2]? = some (.int .i64 (es.getD i ShV.zero).m) := by
  induction es with
  | nil => intro i hi; simp at hi
  | cons e es ih =>
    intro i hi
    rw [flatShs_cons]
    cases i with
    | zero => simp
    | succ i =>
      have h := ih i (by simpa using hi)
      have e1 : (i + 1) * 3 = i * 3 + 1 + 1 + 1 := by omega
      rw [e1]
      simpa using h
/-- The cells behind a slice's address hold the structs es. -/
def Shs (w : World) (a : Option Addr) (es : List ShV) : Prop :=
  es = [] ∨ ∃ b off, a = some ⟨b, off, none⟩ ∧ ∀ i, i < es.length → w.cell? ⟨b, off + i * 3, none⟩ = some (.int .i64 (es.getD i ShV.zero).f) ∧ w.cell? ⟨b, off + i * 3 + 1, none⟩ = some (.int .i64 (es.getD i ShV.zero).t) ∧ w.cell? ⟨b, off + i * 3 + 2, none⟩ = some (.int .i64 (es.getD i ShV.zero).m)
theorem Shs.below {w w' : World} {a : Option Addr} {es : List ShV} (h : Shs w a es) (hb : Below w.heap.size w w') : Shs w' a es := by
  rcases h with h | ⟨b, off, ha, hc⟩
  · exact .inl h
  · exact .inr ⟨b, off, ha, fun i hi => ⟨ble hb (hc i hi).1, ble hb (hc i hi).2.1, ble hb (hc i hi).2.2⟩⟩
theorem madeShs (n : Nat) : (madeCells (Value.agg #[.int .i64 0, .int .i64 0, .int .i64 0]).cells (n * 3)).toList = List.replicate (n * 3) (Value.int .i64 0) := by
  apply List.ext_getElem?
  intro j
  by_cases hj : j < n * 3
  · have h4 : j % 3 < 3 := Nat.mod_lt _ (by omega)
    simp only [madeCells, Value.cells]
    generalize hq : j % 3 = q at h4
    match q, h4 with
    | 0, _ => simp [hj, hq]
    | 1, _ => simp [hj, hq]
    | 2, _ => simp [hj, hq]
  · simp [madeCells, hj]
theorem stepShs (es : List ShV) (k : Nat) (hk : k < es.length) :
    (((flatShs (es.take k) ++ List.replicate ((es.length - k) * 3) (Value.int .i64 0)).set (k * 3) (.int .i64 es[k].f)).set (k * 3 + 1) (.int .i64 es[k].t)).set (k * 3 + 2) (.int .i64 es[k].m) =
      flatShs (es.take (k + 1)) ++ List.replicate ((es.length - (k + 1)) * 3) (Value.int .i64 0) := by
  have e1 : (es.length - k) * 3 = (es.length - (k + 1)) * 3 + 1 + 1 + 1 := by omega
  have e2 : (flatShs (es.take k)).length = k * 3 := by rw [flatShs_len]; simp; omega
  rw [List.set_append_right _ _ (by omega), List.set_append_right _ _ (by omega), List.set_append_right _ _ (by omega), e2, e1,
    List.replicate_succ, List.replicate_succ, List.replicate_succ, List.take_succ_eq_append_getElem hk, flatShs_app]
  have a0 : k * 3 - k * 3 = 0 := by omega
  have a1 : k * 3 + 1 - k * 3 = 1 := by omega
  have a2 : k * 3 + 2 - k * 3 = 2 := by omega
  rw [a0, a1, a2]
  simp [flatShs, ShV.vs]
theorem set_flatShs (xs ys : List ShV) (e : ShV) (x0 x1 x2 : Int) (q : Nat) (hq : q = xs.length) :
    (((flatShs (xs ++ e :: ys)).set (q * 3) (.int .i64 x0)).set (q * 3 + 1) (.int .i64 x1)).set (q * 3 + 2) (.int .i64 x2) = flatShs (xs ++ ⟨x0, x1, x2⟩ :: ys) := by
  have e2 : (flatShs xs).length = q * 3 := by rw [flatShs_len, hq]
  rw [flatShs_app, flatShs_app, flatShs_cons, flatShs_cons, List.set_append_right _ _ (by omega), List.set_append_right _ _ (by omega), List.set_append_right _ _ (by omega), e2]
  have a0 : q * 3 - q * 3 = 0 := by omega
  have a1 : q * 3 + 1 - q * 3 = 1 := by omega
  have a2 : q * 3 + 2 - q * 3 = 2 := by omega
  rw [a0, a1, a2]
  simp

def markShV (k : Int) (i : Nat) : ShV := ⟨k + 3 * i, k + 3 * i + 1, k + 3 * i + 2⟩
def marksShs (k : Int) (n : Nat) : List ShV := (List.range n).map (markShV k)
theorem marksShs_len (k : Int) (n : Nat) : (marksShs k n).length = n := by simp [marksShs]
theorem marksShs_succ (k : Int) (n : Nat) : marksShs k (n + 1) = marksShs k n ++ [markShV k n] := by simp [marksShs, List.range_succ]
theorem marksShs_get (k : Int) (n i : Nat) (h : i < n) : (marksShs k n).getD i ShV.zero = markShV k i := by simp [marksShs, List.getD, h]
theorem markShs_step (es : List ShV) (k : Int) (i : Nat) (hi : i < es.length) :
    (((flatShs (marksShs k i ++ es.drop i)).set (i * 3) (.int .i64 (k + 3 * i))).set (i * 3 + 1) (.int .i64 (k + 3 * i + 1))).set (i * 3 + 2) (.int .i64 (k + 3 * i + 2)) = flatShs (marksShs k (i + 1) ++ es.drop (i + 1)) := by
  rw [List.drop_eq_getElem_cons hi, set_flatShs _ _ _ _ _ _ i (marksShs_len k i).symm, marksShs_succ, List.append_assoc]
  rfl

end Go.Proofs.YtjbecnflpfjicaaGreat.s18

/- The mathematics of sidings: right ones, a shunt, its code, shunts one after the other. -/
namespace Go.Proofs.YtjbecnflpfjicaaGreat.s18
open Go.RowKit

def rwA (rows : List (List Int)) (i : Nat) : List Int := rows.getD i []
def rowB (r : Int) (xs : List Int) : Bool := inB r 1 40 && (decide ((xs.length : Int) ≤ r) && xs.all wagB)
structure SidP (room : List Int) (rows : List (List Int)) : Prop where
  n1 : 1 ≤ rows.length
  n6 : rows.length ≤ 6
  len : room.length = rows.length
  row : ∀ i, i < rows.length → rowB (room.getD i 0) (rwA rows i) = true
  nodup : rows.flatten.Nodup
open Classical in
noncomputable def sidB (room : List Int) (rows : List (List Int)) : Bool := decide (SidP room rows)
theorem sidB_iff {room : List Int} {rows : List (List Int)} : sidB room rows = true ↔ SidP room rows := by simp [sidB]
theorem sidB_not {room : List Int} {rows : List (List Int)} (h : ¬ SidP room rows) : sidB room rows = false := by simp [sidB, h]
theorem rowB_iff {r : Int} {xs : List Int} : rowB r xs = true ↔ 1 ≤ r ∧ r ≤ 40 ∧ (xs.length : Int) ≤ r ∧ ∀ x ∈ xs, 1 ≤ x ∧ x ≤ 9999 := by
  simp only [rowB, wagB, inB, Bool.and_eq_true, decide_eq_true_eq, List.all_eq_true]
  constructor
  · rintro ⟨⟨h1, h2⟩, h3, h4⟩; exact ⟨h1, h2, h3, h4⟩
  · rintro ⟨h1, h2, h3, h4⟩; exact ⟨⟨h1, h2⟩, h3, h4⟩
theorem rwA_mem {rows : List (List Int)} {i : Nat} (h : i < rows.length) : rwA rows i ∈ rows := by
  rw [rwA, show rows.getD i [] = rows[i] by simp [List.getD, h]]; exact List.getElem_mem h
theorem SidP.len40 {room : List Int} {rows : List (List Int)} (h : SidP room rows) {i : Nat} (hi : i < rows.length) : (rwA rows i).length ≤ 40 := by
  have := rowB_iff.1 (h.row i hi); omega
/-- What a row's place is given. -/
def setR (rows : List (List Int)) (i : Nat) (x : List Int) : List (List Int) := rows.set i x
theorem setR_len (rows : List (List Int)) (i : Nat) (x : List Int) : (setR rows i x).length = rows.length := by simp [setR]
theorem rwA_set {rows : List (List Int)} {i j : Nat} {x : List Int} (hi : i < rows.length) : rwA (setR rows i x) j = if j = i then x else rwA rows j := by
  unfold rwA setR
  simp only [List.getD, List.getElem?_set]
  by_cases h : i = j
  · subst h; simp [hi]
  · rw [if_neg h, if_neg (fun e => h e.symm)]
theorem rows_ext {r s : List (List Int)} (hl : r.length = s.length) (h : ∀ i, i < r.length → rwA r i = rwA s i) : r = s := by
  refine List.ext_getElem hl fun i h1 h2 => ?_
  have := h i h1
  simp only [rwA, List.getD, List.getElem?_eq_getElem h1, List.getElem?_eq_getElem h2, Option.getD_some] at this
  exact this
theorem set_count (a : Int) : ∀ (rows : List (List Int)) (i : Nat) (x : List Int), i < rows.length → (setR rows i x).flatten.count a + (rwA rows i).count a = rows.flatten.count a + x.count a
  | [], i, x, h => by simp at h
  | r :: rs, 0, x, h => by simp [setR, rwA]; omega
  | r :: rs, i + 1, x, h => by
    have := set_count a rs i x (by simpa using h)
    simp only [setR, rwA, List.getD_eq_getElem?_getD] at *
    simp
    omega
/-- The last m of row f go behind those of row t. -/
def moveR (rows : List (List Int)) (f t m : Nat) : List (List Int) :=
  setR (setR rows t (rwA rows t ++ (rwA rows f).drop ((rwA rows f).length - m))) f ((rwA rows f).take ((rwA rows f).length - m))
theorem moveR_len (rows : List (List Int)) (f t m : Nat) : (moveR rows f t m).length = rows.length := by simp [moveR, setR_len]
theorem moveR_at {rows : List (List Int)} {f t m : Nat} (hf : f < rows.length) (ht : t < rows.length) (j : Nat) :
    rwA (moveR rows f t m) j = if j = f then (rwA rows f).take ((rwA rows f).length - m) else if j = t then rwA rows t ++ (rwA rows f).drop ((rwA rows f).length - m) else rwA rows j := by
  rw [moveR, rwA_set (by rw [setR_len]; exact hf), rwA_set ht]
theorem moveR_perm {rows : List (List Int)} {f t m : Nat} (hf : f < rows.length) (ht : t < rows.length) (hne : f ≠ t) : (moveR rows f t m).flatten.Perm rows.flatten := by
  rw [List.perm_iff_count]
  intro a
  have h1 := set_count a rows t (rwA rows t ++ (rwA rows f).drop ((rwA rows f).length - m)) ht
  have h2 := set_count a (setR rows t (rwA rows t ++ (rwA rows f).drop ((rwA rows f).length - m))) f ((rwA rows f).take ((rwA rows f).length - m)) (by rw [setR_len]; exact hf)
  rw [rwA_set ht, if_neg hne] at h2
  have h3 : ((rwA rows f).take ((rwA rows f).length - m)).count a + ((rwA rows f).drop ((rwA rows f).length - m)).count a = (rwA rows f).count a := by
    rw [← List.count_append, List.take_append_drop]
  rw [List.count_append] at h1
  unfold moveR
  omega
/-- The code of a shunt of right sidings. -/
def codeS (room : List Int) (rows : List (List Int)) (x : ShV) : Int :=
  if inB x.f 0 ((rows.length : Int) - 1) = true ∧ inB x.t 0 ((rows.length : Int) - 1) = true ∧ x.f ≠ x.t ∧ 1 ≤ x.m then
    if ((rwA rows x.f.toNat).length : Int) < x.m then 2
    else if room.getD x.t.toNat 0 < (rwA rows x.t.toNat).length + x.m then 3 else 0
  else 1
/-- What a shunt of right sidings leaves. -/
def leftS (room : List Int) (rows : List (List Int)) (x : ShV) : List (List Int) :=
  if codeS room rows x = 0 then moveR rows x.f.toNat x.t.toNat x.m.toNat else rows
structure DoneS (room : List Int) (rows : List (List Int)) (x : ShV) : Prop where
  f0 : 0 ≤ x.f
  f1 : x.f < rows.length
  t0 : 0 ≤ x.t
  t1 : x.t < rows.length
  ne : x.f ≠ x.t
  m1 : 1 ≤ x.m
  few : x.m ≤ (rwA rows x.f.toNat).length
  full : (rwA rows x.t.toNat).length + x.m ≤ room.getD x.t.toNat 0
theorem code_zero {room : List Int} {rows : List (List Int)} {x : ShV} : codeS room rows x = 0 ↔ DoneS room rows x := by
  unfold codeS
  simp only [inB, decide_eq_true_eq]
  constructor
  · intro h
    split at h
    · rename_i h1
      obtain ⟨⟨a1, a2⟩, ⟨a3, a4⟩, a5, a6⟩ := h1
      split at h
      · omega
      · split at h
        · omega
        · exact ⟨a1, by omega, a3, by omega, a5, a6, by omega, by omega⟩
    · omega
  · intro h
    obtain ⟨h1, h2, h3, h4, h5, h6, h7, h8⟩ := h
    rw [if_pos ⟨⟨h1, by omega⟩, ⟨h3, by omega⟩, h5, h6⟩, if_neg (by omega), if_neg (by omega)]
theorem DoneS.nf {room : List Int} {rows : List (List Int)} {x : ShV} (h : DoneS room rows x) : x.f.toNat < rows.length ∧ x.t.toNat < rows.length ∧ x.f.toNat ≠ x.t.toNat := by
  obtain ⟨h1, h2, h3, h4, h5, h6, h7, h8⟩ := h
  omega
theorem leftS_len {room : List Int} {rows : List (List Int)} {x : ShV} : (leftS room rows x).length = rows.length := by
  unfold leftS; split
  · exact moveR_len ..
  · rfl
theorem leftS_perm {room : List Int} {rows : List (List Int)} {x : ShV} : (leftS room rows x).flatten.Perm rows.flatten := by
  unfold leftS
  split
  · rename_i h
    obtain ⟨h1, h2, h3⟩ := (code_zero.1 h).nf
    exact moveR_perm h1 h2 h3
  · exact List.Perm.refl _
theorem SidP.left {room : List Int} {rows : List (List Int)} (h : SidP room rows) (x : ShV) : SidP room (leftS room rows x) := by
  refine ⟨by rw [leftS_len]; exact h.n1, by rw [leftS_len]; exact h.n6, by rw [leftS_len]; exact h.len, fun i hi => ?_, (leftS_perm.nodup_iff).2 h.nodup⟩
  rw [leftS_len] at hi
  unfold leftS
  split
  · rename_i hc
    have hd := code_zero.1 hc
    obtain ⟨h1, h2, h3⟩ := hd.nf
    have q1 := rowB_iff.1 (h.row _ h1)
    have q2 := rowB_iff.1 (h.row _ h2)
    rw [moveR_at h1 h2]
    split
    · rename_i e
      subst e
      refine rowB_iff.2 ⟨q1.1, q1.2.1, ?_, fun y hy => q1.2.2.2 y (List.mem_of_mem_take hy)⟩
      rw [List.length_take]; omega
    · split
      · rename_i e
        subst e
        refine rowB_iff.2 ⟨q2.1, q2.2.1, ?_, fun y hy => ?_⟩
        · have := hd.full; have := hd.few; have := hd.m1
          rw [List.length_append, List.length_drop]; omega
        · rcases List.mem_append.1 hy with hy | hy
          · exact q2.2.2.2 y hy
          · exact q1.2.2.2 y (List.mem_of_mem_drop hy)
      · exact h.row i hi
  · exact h.row i hi
/-- Shunts one after the other. -/
def playR (room : List Int) (rows : List (List Int)) : List ShV → List (List Int)
  | [] => rows
  | x :: xs => playR room (leftS room rows x) xs
def playC (room : List Int) (rows : List (List Int)) : List ShV → List Int
  | [] => []
  | x :: xs => codeS room rows x :: playC room (leftS room rows x) xs
theorem playR_snoc {room : List Int} (x : ShV) : ∀ {xs : List ShV} {rows : List (List Int)}, playR room rows (xs ++ [x]) = leftS room (playR room rows xs) x
  | [], rows => rfl
  | y :: ys, rows => by rw [List.cons_append, playR, playR_snoc x (xs := ys)]; rfl
theorem playC_snoc {room : List Int} (x : ShV) : ∀ {xs : List ShV} {rows : List (List Int)}, playC room rows (xs ++ [x]) = playC room rows xs ++ [codeS room (playR room rows xs) x]
  | [], rows => rfl
  | y :: ys, rows => by rw [List.cons_append, playC, playC_snoc x (xs := ys)]; rfl
theorem playC_len {room : List Int} : ∀ {xs : List ShV} {rows : List (List Int)}, (playC room rows xs).length = xs.length
  | [], rows => rfl
  | y :: ys, rows => by rw [playC, List.length_cons, playC_len]; rfl
theorem playR_len {room : List Int} : ∀ {xs : List ShV} {rows : List (List Int)}, (playR room rows xs).length = rows.length
  | [], rows => rfl
  | y :: ys, rows => by rw [playR, playR_len, leftS_len]
theorem SidP.play {room : List Int} : ∀ {xs : List ShV} {rows : List (List Int)}, SidP room rows → SidP room (playR room rows xs)
  | [], rows, h => h
  | y :: ys, rows, h => by rw [playR]; exact SidP.play (h.left y)
theorem playR_perm {room : List Int} : ∀ {xs : List ShV} {rows : List (List Int)}, (playR room rows xs).flatten.Perm rows.flatten
  | [], rows => List.Perm.refl _
  | y :: ys, rows => by rw [playR]; exact playR_perm.trans leftS_perm
/-! Undone. -/
def undoS (x : ShV) : ShV := ⟨x.t, x.f, x.m⟩
theorem undo_done {room : List Int} {rows : List (List Int)} {x : ShV} (h : SidP room rows) (hc : codeS room rows x = 0) :
    codeS room (leftS room rows x) (undoS x) = 0 ∧ leftS room (leftS room rows x) (undoS x) = rows ∧ leftS room rows x ≠ rows := by
  have hd := code_zero.1 hc
  obtain ⟨h1, h2, h3⟩ := hd.nf
  have e0 : leftS room rows x = moveR rows x.f.toNat x.t.toNat x.m.toNat := by unfold leftS; rw [if_pos hc]
  have q1 := rowB_iff.1 (h.row _ h1)
  obtain ⟨d1, d2, d3, d4, d5, d6, d7, d8⟩ := hd
  have ef : rwA (leftS room rows x) x.f.toNat = (rwA rows x.f.toNat).take ((rwA rows x.f.toNat).length - x.m.toNat) := by rw [e0, moveR_at h1 h2, if_pos rfl]
  have et : rwA (leftS room rows x) x.t.toNat = rwA rows x.t.toNat ++ (rwA rows x.f.toNat).drop ((rwA rows x.f.toNat).length - x.m.toNat) := by rw [e0, moveR_at h1 h2, if_neg (fun e => h3 e.symm), if_pos rfl]
  have lt : (rwA (leftS room rows x) x.t.toNat).length = (rwA rows x.t.toNat).length + x.m.toNat := by rw [et, List.length_append, List.length_drop]; omega
  have lf : (rwA (leftS room rows x) x.f.toNat).length = (rwA rows x.f.toNat).length - x.m.toNat := by rw [ef, List.length_take]; omega
  have c0 : codeS room (leftS room rows x) (undoS x) = 0 := by
    rw [code_zero]
    refine ⟨d3, by rw [leftS_len]; exact d4, d1, by rw [leftS_len]; exact d2, fun e => d5 e.symm, d6, ?_, ?_⟩
    · show x.m ≤ ((rwA (leftS room rows x) x.t.toNat).length : Int)
      rw [lt]; omega
    · show ((rwA (leftS room rows x) x.f.toNat).length : Int) + x.m ≤ room.getD x.f.toNat 0
      rw [lf]; omega
  refine ⟨c0, ?_, fun e => ?_⟩
  · refine rows_ext (by rw [leftS_len, leftS_len]) fun i hi => ?_
    have gen : ∀ (r : List (List Int)) (y : ShV), codeS room r y = 0 → leftS room r y = moveR r y.f.toNat y.t.toNat y.m.toNat := fun r y hy => by unfold leftS; rw [if_pos hy]
    have eu : leftS room (leftS room rows x) (undoS x) = moveR (leftS room rows x) x.t.toNat x.f.toNat x.m.toNat := gen _ _ c0
    rw [eu, moveR_at (by rw [leftS_len]; exact h2) (by rw [leftS_len]; exact h1), lt, ef, et]
    have hk : (rwA rows x.t.toNat).length + x.m.toNat - x.m.toNat = (rwA rows x.t.toNat).length := by omega
    rw [hk]
    split
    · rename_i e; subst e; rw [List.take_left]
    · split
      · rename_i e; subst e; rw [List.drop_left, List.take_append_drop]
      · rename_i n1 n2
        rw [e0, moveR_at h1 h2, if_neg n2, if_neg n1]
  · rw [e] at lf; omega
/-! What is said of all rows together. -/
theorem flat_len {rows : List (List Int)} : rows.flatten.length = (rows.map List.length).sum := by simp [List.length_flatten]
/-- In how many of the first rows a wagon is. -/
def inRows (rows : List (List Int)) (a : Int) : Nat := rows.countP (fun r => decide (a ∈ r))
theorem inRows_one (a : Int) : ∀ {rows : List (List Int)}, rows.flatten.Nodup → a ∈ rows.flatten → inRows rows a = 1
  | [], _, h => by simp at h
  | r :: rs, hn, h => by
    rw [List.flatten_cons, List.nodup_append] at hn
    obtain ⟨h1, h2, h3⟩ := hn
    unfold inRows
    rw [List.countP_cons]
    by_cases ha : a ∈ r
    · have : rs.countP (fun r => decide (a ∈ r)) = 0 := by
        rw [List.countP_eq_zero]
        intro q hq
        simp only [decide_eq_true_eq]
        intro hqa
        exact h3 a ha a (List.mem_flatten.2 ⟨q, hq, hqa⟩) rfl
      rw [this]; simp [ha]
    · have hm : a ∈ rs.flatten := by
        rw [List.flatten_cons] at h
        rcases List.mem_append.1 h with h | h
        · exact absurd h ha
        · exact h
      have := inRows_one a h2 hm
      unfold inRows at this
      rw [this]; simp [ha]
end Go.Proofs.YtjbecnflpfjicaaGreat.s18

/- Sidings and shunts as values. -/
namespace Go.Proofs.YtjbecnflpfjicaaGreat.s18
open Go.RowKit
def IntV (w : World) (v : Value) (xs : List Int) : Prop := ∃ a c, v = .slice a xs.length c ∧ Ints w a xs ∧ xs.length ≤ c
theorem IntV.below {w w' : World} {v : Value} {xs : List Int} (h : IntV w v xs) (hb : Below w.heap.size w w') : IntV w' v xs := by
  obtain ⟨a, c, h1, h2, h3⟩ := h
  exact ⟨a, c, h1, h2.below hb, h3⟩
/-- The cells behind a slice's address hold rows. -/
structure RowsW (w : World) (a : Option Addr) (vs : List Value) (xss : List (List Int)) : Prop where
  len : vs.length = xss.length
  cell : xss = [] ∨ ∃ b off, a = some ⟨b, off, none⟩ ∧ ∀ i, (hi : i < vs.length) → w.cell? ⟨b, off + i, none⟩ = some vs[i]
  each : ∀ i, (hi : i < vs.length) → IntV w vs[i] (rwA xss i)
theorem RowsW.nil (w : World) (a : Option Addr) : RowsW w a [] [] := ⟨rfl, .inl rfl, fun i hi => by simp at hi⟩
theorem RowsW.below {w w' : World} {a : Option Addr} {vs : List Value} {xss : List (List Int)} (h : RowsW w a vs xss) (hb : Below w.heap.size w w') : RowsW w' a vs xss := by
  refine ⟨h.len, ?_, fun i hi => (h.each i hi).below hb⟩
  rcases h.cell with h1 | ⟨b, off, ha, hc⟩
  · exact .inl h1
  · exact .inr ⟨b, off, ha, fun i hi => ble hb (hc i hi)⟩
end Go.Proofs.YtjbecnflpfjicaaGreat.s18

