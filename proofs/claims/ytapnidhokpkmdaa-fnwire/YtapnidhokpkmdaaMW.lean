/- What is told of a drawn wire: all numbers are small quotients by powers of two. -/
import Derived.Test.YtapnidhokpkmdaaDW
import Derived.Test.YtapnidhokpkmdaaZJ
namespace Go.Proofs.Ytapnidhokpkmdaa
open Go.RowKit Fl

theorem sq_nn (x : Int) : 0 ≤ x * x := by
  by_cases h : x < 0
  · have := Int.mul_pos_of_neg_of_neg h h; omega
  · exact Int.mul_nonneg (by omega) (by omega)
theorem Dz.as {k l : Nat} {n : Int} {o : Option Nat} (h : Dz k n o) (e : k = l) : Dz l n o := e ▸ h
/-- A drawn wire. -/
structure Wr (v : ZV) (ls ds : List ZV) : Prop where
  len : ds.length = ls.length
  n1 : 1 ≤ ls.length
  n7 : ls.length ≤ 7
  v : VoltD v
  l : ∀ z ∈ ls, LineD z
  d : ∀ z ∈ ds, DrawD z
theorem getD_mem {ls : List ZV} {k : Nat} (h : k < ls.length) : ls.getD k ZV.zero ∈ ls := by simp [List.getD, h]
/-- The current at a place, and how great it is at most. -/
theorem sum_D {v : ZV} {ls ds : List ZV} (h : Wr v ls ds) : ∀ j, j < ds.length → ∃ p q : Int, -(178 * (j + 1)) ≤ p ∧ p ≤ 178 * (j + 1) ∧ -(178 * (j + 1)) ≤ q ∧ q ≤ 178 * (j + 1) ∧ DC 3 p q (sR (cs ds) j) := by
  intro j
  have hn := h.n7
  have hl := h.len
  induction j with
  | zero =>
    intro hj
    obtain ⟨p, q, h1, h2, h3, h4, h5⟩ := h.d _ (getD_mem (k := ds.length - 1) (by omega))
    refine ⟨p, q, by omega, by omega, by omega, by omega, ?_⟩
    show DC 3 p q (gC (cs ds) ((cs ds).length - 1))
    rw [cs_len, gC_cs (by omega)]
    exact h5
  | succ j ih =>
    intro hj
    obtain ⟨p, q, h1, h2, h3, h4, h5⟩ := ih (by omega)
    obtain ⟨p2, q2, g1, g2, g3, g4, g5⟩ := h.d _ (getD_mem (k := ds.length - 1 - (j + 1)) (by omega))
    refine ⟨p2 + p, q2 + q, by omega, by omega, by omega, by omega, ?_⟩
    show DC 3 _ _ (zadd (gC (cs ds) ((cs ds).length - 1 - (j + 1))) (sR (cs ds) j))
    rw [cs_len, gC_cs (by omega)]
    exact zadd_D (N := 2000) g5 h5 (by decide) (by omega) (by omega) (by omega) (by omega) (by omega) (by omega) (by omega) (by omega) (by decide)
theorem cur_D {v : ZV} {ls ds : List ZV} (h : Wr v ls ds) {k : Nat} (hk : k < ls.length) : ∃ p q : Int, -1246 ≤ p ∧ p ≤ 1246 ∧ -1246 ≤ q ∧ q ≤ 1246 ∧ DC 3 p q (sAt (cs ds) k) := by
  have hl := h.len
  have hn := h.n7
  obtain ⟨p, q, h1, h2, h3, h4, h5⟩ := sum_D h (ds.length - 1 - k) (by omega)
  refine ⟨p, q, by omega, by omega, by omega, by omega, ?_⟩
  unfold sAt
  rw [cs_len]
  exact h5
theorem line_D {v : ZV} {ls ds : List ZV} (h : Wr v ls ds) {k : Nat} (hk : k < ls.length) : ∃ p q : Int, 0 ≤ p ∧ p ≤ 39 ∧ 0 ≤ q ∧ q ≤ 39 ∧ DC 6 p q (gC (cs ls) k) := by
  rw [gC_cs hk]
  exact h.l _ (getD_mem hk)
theorem volt_D {v : ZV} {ls ds : List ZV} (h : Wr v ls ds) : ∀ k, k ≤ ls.length → ∃ p q : Int, -(204288 + 97188 * k) ≤ p ∧ p ≤ 204288 + 97188 * k ∧ -(204288 + 97188 * k) ≤ q ∧ q ≤ 204288 + 97188 * k ∧ DC 9 p q (vAt v.c (cs ls) (cs ds) k) := by
  intro k
  have hn := h.n7
  induction k with
  | zero =>
    intro _
    obtain ⟨p, q, h1, h2, h3, h4, h5⟩ := h.v
    exact ⟨p, q, by omega, by omega, by omega, by omega, h5⟩
  | succ k ih =>
    intro hk
    obtain ⟨p, q, h1, h2, h3, h4, h5⟩ := ih (by omega)
    obtain ⟨a, b, a1, a2, b1, b2, hL⟩ := line_D h (k := k) (by omega)
    obtain ⟨c, d, c1, c2, d1, d2, hS⟩ := cur_D h (k := k) (by omega)
    have hM := zmul_D (N := 39) (M := 1246) hL hS (by decide) (by omega) (by omega) (by omega) (by omega) (by omega) (by omega) (by omega) (by omega) (by decide)
    have m1 := mb (n := a) (m := c) (N := 39) (M := 1246) (by omega) (by omega) (by omega) (by omega)
    have m2 := mb (n := b) (m := d) (N := 39) (M := 1246) (by omega) (by omega) (by omega) (by omega)
    have m3 := mb (n := a) (m := d) (N := 39) (M := 1246) (by omega) (by omega) (by omega) (by omega)
    have m4 := mb (n := b) (m := c) (N := 39) (M := 1246) (by omega) (by omega) (by omega) (by omega)
    refine ⟨p - (a * c - b * d), q - (a * d + b * c), by omega, by omega, by omega, by omega, ?_⟩
    rw [vAt_succ]
    exact zsub_D (N := 2000000) h5 hM (by decide) (by omega) (by omega) (by omega) (by omega) (by omega) (by omega) (by omega) (by omega) (by decide)
/-- The sizes of the voltages are numbers, and not below nought. -/
theorem size_D {v : ZV} {ls ds : List ZV} (h : Wr v ls ds) {k : Nat} (hk : k < ls.length) : ∃ n : Int, 0 ≤ n ∧ Dz 18 n (zsize (vAt v.c (cs ls) (cs ds) (k + 1))) := by
  have hn := h.n7
  obtain ⟨p, q, h1, h2, h3, h4, h5⟩ := volt_D h (k + 1) (by omega)
  have hq := zsize_D (N := 2000000) h5 (by decide) (by omega) (by omega) (by omega) (by omega) (by decide)
  have s1 := sq_nn p
  have s2 := sq_nn q
  exact ⟨p * p + q * q, by omega, Dz.as hq (by decide)⟩
theorem loss_D {v : ZV} {ls ds : List ZV} (h : Wr v ls ds) : ∀ k, k ≤ ls.length → ∃ n : Int, 0 ≤ n ∧ n ≤ 1000000000 * k ∧ Dz 12 n (lAt (cs ls) (cs ds) k) := by
  intro k
  have hn := h.n7
  induction k with
  | zero =>
    intro _
    exact ⟨0, by omega, by omega, (Dq.zero 12).cl⟩
  | succ k ih =>
    intro hk
    obtain ⟨n, h1, h2, h3⟩ := ih (by omega)
    obtain ⟨a, b, a1, a2, b1, b2, hL⟩ := line_D h (k := k) (by omega)
    obtain ⟨c, d, c1, c2, d1, d2, hS⟩ := cur_D h (k := k) (by omega)
    have hZ := zsize_D (N := 1246) hS (by decide) (by omega) (by omega) (by omega) (by omega) (by decide)
    have m1 := mb (n := c) (m := c) (N := 1246) (M := 1246) (by omega) (by omega) (by omega) (by omega)
    have m2 := mb (n := d) (m := d) (N := 1246) (M := 1246) (by omega) (by omega) (by omega) (by omega)
    have q1 := sq_nn c
    have q2 := sq_nn d
    have m3 := mb (n := c * c + d * d) (m := a) (N := 3105032) (M := 39) (by omega) (by omega) (by omega) (by omega)
    have m4 := Int.mul_nonneg (show 0 ≤ c * c + d * d by omega) a1
    have hP := hZ.mul hL.1 (by decide) (by omega)
    refine ⟨n + (c * c + d * d) * a, by omega, by omega, ?_⟩
    rw [lAt_succ]
    exact h3.add hP (by decide) (by omega)
/-- Without current. -/
def zeros (n : Nat) : List ZV := List.replicate n ZV.zero
theorem zeros_Wr {v : ZV} {ls ds : List ZV} (h : Wr v ls ds) : Wr v ls (zeros ls.length) :=
  ⟨by simp [zeros], h.n1, h.n7, h.v, h.l, fun z hz => by
    obtain ⟨-, rfl⟩ := List.mem_replicate.1 hz
    exact ⟨0, 0, by omega, by omega, by omega, by omega, (Dq.zero 3).cl, (Dq.zero 3).cl⟩⟩
theorem zero_sum (n : Nat) : ∀ j, j < n → DC 3 0 0 (sR (cs (zeros n)) j) := by
  intro j
  induction j with
  | zero =>
    intro hj
    show DC 3 0 0 (gC (cs (zeros n)) ((cs (zeros n)).length - 1))
    rw [gC_cs (by rw [cs_len]; simp [zeros]; omega)]
    have e : (zeros n).getD ((cs (zeros n)).length - 1) ZV.zero = ZV.zero := by
      rw [cs_len]; simp [zeros, List.getD, (show n - 1 < n by omega)]
    rw [e]
    exact ⟨(Dq.zero 3).cl, (Dq.zero 3).cl⟩
  | succ j ih =>
    intro hj
    show DC 3 0 0 (zadd (gC (cs (zeros n)) ((cs (zeros n)).length - 1 - (j + 1))) (sR (cs (zeros n)) j))
    rw [gC_cs (by rw [cs_len]; simp [zeros]; omega)]
    have e : (zeros n).getD ((cs (zeros n)).length - 1 - (j + 1)) ZV.zero = ZV.zero := by
      rw [cs_len]; simp [zeros, List.getD, (show n - 1 - (j + 1) < n by omega)]
    rw [e]
    have := zadd_D (N := 1) (⟨(Dq.zero 3).cl, (Dq.zero 3).cl⟩ : DC 3 0 0 ZV.zero.c) (ih (by omega)) (by decide) (by omega) (by omega) (by omega) (by omega) (by omega) (by omega) (by omega) (by omega) (by decide)
    simpa using this
theorem zero_cur {n k : Nat} (hk : k < n) : DC 3 0 0 (sAt (cs (zeros n)) k) := by
  unfold sAt
  have hl : (cs (zeros n)).length = n := by rw [cs_len]; simp [zeros]
  rw [hl]
  exact zero_sum n _ (by omega)
theorem still_D {v : ZV} {ls ds : List ZV} (h : Wr v ls ds) {x y : Int} (hv : DC 9 x y v.c) (hx : -300000 ≤ x ∧ x ≤ 300000) (hy : -300000 ≤ y ∧ y ≤ 300000) : ∀ k, k ≤ ls.length → DC 9 x y (vAt v.c (cs ls) (cs (zeros ls.length)) k) := by
  intro k
  induction k with
  | zero => intro _; exact hv
  | succ k ih =>
    intro hk
    obtain ⟨a, b, a1, a2, b1, b2, hL⟩ := line_D h (k := k) (by omega)
    have hM := zmul_D (N := 39) (M := 1) hL (zero_cur (n := ls.length) (k := k) (by omega)) (by decide) (by omega) (by omega) (by omega) (by omega) (by omega) (by omega) (by omega) (by omega) (by decide)
    rw [vAt_succ]
    have := zsub_D (N := 300000) (ih (by omega)) hM (by decide) (by omega) (by omega) (by omega) (by omega) (by omega) (by omega) (by omega) (by omega) (by decide)
    simpa using this
theorem noloss_D {v : ZV} {ls ds : List ZV} (h : Wr v ls ds) : ∀ k, k ≤ ls.length → Dz 12 0 (lAt (cs ls) (cs (zeros ls.length)) k) := by
  intro k
  induction k with
  | zero => intro _; exact (Dq.zero 12).cl
  | succ k ih =>
    intro hk
    obtain ⟨a, b, a1, a2, b1, b2, hL⟩ := line_D h (k := k) (by omega)
    have hZ := zsize_D (N := 1) (zero_cur (n := ls.length) (k := k) (by omega)) (by decide) (by omega) (by omega) (by omega) (by omega) (by decide)
    have hP := hZ.mul hL.1 (by decide) (by omega)
    rw [lAt_succ]
    have := (ih (by omega)).add hP (by decide) (by omega)
    simpa using this
end Go.Proofs.Ytapnidhokpkmdaa
