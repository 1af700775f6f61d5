/- Complex numbers of small quotients. -/
import Derived.Test.YtapnidhokpkmdaaZD
import Derived.Test.YtapnidhokpkmdaaFE
namespace Go.Proofs.Ytapnidhokpkmdaa
open Go.RowKit Fl

theorem mb {n m N M : Int} (h1 : -N ≤ n) (h2 : n ≤ N) (h3 : -M ≤ m) (h4 : m ≤ M) : -(N * M) ≤ n * m ∧ n * m ≤ N * M := by
  have a1 : n.natAbs ≤ N.natAbs := by omega
  have a2 : m.natAbs ≤ M.natAbs := by omega
  have a3 := Nat.mul_le_mul a1 a2
  rw [← Int.natAbs_mul, ← Int.natAbs_mul] at a3
  have hN : 0 ≤ N := by omega
  have hM : 0 ≤ M := by omega
  have := Int.mul_nonneg hN hM
  omega
/-- Both parts are quotients by 2 ^ k. -/
def DC (k : Nat) (x y : Int) (c : C2) : Prop := Dz k x c.1 ∧ Dz k y c.2
theorem zmul_D {k l : Nat} {x y u v : Int} {a b : C2} {N M : Int} (ha : DC k x y a) (hb : DC l u v b) (hk : k + l ≤ 1000) (x1 : -N ≤ x) (x2 : x ≤ N) (y1 : -N ≤ y) (y2 : y ≤ N) (u1 : -M ≤ u) (u2 : u ≤ M) (v1 : -M ≤ v) (v2 : v ≤ M) (hNM : N * M ≤ 2251799813685248) :
    DC (k + l) (x * u - y * v) (x * v + y * u) (zmul a b) := by
  have b1 := mb x1 x2 u1 u2
  have b2 := mb y1 y2 v1 v2
  have b3 := mb x1 x2 v1 v2
  have b4 := mb y1 y2 u1 u2
  exact ⟨Dz.sub (ha.1.mul hb.1 hk (by omega)) (ha.2.mul hb.2 hk (by omega)) hk (by omega), Dz.add (ha.1.mul hb.2 hk (by omega)) (ha.2.mul hb.1 hk (by omega)) hk (by omega)⟩
theorem zsize_D {k : Nat} {x y : Int} {a : C2} {N : Int} (ha : DC k x y a) (hk : k + k ≤ 1000) (x1 : -N ≤ x) (x2 : x ≤ N) (y1 : -N ≤ y) (y2 : y ≤ N) (hN : N * N ≤ 2251799813685248) : Dz (k + k) (x * x + y * y) (zsize a) := by
  have b1 := mb x1 x2 x1 x2
  have b2 := mb y1 y2 y1 y2
  exact Dz.add (ha.1.mul ha.1 hk (by omega)) (ha.2.mul ha.2 hk (by omega)) hk (by omega)
theorem zadd_D {k : Nat} {x y u v : Int} {a b : C2} {N : Int} (ha : DC k x y a) (hb : DC k u v b) (hk : k ≤ 1000) (x1 : -N ≤ x) (x2 : x ≤ N) (y1 : -N ≤ y) (y2 : y ≤ N) (u1 : -N ≤ u) (u2 : u ≤ N) (v1 : -N ≤ v) (v2 : v ≤ N) (hN : N ≤ 2251799813685248) : DC k (x + u) (y + v) (zadd a b) :=
  ⟨ha.1.add hb.1 hk (by omega), ha.2.add hb.2 hk (by omega)⟩
theorem zsub_D {k : Nat} {x y u v : Int} {a b : C2} {N : Int} (ha : DC k x y a) (hb : DC k u v b) (hk : k ≤ 1000) (x1 : -N ≤ x) (x2 : x ≤ N) (y1 : -N ≤ y) (y2 : y ≤ N) (u1 : -N ≤ u) (u2 : u ≤ N) (v1 : -N ≤ v) (v2 : v ≤ N) (hN : N ≤ 2251799813685248) : DC k (x - u) (y - v) (zsub a b) :=
  ⟨ha.1.sub hb.1 hk (by omega), ha.2.sub hb.2 hk (by omega)⟩
/-- Divided by a number whose size is a power of two. -/
theorem zdiv_D {k s : Nat} {x y u v : Int} {a b : C2} {N M : Int} (ha : DC k x y a) (hb : DC 0 u v b) (hsz : Dz 0 ((2 ^ s : Nat) : Int) (zsize b)) (hs : s ≤ 100) (hk : k + s ≤ 1000) (x1 : -N ≤ x) (x2 : x ≤ N) (y1 : -N ≤ y) (y2 : y ≤ N) (u1 : -M ≤ u) (u2 : u ≤ M) (v1 : -M ≤ v) (v2 : v ≤ M) (hNM : N * M ≤ 2251799813685248) :
    DC (k + s) (x * u + y * v) (y * u - x * v) (zdiv a b) := by
  have b1 := mb x1 x2 u1 u2
  have b2 := mb y1 y2 v1 v2
  have b3 := mb x1 x2 v1 v2
  have b4 := mb y1 y2 u1 u2
  have hk0 : k + 0 ≤ 1000 := by omega
  have c1 := Dz.add (ha.1.mul hb.1 hk0 (by omega)) (ha.2.mul hb.2 hk0 (by omega)) hk0 (by omega)
  have c2 := Dz.sub (ha.2.mul hb.1 hk0 (by omega)) (ha.1.mul hb.2 hk0 (by omega)) hk0 (by omega)
  exact ⟨Dz.div c1 hsz hs hk (by omega), Dz.div c2 hsz hs hk (by omega)⟩
theorem Dq.zero (k : Nat) : Dq k 0 0 := by
  refine ⟨?_, ?_⟩
  · unfold Fl.fin rg; decide
  · rw [Int.zero_mul]; unfold fv; rw [show rg 0 = 0 by unfold rg; omega, mg_zero]; simp
theorem Dq4 : Dq 0 ((2 ^ 2 : Nat) : Int) 4616189618054758400 := Dq.pow (by unfold rg; decide) (by unfold Fl.sg; decide) (by decide)
theorem Dq8 : Dq 0 ((2 ^ 3 : Nat) : Int) 4620693217682128896 := Dq.pow (by unfold rg; decide) (by unfold Fl.sg; decide) (by decide)
theorem Dq64 : Dq 0 ((2 ^ 6 : Nat) : Int) 4634204016564240384 := Dq.pow (by unfold rg; decide) (by unfold Fl.sg; decide) (by decide)
/-- An operation that is exact, as the walk takes it. -/
theorem fopD {op : BinOp} {x y r : Nat} (h : floatBits op .f64 x y = some r) : ∀ t w, (binOp op t (.float .f64 x) (.float .f64 y)).run Try.prog w = .ok (.float .f64 r) w :=
  fun t w => run_float_arith w op t .f64 x y r h
/-- A whole number by 2 ^ s. -/
theorem quoD {s c : Nat} (hc : Dq 0 ((2 ^ s : Nat) : Int) c) (hs : s ≤ 100) {n : Int} (h : -1000000 ≤ n ∧ n ≤ 1000000) : ∃ r, Dq s n r ∧ ∀ t w, (binOp .quo t (.float .f64 (floatOfInt .f64 n)) (.float .f64 c)).run Try.prog w = .ok (.float .f64 r) w := by
  obtain ⟨r, h1, h2⟩ := (Dq.conv (n := n) (by omega)).div hc hs (by omega) (by omega)
  rw [Nat.zero_add] at h2
  exact ⟨r, h2, fopD h1⟩
theorem cmp_self (n : Int) : compare n n = .eq := by
  show compareOfLessAndEq n n = _
  simp [compareOfLessAndEq]
/-- Two that are the same number. -/
theorem dz_same {k : Nat} {n : Int} {a b : Option Nat} (ha : Dz k n a) (hb : Dz k n b) : zc a b = some .eq := by rw [ha.cmp hb, cmp_self]
theorem eq_of {k : Nat} {n : Int} {x y : Nat} (ha : Dz k n (cl x)) (hb : Dz k n (cl y)) : FloatKind.f64.format.order x y = some .eq := by rw [order_cl]; exact dz_same ha hb
end Go.Proofs.Ytapnidhokpkmdaa
