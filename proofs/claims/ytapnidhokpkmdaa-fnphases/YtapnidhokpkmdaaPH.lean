/- The mathematics of phases: sections joined by closed switches. -/
import Derived.Test.YtapnidhokpkmdaaA
namespace Go.Proofs.Ytapnidhokpkmdaa

/-- The phase of two pieces that are joined. -/
def jn (a b : Int) : Int := if a = 0 ∨ a = b then b else if b = 0 then a else 4
theorem jn_zero (b : Int) : jn 0 b = b := by simp [jn]
/-- What the last of the sections from the first one up to i has heard. -/
def fw (f : Nat → Int) (c : Nat → Bool) : Nat → Int
  | 0 => f 0
  | g + 1 => if c g then jn (fw f c g) (f (g + 1)) else f (g + 1)
/-- What a section is told that has m sections behind it. -/
def bwF (f : Nat → Int) (c : Nat → Bool) : Nat → Nat → Int
  | 0, i => fw f c i
  | m + 1, i => if c i then bwF f c m (i + 1) else fw f c i
def ph (f : Nat → Int) (c : Nat → Bool) (n i : Nat) : Int := bwF f c (n - 1 - i) i
theorem ph_last {f : Nat → Int} {c : Nat → Bool} {n i : Nat} (h : n ≤ i + 1) : ph f c n i = fw f c i := by
  unfold ph
  rw [show n - 1 - i = 0 by omega]; rfl
theorem ph_step {f : Nat → Int} {c : Nat → Bool} {n i : Nat} (h : i + 1 < n) : ph f c n i = if c i then ph f c n (i + 1) else fw f c i := by
  unfold ph
  rw [show n - 1 - i = (n - 1 - (i + 1)) + 1 by omega]; rfl
/-- Sections from a on, m of them. -/
def sgm (f : Nat → Int) (a : Nat) : Nat → Int
  | 0 => 0
  | m + 1 => jn (sgm f a m) (f (a + m))
structure IsLo (c : Nat → Bool) (i a : Nat) : Prop where
  le : a ≤ i
  all : ∀ j, a ≤ j → j < i → c j = true
  stop : a = 0 ∨ c (a - 1) = false
structure IsHi (c : Nat → Bool) (n i b : Nat) : Prop where
  le : i ≤ b
  lt : b < n
  all : ∀ j, i ≤ j → j < b → c j = true
  stop : b + 1 = n ∨ c b = false
theorem fw_sgm {f : Nat → Int} {c : Nat → Bool} {a : Nat} : ∀ i, IsLo c i a → fw f c i = sgm f a (i - a + 1) := by
  intro i
  induction i with
  | zero =>
    intro h
    obtain rfl : a = 0 := by have := h.le; omega
    simp [fw, sgm, jn_zero]
  | succ i ih =>
    intro h
    by_cases ha : a = i + 1
    · subst ha
      have hc : c i = false := by rcases h.stop with h | h; · omega
                                  · simpa using h
      simp [fw, hc, sgm, jn_zero]
    · have hle : a ≤ i := by have := h.le; omega
      have hc := h.all i hle (by omega)
      have := ih ⟨hle, fun j h1 h2 => h.all j h1 (by omega), h.stop⟩
      rw [show i + 1 - a + 1 = (i - a + 1) + 1 by omega]
      simp only [fw, hc, if_true, sgm, this]
      rw [show a + (i - a + 1) = i + 1 by omega]
theorem ph_hi {f : Nat → Int} {c : Nat → Bool} {n b : Nat} : ∀ m i, b - i = m → IsHi c n i b → ph f c n i = fw f c b := by
  intro m
  induction m with
  | zero =>
    intro i hm h
    obtain rfl : b = i := by have := h.le; omega
    rcases h.stop with hs | hs
    · exact ph_last (by omega)
    · by_cases hb : b + 1 < n
      · rw [ph_step hb, hs]; rfl
      · exact ph_last (by omega)
  | succ m ih =>
    intro i hm h
    have hc := h.all i (Nat.le_refl _) (by omega)
    rw [ph_step (by have := h.lt; omega), hc, if_pos rfl]
    exact ih (i + 1) (by omega) ⟨by omega, h.lt, fun j h1 h2 => h.all j (by omega) h2, h.stop⟩
theorem ph_sgm {f : Nat → Int} {c : Nat → Bool} {n i a b : Nat} (ha : IsLo c i a) (hb : IsHi c n i b) : ph f c n i = sgm f a (b - a + 1) := by
  rw [ph_hi _ _ rfl hb, fw_sgm b ⟨by have := ha.le; have := hb.le; omega, fun j h1 h2 => ?_, ha.stop⟩]
  by_cases h : j < i
  · exact ha.all j h1 h
  · exact hb.all j (by omega) h2
def fA (fs : List Int) (i : Nat) : Int := fs.getD i 0
def cA (qs : List Bool) (i : Nat) : Bool := qs.getD i false
def phB (fs : List Int) (qs : List Bool) : Bool := decide (fs.length ≤ 40) && fs.all (fun x => inB x 0 3) && decide (qs.length = fs.length - 1)
def phC (fs : List Int) (qs : List Bool) : List Int := if phB fs qs then (List.range fs.length).map (ph (fA fs) (cA qs) fs.length) else []
theorem phC_le (fs : List Int) (qs : List Bool) : (phC fs qs).length ≤ 40 := by
  unfold phC
  split
  · rename_i h
    simp only [phB, Bool.and_eq_true, decide_eq_true_eq] at h
    simp; omega
  · simp
/-- A row of n that tells f of the places up to k. -/
structure DoneI (n : Nat) (f : Nat → Int) (lo hi : Nat) (ys : List Int) : Prop where
  len : ys.length = n
  at' : ∀ j, lo ≤ j → j < hi → ys.getD j 0 = f j
theorem DoneI.ext {n : Nat} {f : Nat → Int} {ys : List Int} (h : DoneI n f 0 n ys) : ys = (List.range n).map f := by
  apply List.ext_getElem?
  intro j
  by_cases hj : j < n
  · have := h.at' j (Nat.zero_le _) hj
    have hj2 : j < ys.length := by rw [h.len]; exact hj
    simp only [List.getD, List.getElem?_eq_getElem hj2, Option.getD_some] at this
    simp [hj, hj2, this]
  · have hj2 : ¬ j < ys.length := by rw [h.len]; exact hj
    simp [hj2, hj]
/-- While the row is gone down: up to k it has heard, behind it is fed. -/
structure Dn (fs : List Int) (qs : List Bool) (k : Nat) (ys : List Int) : Prop where
  len : ys.length = fs.length
  at' : ∀ j, j ≤ k → j < fs.length → ys.getD j 0 = fw (fA fs) (cA qs) j
  rest : ∀ j, k < j → ys.getD j 0 = fA fs j
theorem Dn.zero (fs : List Int) (qs : List Bool) : Dn fs qs 0 fs := by
  refine ⟨rfl, fun j h _ => ?_, fun j _ => rfl⟩
  obtain rfl : j = 0 := by omega
  rfl
theorem Dn.open {fs : List Int} {qs : List Bool} {k : Nat} {ys : List Int} (h : Dn fs qs k ys) (hc : cA qs k = false) : Dn fs qs (k + 1) ys := by
  refine ⟨h.len, fun j hj hl => ?_, fun j hj => h.rest j (by omega)⟩
  by_cases e : j = k + 1
  · subst e
    rw [h.rest _ (by omega)]
    simp [fw, hc]
  · exact h.at' j (by omega) hl
theorem Dn.shut {fs : List Int} {qs : List Bool} {k : Nat} {ys : List Int} (h : Dn fs qs k ys) (hk : k + 1 < fs.length) (hc : cA qs k = true) : Dn fs qs (k + 1) (ys.set (k + 1) (jn (ys.getD k 0) (fA fs (k + 1)))) := by
  refine ⟨by simp [h.len], fun j hj hl => ?_, fun j hj => ?_⟩
  · by_cases e : j = k + 1
    · subst e
      have : k + 1 < ys.length := by rw [h.len]; exact hk
      have h1 := h.at' k (Nat.le_refl _) (by omega)
      rw [h1]
      simp [List.getD, this, fw, hc]
    · have h1 := h.at' j (by omega) hl
      rw [← h1]
      have : k + 1 ≠ j := fun x => e x.symm
      simp [List.getD, this]
  · have h1 := h.rest j (by omega)
    rw [← h1]
    have : k + 1 ≠ j := by omega
    simp [List.getD, this]
/-- While the row is gone back: from i on all are told, ahead of it they have heard. -/
structure Up (fs : List Int) (qs : List Bool) (i : Nat) (ys : List Int) : Prop where
  len : ys.length = fs.length
  at' : ∀ j, i ≤ j → j < fs.length → ys.getD j 0 = ph (fA fs) (cA qs) fs.length j
  rest : ∀ j, j < i → j < fs.length → ys.getD j 0 = fw (fA fs) (cA qs) j
theorem Dn.up {fs : List Int} {qs : List Bool} {k : Nat} {ys : List Int} (h : Dn fs qs k ys) (hk : fs.length ≤ k + 1) : Up fs qs k ys :=
  ⟨h.len, fun j h1 h2 => by rw [ph_last (by omega)]; exact h.at' j (by omega) h2, fun j h1 h2 => h.at' j (by omega) h2⟩
theorem Up.open {fs : List Int} {qs : List Bool} {i : Nat} {ys : List Int} (h : Up fs qs (i + 1) ys) (hi : i + 1 < fs.length) (hc : cA qs i = false) : Up fs qs i ys := by
  refine ⟨h.len, fun j h1 h2 => ?_, fun j h1 h2 => h.rest j (by omega) h2⟩
  by_cases e : j = i
  · subst e
    rw [ph_step hi, hc]
    exact h.rest j (by omega) h2
  · exact h.at' j (by omega) h2
theorem Up.shut {fs : List Int} {qs : List Bool} {i : Nat} {ys : List Int} (h : Up fs qs (i + 1) ys) (hi : i + 1 < fs.length) (hc : cA qs i = true) : Up fs qs i (ys.set i (ys.getD (i + 1) 0)) := by
  refine ⟨by simp [h.len], fun j h1 h2 => ?_, fun j h1 h2 => ?_⟩
  · by_cases e : j = i
    · subst e
      have : j < ys.length := by rw [h.len]; exact h2
      rw [ph_step hi, hc, if_pos rfl, ← h.at' (j + 1) (Nat.le_refl _) hi]
      simp [List.getD, this]
    · rw [← h.at' j (by omega) h2]
      have : i ≠ j := fun x => e x.symm
      simp [List.getD, this]
  · rw [← h.rest j (by omega) h2]
    have : i ≠ j := by omega
    simp [List.getD, this]
theorem Up.ext {fs : List Int} {qs : List Bool} {ys : List Int} (h : Up fs qs 0 ys) : ys = (List.range fs.length).map (ph (fA fs) (cA qs) fs.length) := DoneI.ext ⟨h.len, fun j _ h2 => h.at' j (Nat.zero_le _) h2⟩
theorem phB_iff (fs : List Int) (qs : List Bool) : phB fs qs = true ↔ fs.length ≤ 40 ∧ fs.all (fun x => inB x 0 3) = true ∧ qs.length = fs.length - 1 := by
  simp only [phB, Bool.and_eq_true, decide_eq_true_eq]
  exact ⟨fun ⟨⟨a, b⟩, c⟩ => ⟨a, b, c⟩, fun ⟨a, b, c⟩ => ⟨⟨a, b⟩, c⟩⟩
end Go.Proofs.Ytapnidhokpkmdaa
