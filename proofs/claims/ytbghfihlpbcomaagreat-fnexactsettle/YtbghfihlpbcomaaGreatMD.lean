/- The mathematics of the first clash: of a list, and of the uses of one edge in the order of their departure. -/
import Derived.Test.YtbghfihlpbcomaaGreatMB
namespace Go.Proofs.YtbghfihlpbcomaaGreat
open Go.RowKit
def rdA (us : List RideV) (i : Nat) : RideV := us.getD i RideV.zero
/-- Two uses of the list clash: the lesser place first. -/
def Hits (us : List RideV) (h : Int) (i j : Nat) : Prop := i < j ∧ j < us.length ∧ (rdA us i).p ≠ (rdA us j).p ∧ clashB (rdA us i) (rdA us j) h = true
def Ahead (i j i' j' : Int) : Prop := i < i' ∨ (i = i' ∧ j < j')
instance (i j i' j' : Int) : Decidable (Ahead i j i' j') := by unfold Ahead; infer_instance
/-- x and y are the places of the first clash, -1 and -1 where there is none. -/
def FirstC (us : List RideV) (h x y : Int) : Prop := (x = -1 ∧ y = -1 ∧ ∀ i j, ¬ Hits us h i j) ∨ ∃ i j : Nat, x = i ∧ y = j ∧ Hits us h i j ∧ ∀ i' j' : Nat, Hits us h i' j' → ¬ Ahead i' j' i j
def FirstAns (us : List RideV) (h x y : Int) : Prop := ((300 < us.length ∨ inB h 0 60 = false) ∧ x = -1 ∧ y = -1) ∨ (us.length ≤ 300 ∧ inB h 0 60 = true ∧ FirstC us h x y)
theorem FirstC.uniq {us : List RideV} {h x y x' y' : Int} (a : FirstC us h x y) (b : FirstC us h x' y') : x = x' ∧ y = y' := by
  rcases a with ⟨a1, a2, a3⟩ | ⟨i, j, a1, a2, a3, a4⟩ <;> rcases b with ⟨b1, b2, b3⟩ | ⟨i', j', b1, b2, b3, b4⟩
  · omega
  · exact absurd b3 (a3 _ _)
  · exact absurd a3 (b3 _ _)
  · have h1 := a4 _ _ b3
    have h2 := b4 _ _ a3
    unfold Ahead at h1 h2
    omega
theorem FirstAns.uniq {us : List RideV} {h x y x' y' : Int} (a : FirstAns us h x y) (b : FirstAns us h x' y') : x = x' ∧ y = y' := by
  rcases a with ⟨a1, a2, a3⟩ | ⟨a1, a2, a3⟩ <;> rcases b with ⟨b1, b2, b3⟩ | ⟨b1, b2, b3⟩
  · omega
  · rcases a1 with a1 | a1
    · omega
    · rw [a1] at b2; cases b2
  · rcases b1 with b1 | b1
    · omega
    · rw [b1] at a2; cases a2
  · exact a3.uniq b3
theorem FirstAns.sign {us : List RideV} {h x y : Int} (a : FirstAns us h x y) : -1 ≤ x := by
  rcases a with ⟨_, a2, _⟩ | ⟨_, _, ⟨a1, _⟩ | ⟨i, j, a1, _⟩⟩ <;> omega
/-- A use that knows its place. -/
structure PlV where
  u : RideV
  k : Int
def PlV.zero : PlV := ⟨RideV.zero, 0⟩
def PlV.vs (x : PlV) : List Value := x.u.vs ++ [.int .i64 x.k]
def PlV.val (x : PlV) : Value := .agg #[.int .i64 x.u.e, .int .i64 x.u.d, .int .i64 x.u.f, .int .i64 x.u.t, .int .i64 x.u.p, .int .i64 x.k]
/-- How two compare: by departure, then by place. -/
def cmpI (a b : Int) : Int := if a < b then -1 else if b < a then 1 else 0
def cmpP (a b : PlV) : Int := if cmpI a.u.f b.u.f = 0 then cmpI a.k b.k else cmpI a.u.f b.u.f
def Les (a b : PlV) : Prop := a.u.f < b.u.f ∨ (a.u.f = b.u.f ∧ a.k < b.k)
theorem cmpP_neg {a b : PlV} : cmpP a b < 0 ↔ Les a b := by
  unfold cmpP cmpI Les
  split <;> split <;> (try split) <;> omega
theorem cmpP_not {a b : PlV} (h : ¬ cmpP a b < 0) (hk : a.k ≠ b.k) : Les b a := by
  rw [cmpP_neg] at h
  unfold Les at *
  omega
theorem Les.trans {a b c : PlV} (h : Les a b) (g : Les b c) : Les a c := by unfold Les at *; omega
/-- Ranked: each comes ahead of all behind it. -/
def Ranked (rs : List PlV) : Prop := rs.Pairwise Les
theorem ranked_insert {rs : List PlV} {x : PlV} {p : Nat} (hr : Ranked rs) (hp : p ≤ rs.length) (h1 : ∀ t, t < p → cmpP (rs.getD t PlV.zero) x < 0) (h2 : ∀ t, p ≤ t → t < rs.length → ¬ cmpP (rs.getD t PlV.zero) x < 0) (hk : ∀ y ∈ rs, y.k ≠ x.k) :
    Ranked (rs.take p ++ x :: rs.drop p) := by
  have g : ∀ t, (ht : t < rs.length) → rs.getD t PlV.zero = rs[t] := fun t ht => by simp [List.getD, ht]
  unfold Ranked at *
  have hs : (rs.take p ++ rs.drop p).Pairwise Les := by rw [List.take_append_drop]; exact hr
  rw [List.pairwise_append] at hs ⊢
  obtain ⟨s1, s2, s3⟩ := hs
  have before : ∀ y ∈ rs.take p, Les y x := by
    intro y hy
    obtain ⟨t, ht, rfl⟩ := List.getElem_of_mem hy
    simp only [List.length_take] at ht
    have := h1 t (by omega)
    rw [g t (by omega), cmpP_neg] at this
    simpa using this
  have behind : ∀ y ∈ rs.drop p, Les x y := by
    intro y hy
    obtain ⟨t, ht, rfl⟩ := List.getElem_of_mem hy
    simp only [List.length_drop] at ht
    have := h2 (p + t) (by omega) (by omega)
    rw [g (p + t) (by omega)] at this
    simp only [List.getElem_drop]
    exact cmpP_not this (hk _ (List.getElem_mem _))
  refine ⟨s1, List.pairwise_cons.2 ⟨behind, s2⟩, ?_⟩
  intro a ha b hb
  rcases List.mem_cons.1 hb with rfl | hb
  · exact before a ha
  · exact s3 a ha b hb
/-- The ranked uses of edge e among the first k of the list. -/
def RowOf (us : List RideV) (k e : Nat) (rs : List PlV) : Prop := Ranked rs ∧ (∀ x ∈ rs, ∃ i : Nat, i < k ∧ x = ⟨rdA us i, i⟩ ∧ rideB (rdA us i) = true ∧ (rdA us i).e = e) ∧ ∀ i : Nat, i < k → rideB (rdA us i) = true → (rdA us i).e = e → (⟨rdA us i, i⟩ : PlV) ∈ rs
theorem RowOf.nil (us : List RideV) (e : Nat) : RowOf us 0 e [] := ⟨List.Pairwise.nil, fun x h => by simp at h, fun i h => by omega⟩
theorem RowOf.skip {us : List RideV} {k e : Nat} {rs : List PlV} (h : RowOf us k e rs) (g : ¬ (rideB (rdA us k) = true ∧ (rdA us k).e = e)) : RowOf us (k + 1) e rs := by
  obtain ⟨h1, h2, h3⟩ := h
  refine ⟨h1, fun x hx => ?_, fun i hi a b => ?_⟩
  · obtain ⟨i, a, b⟩ := h2 x hx
    exact ⟨i, by omega, b⟩
  · by_cases e : i = k
    · subst e; exact absurd ⟨a, b⟩ g
    · exact h3 i (by omega) a b
theorem RowOf.add {us : List RideV} {k e : Nat} {rs : List PlV} {p : Nat} (h : RowOf us k e rs) (g1 : rideB (rdA us k) = true) (g2 : (rdA us k).e = e) (hp : p ≤ rs.length)
    (h1 : ∀ t, t < p → cmpP (rs.getD t PlV.zero) ⟨rdA us k, k⟩ < 0) (h2 : ∀ t, p ≤ t → t < rs.length → ¬ cmpP (rs.getD t PlV.zero) ⟨rdA us k, k⟩ < 0) : RowOf us (k + 1) e (rs.take p ++ ⟨rdA us k, k⟩ :: rs.drop p) := by
  obtain ⟨q1, q2, q3⟩ := h
  have mem : ∀ y : PlV, y ∈ rs.take p ++ ⟨rdA us k, k⟩ :: rs.drop p ↔ y = ⟨rdA us k, k⟩ ∨ y ∈ rs := by
    intro y
    have e : y ∈ rs ↔ y ∈ rs.take p ∨ y ∈ rs.drop p := by rw [← List.mem_append, List.take_append_drop]
    rw [e]
    simp only [List.mem_append, List.mem_cons]
    constructor
    · rintro (h | h | h)
      · exact .inr (.inl h)
      · exact .inl h
      · exact .inr (.inr h)
    · rintro (h | h | h)
      · exact .inr (.inl h)
      · exact .inl h
      · exact .inr (.inr h)
  refine ⟨ranked_insert q1 hp h1 h2 ?_, ?_, ?_⟩
  · intro y hy
    obtain ⟨i, hi, rfl, _⟩ := q2 y hy
    simp only
    omega
  · intro x hx
    rcases (mem x).1 hx with rfl | hx
    · exact ⟨k, by omega, rfl, g1, g2⟩
    · obtain ⟨i, a, b⟩ := q2 x hx
      exact ⟨i, by omega, b⟩
  · intro i hi a b
    rw [mem]
    by_cases e : i = k
    · subst e; exact .inl rfl
    · exact .inr (q3 i (by omega) a b)
def plA (rs : List PlV) (i : Nat) : PlV := rs.getD i PlV.zero
/-- Two of the ranked clash. -/
def PHit (rs : List PlV) (h : Int) (p q : Nat) : Prop := p < q ∧ q < rs.length ∧ (plA rs p).u.p ≠ (plA rs q).u.p ∧ clashB (plA rs p).u (plA rs q).u h = true
def loK (rs : List PlV) (p q : Nat) : Int := min (plA rs p).k (plA rs q).k
def hiK (rs : List PlV) (p q : Nat) : Int := max (plA rs p).k (plA rs q).k
/-- The best of what was seen: (bi, bj) at first; seen: the couples that Seen holds of. -/
def BestOf (rs : List PlV) (h bi bj ri rj : Int) (Seen : Nat → Nat → Prop) : Prop := ((ri = bi ∧ rj = bj) ∨ ∃ p q, PHit rs h p q ∧ ri = loK rs p q ∧ rj = hiK rs p q) ∧ ¬ Ahead bi bj ri rj ∧ ∀ p q, PHit rs h p q → Seen p q → ¬ Ahead (loK rs p q) (hiK rs p q) ri rj
theorem BestOf.start (rs : List PlV) (h bi bj : Int) (S : Nat → Nat → Prop) (hS : ∀ p q, ¬ S p q) : BestOf rs h bi bj bi bj S := ⟨.inl ⟨rfl, rfl⟩, by unfold Ahead; omega, fun p q _ s => absurd s (hS p q)⟩
theorem BestOf.mono {rs : List PlV} {h bi bj ri rj : Int} {S T : Nat → Nat → Prop} (a : BestOf rs h bi bj ri rj S) (g : ∀ p q, PHit rs h p q → T p q → S p q) : BestOf rs h bi bj ri rj T := ⟨a.1, a.2.1, fun p q x y => a.2.2 p q x (g p q x y)⟩
theorem BestOf.take {rs : List PlV} {h bi bj ri rj : Int} {S T : Nat → Nat → Prop} {i j : Nat} (a : BestOf rs h bi bj ri rj S) (hh : PHit rs h i j) (hl : Ahead (loK rs i j) (hiK rs i j) ri rj) (g : ∀ p q, T p q → S p q ∨ (p = i ∧ q = j)) : BestOf rs h bi bj (loK rs i j) (hiK rs i j) T := by
  obtain ⟨-, a2, a3⟩ := a
  refine ⟨.inr ⟨i, j, hh, rfl, rfl⟩, ?_, ?_⟩
  · unfold Ahead at *; omega
  · intro p q x y
    rcases g p q y with s | ⟨rfl, rfl⟩
    · have := a3 p q x s
      unfold Ahead at *; omega
    · unfold Ahead; omega
theorem BestOf.keep {rs : List PlV} {h bi bj ri rj : Int} {S T : Nat → Nat → Prop} {i j : Nat} (a : BestOf rs h bi bj ri rj S) (hl : PHit rs h i j → ¬ Ahead (loK rs i j) (hiK rs i j) ri rj) (g : ∀ p q, T p q → S p q ∨ (p = i ∧ q = j)) : BestOf rs h bi bj ri rj T := by
  obtain ⟨a1, a2, a3⟩ := a
  refine ⟨a1, a2, ?_⟩
  intro p q x y
  rcases g p q y with s | ⟨rfl, rfl⟩
  · exact a3 p q x s
  · exact hl x
/-- Whoever leaves when a is gone by the headway can't clash with it. -/
theorem no_clash {a b : RideV} {h : Int} (hb : a.t + h ≤ b.f) : clashB a b h = false := by
  cases ha : rideB a
  · exact cB_a ha
  cases hb2 : rideB b
  · exact cB_b hb2
  cases hh : inB h 0 60
  · exact cB_h hh
  have i1 := rideB_iff.1 ha
  have i2 := rideB_iff.1 hb2
  have i3 := inB_true hh
  by_cases he : a.e = b.e
  · by_cases hd : a.d = b.d
    · rw [cB_eq ha hb2 hh he hd]
      have : leadB a b h = true := by simp only [leadB, Bool.and_eq_true, decide_eq_true_eq]; omega
      rw [this]; rfl
    · rw [cB_ne ha hb2 hh he hd]
      simp only [Bool.and_eq_false_iff, decide_eq_false_iff_not]; omega
  · exact cB_e he
theorem ranked_le {rs : List PlV} (hr : Ranked rs) {p q : Nat} (h1 : p ≤ q) (h2 : q < rs.length) : (plA rs p).u.f ≤ (plA rs q).u.f := by
  by_cases e : p = q
  · subst e; exact Int.le_refl _
  · have := (List.pairwise_iff_getElem.1 hr) p q (by omega) h2 (by omega)
    have g : ∀ t, (ht : t < rs.length) → plA rs t = rs[t] := fun t ht => by simp [plA, List.getD, ht]
    rw [g p (by omega), g q h2]
    unfold Les at this
    omega
theorem none_behind {rs : List PlV} (hr : Ranked rs) {h : Int} {i j : Nat} (hb : (plA rs i).u.t + h ≤ (plA rs j).u.f) {q : Nat} (hq : j ≤ q) : ¬ PHit rs h i q := by
  rintro ⟨h1, h2, h3, h4⟩
  have := ranked_le hr hq h2
  rw [no_clash (by omega)] at h4
  cases h4
theorem clashB_comm (a b : RideV) (h : Int) : clashB a b h = clashB b a h := by
  unfold clashB
  rw [Bool.eq_iff_iff]
  simp only [Bool.and_eq_true, decide_eq_true_eq]
  by_cases hd : a.d = b.d
  · simp only [hd, if_true, Bool.and_eq_true]
    constructor
    · rintro ⟨h1, h2, h3, h4, h5, h6⟩; exact ⟨h2, h1, h3, h4.symm, h6, h5⟩
    · rintro ⟨h1, h2, h3, h4, h5, h6⟩; exact ⟨h2, h1, h3, h4.symm, h6, h5⟩
  · have hd' : ¬ b.d = a.d := fun e => hd e.symm
    simp only [hd, hd', if_false, Bool.and_eq_true]
    constructor
    · rintro ⟨h1, h2, h3, h4, h5, h6⟩; exact ⟨h2, h1, h3, h4.symm, h6, h5⟩
    · rintro ⟨h1, h2, h3, h4, h5, h6⟩; exact ⟨h2, h1, h3, h4.symm, h6, h5⟩
theorem hits_edge {us : List RideV} {h : Int} {i j : Nat} (g : Hits us h i j) : rideB (rdA us i) = true ∧ rideB (rdA us j) = true ∧ (rdA us i).e = (rdA us j).e := by
  obtain ⟨_, _, _, g⟩ := g
  simp only [clashB, Bool.and_eq_true, decide_eq_true_eq] at g
  exact ⟨g.1, g.2.1, g.2.2.2.1⟩
/-- The best of all edges below e. -/
def BestTo (us : List RideV) (h : Int) (e : Nat) (bi bj : Int) : Prop := ((bi = us.length ∧ bj = us.length) ∨ ∃ i j : Nat, bi = i ∧ bj = j ∧ Hits us h i j) ∧ ∀ i j : Nat, Hits us h i j → (rdA us i).e < e → ¬ Ahead i j bi bj
theorem BestTo.start (us : List RideV) (h : Int) : BestTo us h 0 us.length us.length := ⟨.inl ⟨rfl, rfl⟩, fun i j g k => by
  have := rideB_iff.1 (hits_edge g).1
  omega⟩
theorem phit_hits {us : List RideV} {h : Int} {e : Nat} {rs : List PlV} (hR : RowOf us us.length e rs) {p q : Nat} (g : PHit rs h p q) : ∃ i j : Nat, loK rs p q = i ∧ hiK rs p q = j ∧ Hits us h i j := by
  obtain ⟨g1, g2, g3, g4⟩ := g
  obtain ⟨r1, r2, r3⟩ := hR
  have a : ∀ t, (ht : t < rs.length) → plA rs t = rs[t] := fun t ht => by simp [plA, List.getD, ht]
  have hl := (List.pairwise_iff_getElem.1 r1) p q (by omega) g2 g1
  obtain ⟨i, hi, ei, _, _⟩ := r2 rs[p] (List.getElem_mem _)
  obtain ⟨j, hj, ej, _, _⟩ := r2 rs[q] (List.getElem_mem _)
  rw [← a p (by omega)] at ei
  rw [← a q g2] at ej
  rw [← a p (by omega), ← a q g2, ei, ej] at hl
  rw [ei, ej] at g3 g4
  simp only at g3 g4
  unfold loK hiK
  rw [ei, ej]
  simp only
  have hne : i ≠ j := by rintro rfl; exact g3 rfl
  rcases Nat.lt_or_gt_of_ne hne with hlt | hgt
  · exact ⟨i, j, by omega, by omega, hlt, hj, g3, g4⟩
  · exact ⟨j, i, by omega, by omega, hgt, hi, fun e => g3 e.symm, by rw [clashB_comm]; exact g4⟩
theorem hits_phit {us : List RideV} {h : Int} {e : Nat} {rs : List PlV} (hR : RowOf us us.length e rs) {i j : Nat} (g : Hits us h i j) (he : (rdA us i).e = e) : ∃ p q, PHit rs h p q ∧ loK rs p q = i ∧ hiK rs p q = j := by
  obtain ⟨b1, b2, b3⟩ := hits_edge g
  obtain ⟨g1, g2, g3, g4⟩ := g
  obtain ⟨r1, r2, r3⟩ := hR
  have a : ∀ t, (ht : t < rs.length) → plA rs t = rs[t] := fun t ht => by simp [plA, List.getD, ht]
  obtain ⟨p, hp, ep⟩ := List.getElem_of_mem (r3 i (by omega) b1 he)
  obtain ⟨q, hq, eq⟩ := List.getElem_of_mem (r3 j g2 b2 (by rw [← b3]; exact he))
  rw [← a p hp] at ep
  rw [← a q hq] at eq
  have hne : p ≠ q := by
    rintro rfl
    rw [ep] at eq
    simp only [PlV.mk.injEq] at eq
    omega
  unfold loK hiK
  rcases Nat.lt_or_gt_of_ne hne with hlt | hgt
  · refine ⟨p, q, ⟨hlt, hq, ?_, ?_⟩, ?_, ?_⟩
    · rw [ep, eq]; exact g3
    · rw [ep, eq]; exact g4
    · rw [ep, eq]; simp only; omega
    · rw [ep, eq]; simp only; omega
  · refine ⟨q, p, ⟨hgt, hp, ?_, ?_⟩, ?_, ?_⟩
    · rw [ep, eq]; exact fun e => g3 e.symm
    · rw [ep, eq, clashB_comm]; exact g4
    · rw [ep, eq]; simp only; omega
    · rw [ep, eq]; simp only; omega
theorem BestTo.step {us : List RideV} {h : Int} {e : Nat} {bi bj ri rj : Int} {rs : List PlV} (a : BestTo us h e bi bj) (hR : RowOf us us.length e rs) (b : BestOf rs h bi bj ri rj (fun _ _ => True)) : BestTo us h (e + 1) ri rj := by
  obtain ⟨a1, a2⟩ := a
  obtain ⟨b1, b2, b3⟩ := b
  refine ⟨?_, ?_⟩
  · rcases b1 with ⟨rfl, rfl⟩ | ⟨p, q, g, rfl, rfl⟩
    · exact a1
    · obtain ⟨i, j, e1, e2, g2⟩ := phit_hits hR g
      exact .inr ⟨i, j, e1, e2, g2⟩
  · intro i j g k
    by_cases he : (rdA us i).e = e
    · obtain ⟨p, q, g2, e1, e2⟩ := hits_phit hR g he
      have := b3 p q g2 trivial
      rw [e1, e2] at this
      exact this
    · have := a2 i j g (by omega)
      unfold Ahead at *
      omega
theorem BestTo.done {us : List RideV} {h : Int} {bi bj : Int} (a : BestTo us h 60 bi bj) : (bi = us.length ∧ bj = us.length ∧ FirstC us h (-1) (-1)) ∨ (bi < us.length ∧ FirstC us h bi bj) := by
  obtain ⟨a1, a2⟩ := a
  have al : ∀ i j : Nat, Hits us h i j → ¬ Ahead i j bi bj := fun i j g => a2 i j g (by have := rideB_iff.1 (hits_edge g).1; omega)
  rcases a1 with ⟨rfl, rfl⟩ | ⟨i, j, rfl, rfl, g⟩
  · refine .inl ⟨rfl, rfl, .inl ⟨rfl, rfl, fun i j g => ?_⟩⟩
    have := al i j g
    obtain ⟨g1, g2, _⟩ := g
    unfold Ahead at this
    omega
  · refine .inr ⟨?_, .inr ⟨i, j, rfl, rfl, g, fun i' j' g' => al i' j' g'⟩⟩
    obtain ⟨g1, g2, _⟩ := g
    omega
end Go.Proofs.YtbghfihlpbcomaaGreat
