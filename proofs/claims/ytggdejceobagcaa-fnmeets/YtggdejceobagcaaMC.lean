/- The mathematics of the model's search: keys of line-ups, what was seen. -/
import Derived.Test.YtggdejceobagcaaMB
namespace Go.Proofs.Ytggdejceobagcaa
open Go.RowKit

def keyN (m : Int) (ts : List SingleV) : Int := ts.foldl (fun k t => k * m + t.s) 0
theorem keyN_snoc (m : Int) (ts : List SingleV) (t : SingleV) : keyN m (ts ++ [t]) = keyN m ts * m + t.s := by simp [keyN]
theorem keyN_take (m : Int) (ts : List SingleV) (k : Nat) (hk : k < ts.length) : keyN m (ts.take (k + 1)) = keyN m (ts.take k) * m + ts[k].s := by
  rw [List.take_succ_eq_append_getElem hk, keyN_snoc]
theorem snoc_cases (n : Nat) (ts : List SingleV) (h : ts.length = n + 1) : ∃ xs x, ts = xs ++ [x] ∧ xs.length = n := by
  have hne : ts ≠ [] := by intro e; subst e; simp at h
  refine ⟨ts.dropLast, ts.getLast hne, (List.dropLast_concat_getLast hne).symm, ?_⟩
  simp; omega
def Spots (m : Int) (ts : List SingleV) : Prop := ∀ t ∈ ts, 0 ≤ t.s ∧ t.s < m
theorem Spots.left {m : Int} {xs : List SingleV} {x : SingleV} (h : Spots m (xs ++ [x])) : Spots m xs ∧ 0 ≤ x.s ∧ x.s < m :=
  ⟨fun t ht => h t (by simp [ht]), h x (by simp)⟩
theorem keyN_rng {M : Nat} (hM : 0 < M) : ∀ (n : Nat) (ts : List SingleV), ts.length = n → Spots M ts → 0 ≤ keyN M ts ∧ keyN M ts < ((M ^ n : Nat) : Int) := by
  intro n
  induction n with
  | zero => intro ts h _; have := List.length_eq_zero_iff.1 h; subst this; simp [keyN]
  | succ n ih =>
    intro ts h hs
    obtain ⟨xs, x, rfl, hx⟩ := snoc_cases n ts h
    obtain ⟨s1, s2, s3⟩ := hs.left
    obtain ⟨i1, i2⟩ := ih xs hx s1
    rw [keyN_snoc]
    have h1 : 0 ≤ keyN M xs * (M : Int) := Int.mul_nonneg i1 (by omega)
    have h2 : (keyN M xs + 1) * (M : Int) ≤ ((M ^ n : Nat) : Int) * (M : Int) := Int.mul_le_mul_of_nonneg_right (by omega) (by omega)
    rw [Int.add_mul, Int.one_mul] at h2
    have h3 : ((M ^ (n + 1) : Nat) : Int) = ((M ^ n : Nat) : Int) * (M : Int) := by rw [Nat.pow_succ]; simp
    rw [h3]
    constructor <;> omega
theorem split_eq {a b m s t : Int} (hs0 : 0 ≤ s) (hs : s < m) (ht0 : 0 ≤ t) (ht : t < m) (h : a * m + s = b * m + t) : a = b ∧ s = t := by
  have e1 : (a * m + s) % m = s := by rw [Int.add_comm, Int.add_mul_emod_self_right]; exact Int.emod_eq_of_lt hs0 hs
  have e2 : (b * m + t) % m = t := by rw [Int.add_comm, Int.add_mul_emod_self_right]; exact Int.emod_eq_of_lt ht0 ht
  have e3 : s = t := by rw [← e1, ← e2, h]
  subst e3
  have e4 : a * m = b * m := by omega
  exact ⟨Int.eq_of_mul_eq_mul_right (by omega) e4, rfl⟩
theorem keyN_inj {M : Nat} : ∀ (n : Nat) (ts us : List SingleV), ts.length = n → us.length = n → Spots M ts → Spots M us → keyN M ts = keyN M us → ts.map (·.s) = us.map (·.s) := by
  intro n
  induction n with
  | zero => intro ts us h h2 _ _ _; rw [List.length_eq_zero_iff.1 h, List.length_eq_zero_iff.1 h2]
  | succ n ih =>
    intro ts us h h2 p q e
    obtain ⟨xs, x, rfl, hx⟩ := snoc_cases n ts h
    obtain ⟨ys, y, rfl, hy⟩ := snoc_cases n us h2
    obtain ⟨s1, s2, s3⟩ := p.left
    obtain ⟨t1, t2, t3⟩ := q.left
    rw [keyN_snoc, keyN_snoc] at e
    obtain ⟨e1, e2⟩ := split_eq s2 s3 t2 t3 e
    rw [List.map_append, List.map_append, ih xs ys hx hy s1 t1 e1]
    simp [e2]
/-- A line-up that the same trains can come to. -/
structure Kin (m : Int) (ts q : List SingleV) : Prop where
  len : q.length = ts.length
  goal : q.map (·.d) = ts.map (·.d)
  spots : Spots m q
theorem pair_ext : ∀ (ts us : List SingleV), ts.map (·.s) = us.map (·.s) → ts.map (·.d) = us.map (·.d) → ts = us := by
  intro ts
  induction ts with
  | nil => intro us h _; cases us with | nil => rfl | cons _ _ => simp at h
  | cons t ts ih =>
    intro us h1 h2
    cases us with
    | nil => simp at h1
    | cons u us =>
      simp only [List.map_cons, List.cons.injEq] at h1 h2
      obtain ⟨t1, t2⟩ := t
      obtain ⟨u1, u2⟩ := u
      dsimp only at *
      rw [ih us h1.2 h2.2, h1.1, h2.1]
theorem Kin.eq {M : Nat} {ts q r : List SingleV} (h : Kin M ts q) (g : Kin M ts r) (e : keyN M q = keyN M r) : q = r :=
  pair_ext _ _ (keyN_inj ts.length q r h.len g.len h.spots g.spots e) (h.goal.trans g.goal.symm)
theorem Kin.move {m : Int} {ts : List SingleV} (q : List SingleV) (i : Nat) (h : Kin m ts (moveT ts i)) : Kin m (moveT ts i) q ↔ Kin m ts q :=
  ⟨fun g => ⟨g.len.trans h.len, g.goal.trans h.goal, g.spots⟩, fun g => ⟨g.len.trans h.len.symm, g.goal.trans h.goal.symm, g.spots⟩⟩
theorem ok_kin {ls : List Int} {ts : List SingleV} (h : singlesOk ls ts = true) : Kin (2 * (ls.length : Int) - 1) ts ts :=
  ⟨rfl, rfl, fun t ht => by have := trainOk_parts ((singlesOk_parts h).2.2 t ht); omega⟩
theorem move_kin {ls : List Int} {ts : List SingleV} {i : Nat} (h : singlesOk ls ts = true) (hi : i < ts.length) (hm : mayGo ls ts i = true) : Kin (2 * (ls.length : Int) - 1) ts (moveT ts i) := by
  refine ⟨moveT_len ts i, ?_, (ok_kin (move_ok h hi hm)).spots⟩
  rw [moveT_eq hi]
  apply List.ext_getElem (by simp)
  intro j h1 h2
  simp only [List.getElem_map, List.getElem_set]
  split
  · next e => subst e; rfl
  · rfl
/-- What was seen so far: it is of no use, unless it is farther away. -/
def Seen (ls : List Int) (m : Int) (ts : List SingleV) (S : List Bool) : Prop :=
  ∀ q, Kin m ts q → far q < far ts → S.getD (keyN m q).toNat false = true → canFin ls q = false
/-- What is seen anew is of no use. -/
def NewSeen (ls : List Int) (m : Int) (ts : List SingleV) (S S' : List Bool) : Prop :=
  ∀ q, Kin m ts q → S'.getD (keyN m q).toNat false = true → S.getD (keyN m q).toNat false = true ∨ canFin ls q = false
/-- .. but for the line-up that is looked at. -/
def NowSeen (ls : List Int) (m : Int) (ts : List SingleV) (S S' : List Bool) : Prop :=
  ∀ q, Kin m ts q → S'.getD (keyN m q).toNat false = true → S.getD (keyN m q).toNat false = true ∨ canFin ls q = false ∨ q = ts
theorem NowSeen.start {ls : List Int} {M : Nat} (hM : 0 < M) {ts : List SingleV} (h : Kin M ts ts) (S : List Bool) : NowSeen ls M ts S (S.set (keyN M ts).toNat true) := by
  intro q hq hs
  by_cases e : (keyN M ts).toNat = (keyN M q).toNat
  · have r1 := keyN_rng hM _ ts rfl h.spots
    have r2 := keyN_rng hM _ q rfl hq.spots
    exact .inr (.inr (hq.eq h (by omega)))
  · rw [List.getD_eq_getElem?_getD, List.getElem?_set_ne e] at hs
    exact .inl (by rw [List.getD_eq_getElem?_getD]; exact hs)
theorem NowSeen.hit {ls : List Int} {m : Int} {ts R : List SingleV} {S S' : List Bool} (h : NowSeen ls m ts S S') (g : Seen ls m ts S) (hk : Kin m ts R) (hf : far R < far ts) (hs : S'.getD (keyN m R).toNat false = true) : canFin ls R = false := by
  rcases h R hk hs with h1 | h1 | h1
  · exact g R hk hf h1
  · exact h1
  · subst h1; omega
theorem NowSeen.sub {ls : List Int} {m : Int} {ts : List SingleV} {i : Nat} {S S' : List Bool} (h : NowSeen ls m ts S S') (g : Seen ls m ts S) (hk : Kin m ts (moveT ts i)) (hf : far (moveT ts i) < far ts) : Seen ls m (moveT ts i) S' := by
  intro q hq hfq hs
  have hq' := (Kin.move q i hk).1 hq
  exact h.hit g hq' (by omega) hs
theorem NowSeen.step {ls : List Int} {m : Int} {ts : List SingleV} {i : Nat} {S S' S'' : List Bool} (h : NowSeen ls m ts S S') (hk : Kin m ts (moveT ts i)) (g : NewSeen ls m (moveT ts i) S' S'') : NowSeen ls m ts S S'' := by
  intro q hq hs
  rcases g q ((Kin.move q i hk).2 hq) hs with h1 | h1
  · exact h q hq h1
  · exact .inr (.inl h1)
theorem NowSeen.done {ls : List Int} {m : Int} {ts : List SingleV} {S S' : List Bool} (h : NowSeen ls m ts S S') (hc : canFin ls ts = false) : NewSeen ls m ts S S' := by
  intro q hq hs
  rcases h q hq hs with h1 | h1 | h1
  · exact .inl h1
  · exact .inr h1
  · subst h1; exact .inr hc
end Go.Proofs.Ytggdejceobagcaa
