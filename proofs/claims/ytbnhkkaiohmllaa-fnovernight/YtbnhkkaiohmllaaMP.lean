/- Tasks that know their place, and their rank. -/
import Derived.Test.YtbnhkkaiohmllaaMA
namespace Go.Proofs.Ytbnhkkaiohmllaa
open Go.RowKit
/-- A task that knows its place. -/
structure PlV where
  u : TaskV
  k : Int
def PlV.zero : PlV := ⟨TaskV.zero, 0⟩
def PlV.vs (x : PlV) : List Value := x.u.vs ++ [.int .i64 x.k]
def PlV.val (x : PlV) : Value := .agg #[.int .i64 x.u.e, .int .i64 x.u.d, .int .i64 x.u.f, .int .i64 x.u.t, .int .i64 x.u.p, .int .i64 x.k]
/-- How two compare: by departure, then by place. -/
def cmpI (a b : Int) : Int := if a < b then -1 else if b < a then 1 else 0
def cmpP (a b : PlV) : Int := if cmpI a.u.f b.u.f = 0 then cmpI a.k b.k else cmpI a.u.f b.u.f
def Les (a b : PlV) : Prop := a.u.f < b.u.f ∨ (a.u.f = b.u.f ∧ a.k < b.k)
theorem cmpP_neg {a b : PlV} : cmpP a b < 0 ↔ Les a b := by
  unfold cmpP cmpI Les
  split <;> split <;> (try split) <;> omega
theorem cmpP_not {a b : PlV} (h : ¬ cmpP a b < 0) (hk : a.k ≠ b.k) : Les b a := by
  rw [cmpP_neg] at h
  unfold Les at *
  omega
theorem Les.trans {a b c : PlV} (h : Les a b) (g : Les b c) : Les a c := by unfold Les at *; omega
/-- Ranked: each comes ahead of all behind it. -/
def Ranked (rs : List PlV) : Prop := rs.Pairwise Les
theorem ranked_insert {rs : List PlV} {x : PlV} {p : Nat} (hr : Ranked rs) (hp : p ≤ rs.length) (h1 : ∀ t, t < p → cmpP (rs.getD t PlV.zero) x < 0) (h2 : ∀ t, p ≤ t → t < rs.length → ¬ cmpP (rs.getD t PlV.zero) x < 0) (hk : ∀ y ∈ rs, y.k ≠ x.k) :
    Ranked (rs.take p ++ x :: rs.drop p) := by
  have g : ∀ t, (ht : t < rs.length) → rs.getD t PlV.zero = rs[t] := fun t ht => by simp [List.getD, ht]
  unfold Ranked at *
  have hs : (rs.take p ++ rs.drop p).Pairwise Les := by rw [List.take_append_drop]; exact hr
  rw [List.pairwise_append] at hs ⊢
  obtain ⟨s1, s2, s3⟩ := hs
  have before : ∀ y ∈ rs.take p, Les y x := by
    intro y hy
    obtain ⟨t, ht, rfl⟩ := List.getElem_of_mem hy
    simp only [List.length_take] at ht
    have := h1 t (by omega)
    rw [g t (by omega), cmpP_neg] at this
    simpa using this
  have behind : ∀ y ∈ rs.drop p, Les x y := by
    intro y hy
    obtain ⟨t, ht, rfl⟩ := List.getElem_of_mem hy
    simp only [List.length_drop] at ht
    have := h2 (p + t) (by omega) (by omega)
    rw [g (p + t) (by omega)] at this
    simp only [List.getElem_drop]
    exact cmpP_not this (hk _ (List.getElem_mem _))
  refine ⟨s1, List.pairwise_cons.2 ⟨behind, s2⟩, ?_⟩
  intro a ha b hb
  rcases List.mem_cons.1 hb with rfl | hb
  · exact before a ha
  · exact s3 a ha b hb

def plOf (ts : List TaskV) (i : Nat) : PlV := ⟨tkA ts i, i⟩
theorem les_iff {ts : List TaskV} {i j : Nat} : Les (plOf ts i) (plOf ts j) ↔ before ts i j := by unfold Les before plOf; simp only; omega
/-- The rank of the first k tasks. -/
def RkTo (ts : List TaskV) (k : Nat) (rs : List PlV) : Prop := Ranked rs ∧ (∀ x ∈ rs, ∃ i : Nat, i < k ∧ x = plOf ts i) ∧ (∀ i : Nat, i < k → plOf ts i ∈ rs) ∧ rs.length = k
theorem RkTo.nil (ts : List TaskV) : RkTo ts 0 [] := ⟨List.Pairwise.nil, fun x h => by simp at h, fun i h => by omega, rfl⟩
theorem RkTo.add {ts : List TaskV} {k p : Nat} {rs : List PlV} (h : RkTo ts k rs) (hp : p ≤ rs.length) (h1 : ∀ t, t < p → Les (rs.getD t PlV.zero) (plOf ts k)) (h2 : ∀ t, p ≤ t → t < rs.length → ¬ Les (rs.getD t PlV.zero) (plOf ts k)) : RkTo ts (k + 1) (rs.take p ++ plOf ts k :: rs.drop p) := by
  obtain ⟨a, b, c, d⟩ := h
  have mem : ∀ y : PlV, y ∈ rs.take p ++ plOf ts k :: rs.drop p ↔ y = plOf ts k ∨ y ∈ rs := by
    intro y
    rw [List.mem_append, List.mem_cons]
    conv => rhs; rw [← List.take_append_drop p rs, List.mem_append]
    constructor
    · rintro (h | h | h)
      · exact .inr (.inl h)
      · exact .inl h
      · exact .inr (.inr h)
    · rintro (h | h | h)
      · exact .inr (.inl h)
      · exact .inl h
      · exact .inr (.inr h)
  refine ⟨ranked_insert a hp (fun t ht => cmpP_neg.2 (h1 t ht)) (fun t ht1 ht2 hc => h2 t ht1 ht2 (cmpP_neg.1 hc)) (fun y hy e => ?_), fun x hx => ?_, fun i hi => ?_, ?_⟩
  · obtain ⟨i, hi, rfl⟩ := b y hy
    simp only [plOf] at e; omega
  · rcases (mem x).1 hx with rfl | hx
    · exact ⟨k, by omega, rfl⟩
    · obtain ⟨i, hi, e⟩ := b x hx
      exact ⟨i, by omega, e⟩
  · by_cases e : i = k
    · subst e; exact (mem _).2 (.inl rfl)
    · exact (mem _).2 (.inr (c i (by omega)))
  · simp only [List.length_append, List.length_cons, List.length_take, List.length_drop]; omega
theorem RkTo.ord {ts : List TaskV} {rs : List PlV} (h : RkTo ts ts.length rs) : ∃ os, Ord ts os ∧ rs = os.map (plOf ts) := by
  obtain ⟨a, b, c, d⟩ := h
  have e : rs = (rs.map (fun x => x.k.toNat)).map (plOf ts) := by
    rw [List.map_map]
    conv => lhs; rw [← List.map_id rs]
    refine List.map_congr_left (fun x hx => ?_)
    obtain ⟨i, hi, rfl⟩ := b x hx
    simp [plOf]
  refine ⟨rs.map (fun x => x.k.toNat), ⟨?_, fun i => ?_⟩, e⟩
  · rw [List.pairwise_map]
    refine a.imp_of_mem (fun {x y} hx hy hl => ?_)
    obtain ⟨i, hi, rfl⟩ := b x hx
    obtain ⟨j, hj, rfl⟩ := b y hy
    have := les_iff.1 hl
    simpa [plOf] using this
  · rw [List.mem_map]
    constructor
    · rintro ⟨x, hx, rfl⟩
      obtain ⟨i, hi, rfl⟩ := b x hx
      simpa [plOf] using hi
    · intro hi
      exact ⟨_, c i hi, by simp [plOf]⟩
end Go.Proofs.Ytbnhkkaiohmllaa
