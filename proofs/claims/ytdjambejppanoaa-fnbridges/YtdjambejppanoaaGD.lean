/- Searching a net: what stands while the program looks for the best way, and for all that is reached: mathematics. -/
import Derived.Test.YtdjambejppanoaaGC
namespace Go.Proofs.Ytdjambejppanoaa
open Go.RowKit
/-- A way found by a search: where it ends, its length, its places. -/
structure TrialV where
  at_ : Int
  len : Int
  way : List Nat
def TrialV.zero : TrialV := ⟨0, 0, []⟩
/-- The steps that lead from a node: place, end and length, in the edges' order. -/
def stepsTo (es : List EdgeV) (x : Int) : Nat → List (Nat × Int × Int)
  | 0 => []
  | k + 1 => stepsTo es x k ++ (let e := es.getD k EdgeV.zero
      if e.a = x then [(k, e.b, e.l)] else if e.b = x then [(k, e.a, e.l)] else [])
def stepsOf (es : List EdgeV) (x : Int) : List (Nat × Int × Int) := stepsTo es x es.length
theorem stepsTo_len (es : List EdgeV) (x : Int) : ∀ k, (stepsTo es x k).length ≤ k
  | 0 => Nat.le_refl _
  | k + 1 => by
    have := stepsTo_len es x k
    unfold stepsTo
    rw [List.length_append]
    dsimp only
    split
    · simp; omega
    · split <;> simp <;> omega
theorem stepsTo_st {N : Int} {es : List EdgeV} (R : Rg N es) {x y l : Int} {p : Nat} : ∀ k, k ≤ es.length → ((p, y, l) ∈ stepsTo es x k ↔ p < k ∧ St es x p y l)
  | 0, _ => by simp [stepsTo]
  | k + 1, hk => by
    have ih := stepsTo_st R (x := x) (y := y) (l := l) (p := p) k (by omega)
    have e0 : es.getD k EdgeV.zero = es[k] := by simp [List.getD, show k < es.length by omega]
    have h3 := (R.nd k (by omega)).2.2.1
    unfold stepsTo
    rw [List.mem_append, ih, e0]
    dsimp only
    constructor
    · rintro (⟨h1, h2⟩ | h)
      · exact ⟨by omega, h2⟩
      · split at h
        · rename_i g
          simp only [List.mem_singleton, Prod.mk.injEq] at h
          obtain ⟨rfl, rfl, rfl⟩ := h
          exact ⟨by omega, by omega, .inl ⟨g, rfl⟩, rfl⟩
        · split at h
          · rename_i g
            simp only [List.mem_singleton, Prod.mk.injEq] at h
            obtain ⟨rfl, rfl, rfl⟩ := h
            exact ⟨by omega, by omega, .inr ⟨g, rfl⟩, rfl⟩
          · simp at h
    · rintro ⟨h1, h2⟩
      by_cases h : p < k
      · exact .inl ⟨h, h2⟩
      · obtain rfl : p = k := by omega
        obtain ⟨hp, hx, rfl⟩ := h2
        right
        rcases hx with ⟨g, rfl⟩ | ⟨g, rfl⟩
        · rw [if_pos g]; simp
        · rw [if_neg (fun e => h3 (e.trans g.symm)), if_pos g]; simp
theorem stepsOf_st {N : Int} {es : List EdgeV} (R : Rg N es) {x y l : Int} {p : Nat} : (p, y, l) ∈ stepsOf es x ↔ St es x p y l := by
  unfold stepsOf
  rw [stepsTo_st R es.length (Nat.le_refl _)]
  exact ⟨fun h => h.2, fun h => ⟨h.1, h⟩⟩
/-- A way from a node of D to one that is none of D leaves D somewhere. -/
theorem Way.leaves {es : List EdgeV} {x z L : Int} {ps : List Nat} (D : Int → Prop) (h : Way es x ps z L) (hx : D x) (hz : ¬ D z) :
    ∃ qs v p y l rs M K, ps = qs ++ p :: rs ∧ Way es x qs v M ∧ D v ∧ St es v p y l ∧ ¬ D y ∧ Way es y rs z K ∧ L = M + l + K := by
  induction h with
  | nil x => exact absurd hx hz
  | @cons x y z l L p ps s g ih =>
    by_cases hy : D y
    · obtain ⟨qs, v, p', y', l', rs, M, K, rfl, h1, h2, h3, h4, h5, rfl⟩ := ih hy hz
      exact ⟨p :: qs, v, p', y', l', rs, l + M, K, rfl, .cons s h1, h2, h3, h4, h5, by omega⟩
    · exact ⟨[], x, p, y, l, ps, 0, L, rfl, .nil x, hx, s, hy, g, by omega⟩
/-- What stands while the best way is looked for: D is done, H is the front. -/
structure DI (es : List EdgeV) (f : Int) (to : Int) (D : Int → Prop) (H : List TrialV) : Prop where
  real : ∀ t ∈ H, Way es f t.way t.at_ t.len
  best : ∀ v, D v → ∃ ps L, Best es f v ps L ∧ ∀ p y l, St es v p y l → D y ∨ ⟨y, L + l, ps ++ [p]⟩ ∈ H
  start : D f ∨ ⟨f, 0, []⟩ ∈ H
  away : ¬ D to
theorem DI.new (es : List EdgeV) (f to : Int) : DI es f to (fun _ => False) [⟨f, 0, []⟩] :=
  ⟨fun t ht => by simp at ht; subst ht; exact .nil f, fun v h => h.elim, .inr (by simp), fun h => h⟩
/-- The least of the front, where it ends at a node that isn't done, is the best way there. -/
theorem DI.least {N : Int} {es : List EdgeV} (R : Rg N es) {f to : Int} {D : Int → Prop} {H : List TrialV} (h : DI es f to D H) {t : TrialV} (ht : t ∈ H) (hm : ∀ u ∈ H, Kle t.len t.way u.len u.way) (hd : ¬ D t.at_) : Best es f t.at_ t.way t.len := by
  refine ⟨h.real t ht, fun qs M g => ?_⟩
  by_cases hf : D f
  · obtain ⟨ap, v, p, y, l, rs, A, K, rfl, h1, h2, h3, h4, h5, rfl⟩ := g.leaves D hf hd
    obtain ⟨ps, L, b1, b2⟩ := h.best v h2
    have b3 := (b2 p y l h3).resolve_left h4
    have k1 := hm _ b3
    have k2 := (b1.2 ap A h1).snoc l p
    have k3 := Kle.more (L := A + l) (ps := ap ++ [p]) (h5.low R).1
    have := (k1.trans k2).trans k3
    simpa using this
  · have k1 := hm _ (h.start.resolve_left hf)
    have k3 := Kle.more (L := 0) (ps := []) (g.low R).1
    have := k1.trans k3
    simpa using this
/-- One that ends at a done node is left out. -/
theorem DI.skip {es : List EdgeV} {f to : Int} {D : Int → Prop} {H H' : List TrialV} (h : DI es f to D H) {t : TrialV} (hd : D t.at_) (hH : ∀ u, u ∈ H ↔ u = t ∨ u ∈ H') : DI es f to D H' :=
  ⟨fun u hu => h.real u ((hH u).2 (.inr hu)), fun v hv => by
    obtain ⟨ps, L, b1, b2⟩ := h.best v hv
    refine ⟨ps, L, b1, fun p y l s => ?_⟩
    rcases b2 p y l s with g | g
    · exact .inl g
    · rcases (hH _).1 g with rfl | g
      · exact .inl hd
      · exact .inr g, by
    rcases h.start with g | g
    · exact .inl g
    · rcases (hH _).1 g with rfl | g
      · exact .inl hd
      · exact .inr g, h.away⟩
/-- The least is taken, its node is done, and its steps come to the front. -/
theorem DI.take {N : Int} {es : List EdgeV} (R : Rg N es) {f to : Int} {D : Int → Prop} {H H' H2 : List TrialV} (h : DI es f to D H) {t : TrialV} (hm : ∀ u ∈ H, Kle t.len t.way u.len u.way) (hd : ¬ D t.at_) (hne : t.at_ ≠ to)
    (hH : ∀ u, u ∈ H ↔ u = t ∨ u ∈ H') (h2 : ∀ u, u ∈ H2 ↔ u ∈ H' ∨ ∃ p y l, (p, y, l) ∈ stepsOf es t.at_ ∧ u = ⟨y, t.len + l, t.way ++ [p]⟩) : DI es f to (fun v => v = t.at_ ∨ D v) H2 := by
  have ht : t ∈ H := (hH t).2 (.inl rfl)
  have hb := h.least R ht hm hd
  refine ⟨fun u hu => ?_, fun v hv => ?_, ?_, fun hv => hv.elim (fun e => hne e.symm) h.away⟩
  · rcases (h2 u).1 hu with g | ⟨p, y, l, g, rfl⟩
    · exact h.real u ((hH u).2 (.inr g))
    · exact (h.real t ht).snoc ((stepsOf_st R).1 g)
  · rcases hv with rfl | hv
    · exact ⟨t.way, t.len, hb, fun p y l s => .inr ((h2 _).2 (.inr ⟨p, y, l, (stepsOf_st R).2 s, rfl⟩))⟩
    · obtain ⟨ps, L, b1, b2⟩ := h.best v hv
      refine ⟨ps, L, b1, fun p y l s => ?_⟩
      rcases b2 p y l s with g | g
      · exact .inl (.inr g)
      · rcases (hH _).1 g with rfl | g
        · exact .inl (.inl rfl)
        · exact .inr ((h2 _).2 (.inl g))
  · rcases h.start with g | g
    · exact .inl (.inr g)
    · rcases (hH _).1 g with rfl | g
      · exact .inl (.inl rfl)
      · exact .inr ((h2 _).2 (.inl g))
/-- Where the front is empty, there is no way. -/
theorem DI.none {es : List EdgeV} {f to : Int} {D : Int → Prop} (h : DI es f to D []) : ¬ ∃ ps L, Way es f ps to L := by
  rintro ⟨ps, L, hw⟩
  have hf : D f := h.start.resolve_right (by simp)
  obtain ⟨ap, v, p, y, l, rs, A, K, _, _, h2, h3, h4, _, _⟩ := hw.leaves D hf h.away
  obtain ⟨qs, M, _, b2⟩ := h.best v h2
  have := (b2 p y l h3).resolve_left h4
  simp at this
/-- What stands while all that is reached is looked for: K is known, Q is still to be gone on from. -/
structure RI (es : List EdgeV) (f : Int) (K : Int → Prop) (Q : List Int) : Prop where
  real : ∀ v, K v → ∃ ps L, Way es f ps v L
  known : ∀ v ∈ Q, K v
  shut : ∀ v, K v → v ∈ Q ∨ ∀ p y l, St es v p y l → K y
  start : K f
theorem RI.new (es : List EdgeV) (f : Int) : RI es f (fun v => v = f) [f] :=
  ⟨fun v h => by subst h; exact ⟨[], 0, .nil _⟩, fun v h => by simpa using h, fun v h => .inl (by simpa using h), rfl⟩
/-- In the midst of a round: the steps up to k from the first of the queue have been looked at. -/
structure RM (es : List EdgeV) (f : Int) (x : Int) (k : Nat) (K : Int → Prop) (Q : List Int) : Prop where
  real : ∀ v, K v → ∃ ps L, Way es f ps v L
  known : ∀ v ∈ Q, K v
  shut : ∀ v, K v → v ∈ Q ∨ v = x ∨ ∀ p y l, St es v p y l → K y
  start : K f
  here : K x
  seen : ∀ j, j < k → ∀ p y l, (stepsOf es x)[j]? = some (p, y, l) → K y
theorem RI.mid {es : List EdgeV} {f x : Int} {K : Int → Prop} {Q : List Int} (h : RI es f K (x :: Q)) : RM es f x 0 K Q :=
  ⟨h.real, fun v hv => h.known v (List.mem_cons_of_mem _ hv), fun v hv => by
    rcases h.shut v hv with g | g
    · rcases List.mem_cons.1 g with g | g
      · exact .inr (.inl g)
      · exact .inl g
    · exact .inr (.inr g), h.start, h.known x List.mem_cons_self, fun j hj => by omega⟩
theorem RM.old {es : List EdgeV} {f x y l : Int} {p k : Nat} {K : Int → Prop} {Q : List Int} (h : RM es f x k K Q) (hs : (stepsOf es x)[k]? = some (p, y, l)) (hy : K y) : RM es f x (k + 1) K Q :=
  ⟨h.real, h.known, h.shut, h.start, h.here, fun j hj q z m e => by
    by_cases hjk : j < k
    · exact h.seen j hjk q z m e
    · obtain rfl : j = k := by omega
      rw [hs] at e; cases e; exact hy⟩
theorem RM.new {N : Int} {es : List EdgeV} (R : Rg N es) {f x y l : Int} {p k : Nat} {K : Int → Prop} {Q : List Int} (h : RM es f x k K Q) (hs : (stepsOf es x)[k]? = some (p, y, l)) : RM es f x (k + 1) (fun v => v = y ∨ K v) (Q ++ [y]) := by
  have s := (stepsOf_st R).1 (List.mem_of_getElem? hs)
  refine ⟨fun v hv => ?_, fun v hv => ?_, fun v hv => ?_, .inr h.start, .inr h.here, fun j hj q z m e => ?_⟩
  · rcases hv with rfl | hv
    · obtain ⟨ps, L, g⟩ := h.real x h.here
      exact ⟨_, _, g.snoc s⟩
    · exact h.real v hv
  · rcases List.mem_append.1 hv with g | g
    · exact .inr (h.known v g)
    · exact .inl (by simpa using g)
  · rcases hv with rfl | hv
    · exact .inl (by simp)
    · rcases h.shut v hv with g | g | g
      · exact .inl (List.mem_append_left _ g)
      · exact .inr (.inl g)
      · exact .inr (.inr fun p y l s => .inr (g p y l s))
  · by_cases hjk : j < k
    · exact .inr (h.seen j hjk q z m e)
    · obtain rfl : j = k := by omega
      rw [hs] at e; cases e; exact .inl rfl
theorem RM.end {N : Int} {es : List EdgeV} (R : Rg N es) {f x : Int} {k : Nat} {K : Int → Prop} {Q : List Int} (h : RM es f x k K Q) (hk : (stepsOf es x).length ≤ k) : RI es f K Q :=
  ⟨h.real, h.known, fun v hv => by
    rcases h.shut v hv with g | rfl | g
    · exact .inl g
    · refine .inr fun p y l s => ?_
      obtain ⟨j, hj, e⟩ := List.getElem_of_mem ((stepsOf_st R).2 s)
      exact h.seen j (by omega) p y l (by rw [List.getElem?_eq_getElem hj, e])
    · exact .inr g, h.start⟩
theorem RI.all {es : List EdgeV} {f : Int} {K : Int → Prop} (h : RI es f K []) (v : Int) : K v ↔ ∃ ps L, Way es f ps v L := by
  refine ⟨h.real v, fun ⟨ps, L, hw⟩ => Classical.byContradiction fun hn => ?_⟩
  obtain ⟨ap, u, p, y, l, rs, A, M, _, _, h2, h3, h4, _, _⟩ := hw.leaves K h.start hn
  exact h4 (((h.shut u h2).resolve_left (by simp)) p y l h3)
end Go.Proofs.Ytdjambejppanoaa
