/- Legs of each trip, in rows of their own. -/
import Derived.Test.YthfknkmabjgklaaWS
import Derived.Test.YthfknkmabjgklaaNU
namespace Go.Proofs.Ythfknkmabjgklaa
open Go.RowKit
theorem own_otherT {w : World} {B B' e e' sz sz' n n' : Nat} {v v' : Value} {xs xs' : List Value} (h : w.ownsRow B e sz v n xs) (h' : w.ownsRow B' e' sz' v' n' xs') (hne : e ≠ e') : ∀ k, v.ownBlock = some k → some k ≠ v'.ownBlock := by
  intro k hk e1
  rcases h.2 with ⟨rfl, _⟩ | ⟨g, cap, cur, rfl, _, hh, _⟩
  · simp [Value.ownBlock] at hk
  · rcases h'.2 with ⟨rfl, _⟩ | ⟨g', cap', cur', rfl, _, hh', _⟩
    · simp [Value.ownBlock] at e1
    · simp [Value.ownBlock] at hk e1
      subst hk
      subst e1
      rw [hh] at hh'
      simp only [Option.some.injEq, Obj.cells.injEq] at hh'
      exact hne hh'.2.1
theorem own_apartL {w : World} {B e e' sz n b : Nat} {v : Value} {xs : List Value} {cs : Array Value} {f : Nat × Nat} (h : w.ownsRow B e sz v n xs) (hb : w.heap[b]? = some (.cells cs e' f)) (hne : e ≠ e') : ∀ k, v.ownBlock = some k → k ≠ b := by
  intro k hk e1
  subst e1
  rcases h.2 with ⟨rfl, _⟩ | ⟨g, cap, cur, rfl, _, hh, _⟩
  · simp [Value.ownBlock] at hk
  · simp [Value.ownBlock] at hk
    subst hk
    rw [hb] at hh
    simp only [Option.some.injEq, Obj.cells.injEq] at hh
    exact hne hh.2.1.symm
def rowU (us : List RideV) (i : Nat) : List RideV := us.filter fun u => decide (u.p = (i : Int))
theorem rowU_same {us : List RideV} {u : RideV} {i : Nat} (h : u.p = (i : Int)) : rowU (us ++ [u]) i = rowU us i ++ [u] := by simp [rowU, h]
theorem rowU_other {us : List RideV} {u : RideV} {i j : Nat} (h : u.p = (i : Int)) (hne : j ≠ i) : rowU (us ++ [u]) j = rowU us j := by
  have : ¬ ((i : Int) = (j : Int)) := by omega
  simp [rowU, h, this]
def legsV (es : List EdgeV) (ts : List TripV) (i : Nat) : List RideV := legsTo es i (clA ts i) ((clA ts i).length - 1)
theorem legs_p {es : List EdgeV} {i : Nat} {cs : List HaltV} {k : Nat} : ∀ u ∈ legsTo es i cs k, u.p = (i : Int) := by
  intro u hu
  obtain ⟨j, _, rfl⟩ := List.mem_map.1 hu
  rfl
theorem rowU_uses (es : List EdgeV) (ts : List TripV) (i : Nat) : ∀ k, rowU (usesTo es ts k) i = if i < k then legsV es ts i else [] := by
  intro k
  induction k with
  | zero => simp [usesTo, rowU]
  | succ k ih =>
    rw [usesTo_succ]
    unfold rowU at ih ⊢
    rw [List.filter_append, ih]
    by_cases h : i = k
    · subst h
      rw [if_neg (by omega), if_pos (by omega), List.nil_append]
      exact List.filter_eq_self.2 (fun u hu => by simp [legs_p u hu])
    · have h0 : (legsTo es k (clA ts k) ((clA ts k).length - 1)).filter (fun u => decide (u.p = (i : Int))) = [] := List.filter_eq_nil_iff.2 (fun u hu => by
        have := legs_p u hu
        simp; omega)
      rw [h0, List.append_nil]
      by_cases h1 : i < k
      · rw [if_pos h1, if_pos (by omega)]
      · rw [if_neg h1, if_neg (by omega)]
theorem uses_p {es : List EdgeV} {ts : List TripV} : ∀ k, ∀ u ∈ usesTo es ts k, ∃ i : Nat, i < k ∧ u.p = (i : Int) := by
  intro k
  induction k with
  | zero => intro u hu; simp [usesTo] at hu
  | succ k ih =>
    intro u hu
    rw [usesTo_succ] at hu
    rcases List.mem_append.1 hu with h | h
    · obtain ⟨i, h1, h2⟩ := ih u h
      exact ⟨i, by omega, h2⟩
    · exact ⟨k, by omega, legs_p u h⟩
/-- Rows of uses, one for each trip. -/
structure LegT (B B2 : Nat) (w : World) (g N : Nat) (vs : List Value) (us : List RideV) : Prop where
  own : w.ownsRow B 76 1 (.slice (some ⟨g, 0, none⟩) N N) N vs
  each : ∀ i, (hi : i < vs.length) → w.ownsRow B2 78 5 vs[i] (rowU us i).length (flatRides (rowU us i))
  pair : ∀ i j, (hi : i < vs.length) → (hj : j < vs.length) → i ≠ j → ∀ k, vs[i].ownBlock = some k → vs[j].ownBlock ≠ some k
theorem LegT.len {B B2 : Nat} {w : World} {g N : Nat} {vs : List Value} {us : List RideV} (h : LegT B B2 w g N vs us) : vs.length = N := by have := h.own.1; omega
theorem LegT.below {B B2 : Nat} {w w' : World} {g N : Nat} {vs : List Value} {us : List RideV} (h : LegT B B2 w g N vs us) (hb : Below w.heap.size w w') : LegT B B2 w' g N vs us :=
  ⟨own_keep h.own hb, fun i hi => own_keep (h.each i hi) hb, h.pair⟩
theorem LegT.step {B B2 : Nat} {wd w3 : World} {g N i gg gc : Nat} {vs : List Value} {us : List RideV} {u : RideV} {o : Obj} (h : LegT B B2 wd g N vs us) (hi : i < vs.length) (hp : u.p = (i : Int))
    (hown : w3.ownsRow B2 78 5 (.slice (some ⟨gg, 0, none⟩) ((rowU us i).length + 1) gc) ((rowU us i).length + 1) (flatRides (rowU us i) ++ u.vs)) (hgrow : (wd.alloc o).grownBy w3 vs[i].ownBlock) (hwh : vs[i].ownBlock = some gg ∨ gg = wd.heap.size + 1) :
    LegT B B2 (w3.setCell ⟨g, i, none⟩ (.slice (some ⟨gg, 0, none⟩) ((rowU us i).length + 1) gc)) g N (vs.set i (.slice (some ⟨gg, 0, none⟩) ((rowU us i).length + 1) gc)) (us ++ [u]) ∧ w3.cell? ⟨g, i, none⟩ = some vs[i] ∧ w3.frozen? ⟨g, i, none⟩ = false := by
  have hg : g < wd.heap.size := own_blk_lt h.own g rfl
  have O3 : w3.ownsRow B 76 1 (.slice (some ⟨g, 0, none⟩) N N) N vs := own_far (own_keep h.own (balloc wd o)) hgrow (own_otherT h.own (h.each i hi) (by decide))
  have hN := h.len
  have ci : w3.cell? ⟨g, i, none⟩ = some vs[i] := by rw [O3.cellAt i (by omega), List.getElem?_eq_getElem hi]
  refine ⟨⟨(O3.stored i _).1, fun j hj => ?_, fun j j' hj hj' hne k hk hk2 => ?_⟩, ci, O3.frozenAt i⟩
  · rw [List.length_set] at hj
    rw [List.getElem_set]
    split
    · rename_i e
      subst e
      rw [rowU_same hp, List.length_append, flatRides_app]
      have e2 : flatRides [u] = u.vs := by simp [flatRides]
      rw [e2]
      exact own_set hown (fun x hx e => own_otherT hown O3 (by decide) x hx (by rw [e]; rfl))
    · rename_i e
      rw [rowU_other hp (fun e2 => e e2.symm)]
      have h1 := own_far (own_keep (h.each j hj) (balloc wd o)) hgrow (fun x hx e2 => h.pair j i hj hi (fun e3 => e e3.symm) x hx e2.symm)
      exact own_set h1 (fun x hx e => own_otherT h1 O3 (by decide) x hx (by rw [e]; rfl))
  · rw [List.length_set] at hj hj'
    rw [List.getElem_set] at hk hk2
    have key : ∀ y, y ≠ i → (hy : y < vs.length) → vs[y].ownBlock = some k → (Value.slice (some ⟨gg, 0, none⟩) ((rowU us i).length + 1) gc).ownBlock ≠ some k := fun y hyi hy h1 h2 => by
      simp [Value.ownBlock] at h2
      subst h2
      rcases hwh with hw | hw
      · exact h.pair y i hy hi hyi gg h1 hw
      · have := own_blk_lt (h.each y hy) gg h1; omega
    split at hk
    · rename_i e
      split at hk2
      · omega
      · rename_i e2
        exact key j' (fun e3 => e2 e3.symm) hj' hk2 hk
    · rename_i e
      split at hk2
      · exact key j (fun e3 => e e3.symm) hj hk hk2
      · exact h.pair j j' hj hj' hne k hk hk2
end Go.Proofs.Ythfknkmabjgklaa
