/- The mathematics of the program's search: line-ups of four, the rest of them empty. -/
import Derived.Test.YtggdejceobagcaaMD
namespace Go.Proofs.Ytggdejceobagcaa
open Go.RowKit

def pad (ts : List SingleV) : List SingleV := ts ++ List.replicate (4 - ts.length) SingleV.zero
theorem pad_len {ts : List SingleV} (h : ts.length ≤ 4) : (pad ts).length = 4 := by simp [pad]; omega
theorem At_pad (ts : List SingleV) (j : Nat) : At (pad ts) j = At ts j := by
  unfold At pad
  by_cases h : j < ts.length
  · simp [List.getD, List.getElem?_append_left h]
  · have e : ts[j]? = none := List.getElem?_eq_none (by omega)
    rw [List.getD_eq_getElem?_getD, List.getD_eq_getElem?_getD, List.getElem?_append_right (by omega), e, List.getElem?_replicate]
    split <;> rfl
theorem At_ge {ts : List SingleV} {j : Nat} (h : ts.length ≤ j) : At ts j = SingleV.zero := by
  unfold At; rw [List.getD_eq_getElem?_getD, List.getElem?_eq_none h]; rfl
theorem At_lt {ts : List SingleV} {j : Nat} (h : j < ts.length) : At ts j = ts[j] := getD_lt h
theorem pad_inj {q ts : List SingleV} (hl : q.length = ts.length) (h : pad q = pad ts) : q = ts := by
  apply List.ext_getElem hl
  intro j h1 h2
  rw [← At_lt h1, ← At_lt h2, ← At_pad q, ← At_pad ts, h]
theorem far_app (a b : List SingleV) : far (a ++ b) = far a + far b := by simp [far]
theorem far_zero (n : Nat) : far (List.replicate n SingleV.zero) = 0 := by
  induction n with
  | zero => rfl
  | succ n ih => rw [List.replicate_succ]; simp only [far, List.map_cons, List.sum_cons] at ih ⊢; rw [ih]; rfl
theorem far_pad (ts : List SingleV) : far (pad ts) = far ts := by rw [pad, far_app, far_zero]; rfl
theorem pad_move {ts : List SingleV} {i : Nat} (h : i < ts.length) : pad (moveT ts i) = (pad ts).set i ⟨nextS (At ts i), (At ts i).d⟩ := by
  unfold pad
  rw [moveT_len, List.set_append_left _ _ h]
  rfl
theorem ok_nice {ls : List Int} {ts : List SingleV} (h : singlesOk ls ts = true) : Nice (pad ts) := by
  obtain ⟨p1, p2, p3⟩ := singlesOk_parts h
  have h5 := (lineOk_parts p1).2.2
  refine ⟨pad_len p2, fun j hj => ?_⟩
  rw [At_pad]
  by_cases hl : j < ts.length
  · rw [At_lt hl]
    have := trainOk_parts (p3 _ (List.getElem_mem hl))
    omega
  · rw [At_ge (by omega)]; simp [SingleV.zero]
/-- A line-up that the trains may come to. -/
structure Box (st q : List SingleV) : Prop where
  len : q.length = st.length
  way : ∀ j, j < 4 → (At q j).d = (At st j).d ∧ betw (At st j).s (At st j).d (At q j).s
theorem Box.inFrom {st q : List SingleV} (h : Box st q) : InFrom 0 (pad st) (pad q) :=
  ⟨fun j hj => by omega, fun j _ hj => by rw [At_pad, At_pad]; exact h.way j hj⟩
theorem Box.refl (st : List SingleV) : Box st st := ⟨rfl, fun j _ => ⟨rfl, by unfold betw; omega⟩⟩
theorem Box.move {ls : List Int} {st ts : List SingleV} {i : Nat} (h : Box st ts) (hi : i < ts.length) (hm : mayGo ls ts i = true) : Box st (moveT ts i) := by
  refine ⟨(moveT_len ts i).trans h.len, fun j hj => ?_⟩
  obtain ⟨h1, h2⟩ := h.way j hj
  by_cases e : i = j
  · subst e
    have hne := (mayGo_parts hi hm).1
    have e1 : At (moveT ts i) i = ⟨nextS ts[i], ts[i].d⟩ := by rw [moveT_eq hi, At_set_same hi]
    rw [At_lt hi] at h1 h2
    rw [e1]
    refine ⟨h1, ?_⟩
    unfold betw nextS at *
    dsimp only
    split <;> omega
  · have e1 : At (moveT ts i) j = At ts j := by rw [moveT_eq hi, At_set_other e]
    rw [e1]; exact ⟨h1, h2⟩
theorem Box.nice {st q : List SingleV} (hs : Nice (pad st)) (h : Box st q) (hl : st.length ≤ 4) : Nice (pad q) := by
  refine ⟨pad_len (by rw [h.len]; exact hl), fun j hj => ?_⟩
  have r := hs.rng j hj
  rw [At_pad] at r ⊢
  obtain ⟨h1, h2⟩ := h.way j hj
  unfold betw at h2
  omega
/-- What is told of the line-ups that are no farther than ts. -/
def Opn (ls : List Int) (st ts : List SingleV) (f : List SingleV → Option Int) : Prop :=
  ∀ q, Box st q → far q ≤ far ts → f (pad q) = some (far q : Int) ∨ (f (pad q) = none ∧ canFin ls q = false)
def NewOpn (ls : List Int) (st : List SingleV) (f f' : List SingleV → Option Int) : Prop :=
  ∀ q, Box st q → f' (pad q) = f (pad q) ∨ (f' (pad q) = none ∧ canFin ls q = false)
def NowOpn (ls : List Int) (st ts : List SingleV) (f f' : List SingleV → Option Int) : Prop :=
  ∀ q, Box st q → f' (pad q) = f (pad q) ∨ (f' (pad q) = none ∧ (canFin ls q = false ∨ q = ts))
theorem NowOpn.sub {ls : List Int} {st ts R : List SingleV} {f f' : List SingleV → Option Int} (h : NowOpn ls st ts f f') (g : Opn ls st ts f) (hf : far R < far ts) : Opn ls st R f' := by
  intro q hq hfq
  rcases h q hq with h1 | ⟨h1, h2 | h2⟩
  · rw [h1]; exact g q hq (by omega)
  · exact .inr ⟨h1, h2⟩
  · subst h2; omega
theorem NowOpn.step {ls : List Int} {st ts : List SingleV} {f f' f'' : List SingleV → Option Int} (h : NowOpn ls st ts f f') (g : NewOpn ls st f' f'') : NowOpn ls st ts f f'' := by
  intro q hq
  rcases g q hq with h1 | ⟨h1, h2⟩
  · rw [h1]; exact h q hq
  · exact .inr ⟨h1, .inl h2⟩
theorem NowOpn.done {ls : List Int} {st ts : List SingleV} {f f' : List SingleV → Option Int} (h : NowOpn ls st ts f f') (hc : canFin ls ts = false) : NewOpn ls st f f' := by
  intro q hq
  rcases h q hq with h1 | ⟨h1, h2 | h2⟩
  · exact .inl h1
  · exact .inr ⟨h1, h2⟩
  · subst h2; exact .inr ⟨h1, hc⟩
theorem NewOpn.refl (ls : List Int) (st : List SingleV) (f : List SingleV → Option Int) : NewOpn ls st f f := fun _ _ => .inl rfl
def movesOf (ls : List Int) (ts : List SingleV) (ms : List Int) : List Int := if canFin ls ts then ms ++ fin ls ts else ms
theorem movesOf_yes {ls : List Int} {ts : List SingleV} (ms : List Int) (h : canFin ls ts = true) : movesOf ls ts ms = ms ++ fin ls ts := by simp [movesOf, h]
theorem movesOf_no {ls : List Int} {ts : List SingleV} (ms : List Int) (h : canFin ls ts = false) : movesOf ls ts ms = ms := by simp [movesOf, h]
end Go.Proofs.Ytggdejceobagcaa
