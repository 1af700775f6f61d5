/- The mathematics of all line-ups ahead. -/
import Derived.Test.YtggdejceobagcaaMB
namespace Go.Proofs.Ytggdejceobagcaa
open Go.RowKit

def At (l : List SingleV) (j : Nat) : SingleV := l.getD j SingleV.zero
def betw (a d x : Int) : Prop := (a ≤ x ∧ x ≤ d) ∨ (d ≤ x ∧ x ≤ a)
/-- A line-up that is as l up to place p, and somewhere on the way from l behind it. -/
structure InFrom (p : Nat) (l q : List SingleV) : Prop where
  same : ∀ j, j < p → At q j = At l j
  way : ∀ j, p ≤ j → j < 4 → (At q j).d = (At l j).d ∧ betw (At l j).s (At l j).d (At q j).s
structure Nice (l : List SingleV) : Prop where
  len : l.length = 4
  rng : ∀ j, j < 4 → 0 ≤ (At l j).s ∧ (At l j).s ≤ 8 ∧ 0 ≤ (At l j).d ∧ (At l j).d ≤ 8
/-- A train behind j moves. -/
def mv (t : SingleV) (j : Nat) : SingleV := ⟨if t.s ≤ t.d then t.s + j else t.s - j, t.d⟩
theorem mv_zero (t : SingleV) : mv t 0 = t := by unfold mv; split <;> simp
theorem mv_away {t : SingleV} {j : Nat} (h : j ≤ away t) : away (mv t j) = away t - j := by
  unfold away mv at *; dsimp only; split <;> omega
theorem mv_next {t : SingleV} {j : Nat} (h : j < away t) : (⟨nextS (mv t j), t.d⟩ : SingleV) = mv t (j + 1) ∧ (mv t j).s ≠ (mv t j).d := by
  unfold away at h
  unfold mv nextS
  refine ⟨?_, ?_⟩
  · congr 1
    dsimp only
    split <;> split <;> omega
  · dsimp only
    split <;> omega
theorem mv_betw {t : SingleV} {j : Nat} (h : j ≤ away t) : betw t.s t.d (mv t j).s := by
  unfold away at h
  unfold betw mv; dsimp only; split <;> omega
theorem mv_of_betw {t u : SingleV} (hd : u.d = t.d) (h : betw t.s t.d u.s) : ∃ j, j ≤ away t ∧ mv t j = u := by
  obtain ⟨us, ud⟩ := u
  obtain ⟨ts, td⟩ := t
  dsimp only at *
  subst hd
  unfold betw at h
  refine ⟨(us - ts).natAbs, ?_, ?_⟩
  · unfold away; dsimp only; omega
  · unfold mv; dsimp only; congr 1; split <;> omega
theorem At_set_same {l : List SingleV} {p : Nat} (hp : p < l.length) (x : SingleV) : At (l.set p x) p = x := by simp [At, List.getD, hp]
theorem At_set_other {l : List SingleV} {p j : Nat} (h : p ≠ j) (x : SingleV) : At (l.set p x) j = At l j := by simp [At, List.getD, List.getElem?_set_ne h]
theorem At_ext {l q : List SingleV} (hl : l.length = 4) (hq : q.length = 4) (h : ∀ j, j < 4 → At q j = At l j) : q = l := by
  apply List.ext_getElem (by omega)
  intro j h1 h2
  have := h j (by omega)
  simpa [At, List.getD, h1, h2] using this
theorem InFrom.four {l q : List SingleV} (hl : l.length = 4) (hq : q.length = 4) : InFrom 4 l q ↔ q = l :=
  ⟨fun h => At_ext hl hq h.same, fun h => by subst h; exact ⟨fun _ _ => rfl, fun j h1 h2 => by omega⟩⟩
theorem InFrom.at_p {p : Nat} {l q : List SingleV} {t : SingleV} (hl : p < l.length) (h : InFrom (p + 1) (l.set p t) q) : At q p = t := by
  rw [h.same p (by omega), At_set_same hl]
theorem InFrom.split {p : Nat} {l q : List SingleV} (hp : p < 4) (hl : l.length = 4) :
    InFrom p l q ↔ ∃ j, j ≤ away (At l p) ∧ InFrom (p + 1) (l.set p (mv (At l p) j)) q := by
  constructor
  · intro h
    obtain ⟨h1, h2⟩ := h.way p (Nat.le_refl _) hp
    obtain ⟨j, hj, e⟩ := mv_of_betw h1 h2
    refine ⟨j, hj, ⟨fun i hi => ?_, fun i hi hi4 => ?_⟩⟩
    · by_cases hip : p = i
      · subst hip; rw [At_set_same (by omega), e]
      · rw [At_set_other hip, h.same i (by omega)]
    · rw [At_set_other (by omega)]; exact h.way i (by omega) hi4
  · rintro ⟨j, hj, h⟩
    refine ⟨fun i hi => ?_, fun i hi hi4 => ?_⟩
    · rw [h.same i (by omega), At_set_other (by omega)]
    · by_cases hip : p = i
      · subst hip
        rw [h.at_p (by omega)]
        exact ⟨rfl, mv_betw hj⟩
      · have := h.way i (by omega) hi4
        rw [At_set_other hip] at this
        exact this
theorem far_drop {q : List SingleV} {p : Nat} (hp : p < q.length) : far (q.drop p) = away (At q p) + far (q.drop (p + 1)) := by
  have e : At q p = q[p] := by simp [At, List.getD, hp]
  rw [e, List.drop_eq_getElem_cons hp]
  unfold far
  rw [List.map_cons, List.sum_cons]
theorem far_drop4 {q : List SingleV} (hq : q.length = 4) : far (q.drop 4) = 0 := by
  rw [List.drop_of_length_le (by omega)]; rfl
theorem Nice.set {l : List SingleV} (h : Nice l) {p j : Nat} (hp : p < 4) (hj : j ≤ away (At l p)) : Nice (l.set p (mv (At l p) j)) := by
  refine ⟨by simp [h.len], fun i hi => ?_⟩
  by_cases e : p = i
  · subst e
    rw [At_set_same (by rw [h.len]; exact hp)]
    have := h.rng p hp
    have hb := mv_betw hj
    unfold betw at hb
    have hd : (mv (At l p) j).d = (At l p).d := rfl
    rw [hd]
    omega
  · rw [At_set_other e]; exact h.rng i hi
theorem Nice.away_le {l : List SingleV} (h : Nice l) {p : Nat} (hp : p < 4) : away (At l p) ≤ 8 := by
  have := h.rng p hp; unfold away; omega
/-- What all line-ups behind i moves of the train at p are told. -/
structure Told (p : Nat) (l : List SingleV) (left : Int) (j : Nat) (f f' : List SingleV → Option Int) : Prop where
  yes : ∀ q, Nice q → ∀ i, i < j → InFrom (p + 1) (l.set p (mv (At l p) i)) q → f' q = some (left + far (q.drop p))
  no : ∀ q, Nice q → (∀ i, i < j → ¬ InFrom (p + 1) (l.set p (mv (At l p) i)) q) → f' q = f q
structure TellAll (p : Nat) (l : List SingleV) (left : Int) (f f' : List SingleV → Option Int) : Prop where
  yes : ∀ q, Nice q → InFrom p l q → f' q = some (left + far (q.drop p))
  no : ∀ q, Nice q → ¬ InFrom p l q → f' q = f q
theorem Told.start (p : Nat) (l : List SingleV) (left : Int) (f : List SingleV → Option Int) : Told p l left 0 f f :=
  ⟨fun _ _ i hi => by omega, fun _ _ _ => rfl⟩
theorem Told.step {p : Nat} {l : List SingleV} {left : Int} {j : Nat} {f f' f'' : List SingleV → Option Int} (hp : p < 4) (hl : l.length = 4) (hj : j ≤ away (At l p)) (h : Told p l left j f f')
    (g : TellAll (p + 1) (l.set p (mv (At l p) j)) (left + ((away (At l p) - j : Nat) : Int)) f' f'') : Told p l left (j + 1) f f'' := by
  have val : ∀ q, Nice q → InFrom (p + 1) (l.set p (mv (At l p) j)) q → f'' q = some (left + far (q.drop p)) := by
    intro q hq hi
    rw [g.yes q hq hi]
    have e1 := hi.at_p (by omega)
    have e2 := far_drop (q := q) (p := p) (by rw [hq.len]; exact hp)
    rw [e1, mv_away hj] at e2
    rw [e2]
    congr 1
    omega
  refine ⟨fun q hq i hi hin => ?_, fun q hq hno => ?_⟩
  · by_cases hij : InFrom (p + 1) (l.set p (mv (At l p) j)) q
    · exact val q hq hij
    · rw [g.no q hq hij]
      by_cases e : i = j
      · subst e; exact absurd hin hij
      · exact h.yes q hq i (by omega) hin
  · rw [g.no q hq (hno j (by omega))]
    exact h.no q hq (fun i hi => hno i (by omega))
theorem Told.all {p : Nat} {l : List SingleV} {left : Int} {f f' : List SingleV → Option Int} (hp : p < 4) (hl : l.length = 4) (h : Told p l left (away (At l p) + 1) f f') : TellAll p l left f f' := by
  refine ⟨fun q hq hi => ?_, fun q hq hi => ?_⟩
  · obtain ⟨j, hj, hij⟩ := (InFrom.split hp hl).1 hi
    exact h.yes q hq j (by omega) hij
  · exact h.no q hq (fun j hj hij => hi ((InFrom.split hp hl).2 ⟨j, by omega, hij⟩))
theorem TellAll.four {l : List SingleV} (hl : Nice l) {left : Int} {f f' : List SingleV → Option Int} (h1 : f' l = some left) (h2 : ∀ q, Nice q → q ≠ l → f' q = f q) : TellAll 4 l left f f' := by
  refine ⟨fun q hq hi => ?_, fun q hq hi => ?_⟩
  · have := (InFrom.four hl.len hq.len).1 hi
    subst this
    rw [h1, far_drop4 hq.len]; simp
  · exact h2 q hq (fun e => hi ((InFrom.four hl.len hq.len).2 e))
end Go.Proofs.Ytggdejceobagcaa
