/- Lists of trips: measured, copied, compared. -/
import Derived.Test.YthlmaljgnhakfaaGreatDoorV
import Derived.Test.YthlmaljgnhakfaaGreatDoorWA
namespace Go.Proofs.YthlmaljgnhakfaaGreatDoor
open Go.RowKit
def flatP (vs : List (Value × Value)) : List Value := vs.flatMap fun q => [q.1, q.2]
theorem flatP_cons (q : Value × Value) (vs : List (Value × Value)) : flatP (q :: vs) = q.1 :: q.2 :: flatP vs := rfl
theorem flatP_len (vs : List (Value × Value)) : (flatP vs).length = vs.length * 2 := by
  induction vs with
  | nil => rfl
  | cons e es ih => rw [flatP_cons]; simp only [List.length_cons, ih]; omega
theorem flatP_app (xs ys : List (Value × Value)) : flatP (xs ++ ys) = flatP xs ++ flatP ys := by simp [flatP]
theorem flatP_get (vs : List (Value × Value)) : ∀ i, (hi : i < vs.length) → (flatP vs)[i * 2]? = some vs[i].1 ∧ (flatP vs)[i * 2 + 1]? = some vs[i].2 := by
  induction vs with
  | nil => intro i hi; simp at hi
  | cons e es ih =>
    intro i hi
    rw [flatP_cons]
    cases i with
    | zero => simp
    | succ i =>
      have h := ih i (by simpa using hi)
      have e1 : (i + 1) * 2 = i * 2 + 1 + 1 := by omega
      rw [e1]
      simpa using h

def zeroT (n : Nat) : List Value := flatP (List.replicate n (.string ⟨#[]⟩, .slice none 0 0))
theorem zeroT_len (n : Nat) : (zeroT n).length = n * 2 := by unfold zeroT; rw [flatP_len]; simp
theorem zeroT_succ (n : Nat) : zeroT (n + 1) = .string ⟨#[]⟩ :: .slice none 0 0 :: zeroT n := by unfold zeroT; rw [List.replicate_succ, flatP_cons]
theorem infoTrip : (Tryz.prog.info? 26).map (fun i => (i.zero, i.size, i.bytes)) = some (some (.agg #[.string ⟨#[]⟩, .slice none 0 0]), 2, 40) := by kernel_rfl
theorem madeTrip (n : Nat) : (madeCells (Value.agg #[.string ⟨#[]⟩, .slice none 0 0]).cells (n * 2)).toList = zeroT n := by
  apply List.ext_getElem?
  intro j
  by_cases hj : j < n * 2
  · have h4 : j % 2 < 2 := Nat.mod_lt _ (by omega)
    have hd : j / 2 < (List.replicate n ((.string ⟨#[]⟩, .slice none 0 0) : Value × Value)).length := by simp; omega
    obtain ⟨g0, g1⟩ := flatP_get (List.replicate n (.string ⟨#[]⟩, .slice none 0 0)) (j / 2) hd
    unfold zeroT
    simp only [madeCells, Value.cells]
    generalize hq : j % 2 = q at h4
    match q, h4 with
    | 0, _ =>
      have e : j = j / 2 * 2 := by omega
      have ee := (congrArg (fun i => (flatP (List.replicate n ((.string ⟨#[]⟩, .slice none 0 0) : Value × Value)))[i]?) e).trans g0
      rw [ee]
      simp [hj, hq]
    | 1, _ =>
      have e : j = j / 2 * 2 + 1 := by omega
      have ee := (congrArg (fun i => (flatP (List.replicate n ((.string ⟨#[]⟩, .slice none 0 0) : Value × Value)))[i]?) e).trans g1
      rw [ee]
      simp [hj, hq]
  · rw [List.getElem?_eq_none (by simp [madeCells]; omega), List.getElem?_eq_none (by rw [zeroT_len]; omega)]
theorem stepTrip (vs : List (Value × Value)) (n k : Nat) (va vb : Value) (hv : vs.length = k) (hk : k < n) :
    ((flatP vs ++ zeroT (n - k)).set (k * 2) va).set (k * 2 + 1) vb = flatP (vs ++ [(va, vb)]) ++ zeroT (n - (k + 1)) := by
  have e1 : n - k = n - (k + 1) + 1 := by omega
  have e2 : (flatP vs).length = k * 2 := by rw [flatP_len, hv]
  rw [List.set_append_right _ _ (by omega), List.set_append_right _ _ (by omega), e2, e1, zeroT_succ, flatP_app]
  have a0 : k * 2 - k * 2 = 0 := by omega
  have a1 : k * 2 + 1 - k * 2 = 1 := by omega
  rw [a0, a1]
  simp [flatP]
/-- A trip whose calls are a row of its own, from lo on. -/
def TripOwn (w : World) (lo : Nat) (va vb : Value) (t : TripV) : Prop :=
  va = .string t.name ∧ ∃ a c, vb = .slice a t.calls.length c ∧ w.ownsRow lo 33 3 (.slice a t.calls.length c) t.calls.length (flatHalts t.calls)
theorem TripOwn.below {w w' : World} {lo : Nat} {va vb : Value} {t : TripV} (h : TripOwn w lo va vb t) (hb : Below w.heap.size w w') : TripOwn w' lo va vb t := by
  obtain ⟨h1, a, c, h2, h3⟩ := h
  exact ⟨h1, a, c, h2, own_keep h3 hb⟩
theorem TripOwn.set {w : World} {lo b i : Nat} {u va vb : Value} {t : TripV} (h : TripOwn w lo va vb t) (hb : b < lo) : TripOwn (w.setCell ⟨b, i, none⟩ u) lo va vb t := by
  obtain ⟨h1, a, c, h2, h3⟩ := h
  exact ⟨h1, a, c, h2, own_set h3 (fun k hk => by have := own_from h3 (Nat.le_refl _) k hk; omega)⟩
theorem TripOwn.read {w : World} {lo : Nat} {va vb : Value} {t : TripV} (h : TripOwn w lo va vb t) : TripIn w va vb t := by
  obtain ⟨h1, a, c, h2, h3⟩ := h
  exact ⟨h1, a, c, h2, by rcases h3.2 with ⟨h2, h0⟩ | ⟨g, cap, cur, hv, hg, hh, hc, r⟩
                          · omega
                          · simp only [Value.slice.injEq] at hv; omega, Halts.own h3⟩
/-- Trips that the call itself made: the list's own block lies ahead of all of theirs. -/
def TripsOwn (w : World) (g : Nat) (ts : List TripV) : Prop :=
  ∃ vs : List (Value × Value), vs.length = ts.length ∧ w.ownsRow g 26 2 (.slice (some ⟨g, 0, none⟩) ts.length ts.length) ts.length (flatP vs) ∧
    ∀ j, (hj : j < vs.length) → TripOwn w (g + 1) vs[j].1 vs[j].2 (ts.getD j TripV.zero)
theorem TripsOwn.below {w w' : World} {g : Nat} {ts : List TripV} (h : TripsOwn w g ts) (hb : Below w.heap.size w w') : TripsOwn w' g ts := by
  obtain ⟨vs, h1, h2, h3⟩ := h
  exact ⟨vs, h1, own_keep h2 hb, fun j hj => (h3 j hj).below hb⟩
theorem TripsOwn.read {w : World} {g : Nat} {ts : List TripV} (h : TripsOwn w g ts) : Trips w (some ⟨g, 0, none⟩) ts := by
  obtain ⟨vs, h1, h2, h3⟩ := h
  refine .inr ⟨g, 0, rfl, fun i hi => ?_⟩
  have hi' : i < vs.length := by omega
  obtain ⟨q1, q2⟩ := flatP_get vs i hi'
  refine ⟨_, _, ?_, ?_, (h3 i hi').read⟩
  · rw [Nat.zero_add, h2.cellAt _ (by omega)]; exact q1
  · rw [Nat.zero_add, h2.cellAt _ (by omega)]; exact q2

end Go.Proofs.YthlmaljgnhakfaaGreatDoor
