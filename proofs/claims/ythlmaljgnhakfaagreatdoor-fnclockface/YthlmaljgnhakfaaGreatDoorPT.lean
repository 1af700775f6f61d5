/- Lists of trips joined: slices.Grow, slices.Concat; one trip more behind a list. -/
import Derived.Test.YthlmaljgnhakfaaGreatDoorQ
import Derived.Lib.AppendZeros
import Derived.Laws.AppendOwn
namespace Go.Proofs.YthlmaljgnhakfaaGreatDoor
open Go.RowKit
theorem own_ge {w : World} {base e sz n : Nat} {v : Value} {xs : List Value} (h : w.ownsRow base e sz v n xs) : ∀ k, v.ownBlock = some k → base ≤ k := fun k hk => (h.lt k hk).1
theorem add_offP (b off j : Nat) : (⟨b, off, none⟩ : Addr).add j = ⟨b, off + j, none⟩ := by
  by_cases h : j = 0
  · subst h; simp [Addr.add]
  · simp [Addr.add, h]
/-- The cells of a list of trips, pair by pair, from a place on. -/
def PairsAt (w : World) (a : Option Addr) (vs : List (Value × Value)) : Prop :=
  vs = [] ∨ ∃ b off, a = some ⟨b, off, none⟩ ∧ ∀ j u, (flatP vs)[j]? = some u → w.cell? ⟨b, off + j, none⟩ = some u
theorem PairsAt.below {w w1 : World} {a : Option Addr} {vs : List (Value × Value)} (h : PairsAt w a vs) (hb : Below w.heap.size w w1) : PairsAt w1 a vs := by
  rcases h with h | ⟨b, off, ha, hc⟩
  · exact .inl h
  · exact .inr ⟨b, off, ha, fun j u hu => ble hb (hc j u hu)⟩
/-- Each pair is a trip's two cells. -/
def TripsIn (w : World) (vs : List (Value × Value)) (ts : List TripV) : Prop := vs.length = ts.length ∧ ∀ i, (hi : i < vs.length) → TripIn w vs[i].1 vs[i].2 (ts.getD i TripV.zero)
theorem TripsIn.below {w w1 : World} {vs : List (Value × Value)} {ts : List TripV} (h : TripsIn w vs ts) (hb : Below w.heap.size w w1) : TripsIn w1 vs ts := ⟨h.1, fun i hi => (h.2 i hi).below hb⟩
theorem TripsIn.one {w : World} {vs : List (Value × Value)} {ts : List TripV} (h : TripsIn w vs ts) : ∀ u ∈ flatP vs, u.oneCell' = true := by
  intro u hu
  obtain ⟨j, hj, rfl⟩ := List.mem_iff_getElem.1 hu
  have hl := flatP_len vs
  have hi : j / 2 < vs.length := by omega
  obtain ⟨q1, q2⟩ := flatP_get vs (j / 2) hi
  obtain ⟨e1, a, c, e2, _, _⟩ := h.2 (j / 2) hi
  rcases Nat.mod_two_eq_zero_or_one j with hm | hm
  · have : j / 2 * 2 = j := by omega
    rw [this, List.getElem?_eq_getElem hj] at q1
    rw [Option.some.inj q1, e1]; rfl
  · have : j / 2 * 2 + 1 = j := by omega
    rw [this, List.getElem?_eq_getElem hj] at q2
    rw [Option.some.inj q2, e2]; rfl
theorem TripsIn.app {w : World} {vs us : List (Value × Value)} {ts ss : List TripV} (h : TripsIn w vs ts) (g : TripsIn w us ss) : TripsIn w (vs ++ us) (ts ++ ss) := by
  refine ⟨by simp [h.1, g.1], fun i hi => ?_⟩
  by_cases hlt : i < vs.length
  · have e : (ts ++ ss).getD i TripV.zero = ts.getD i TripV.zero := by
      have := h.1
      simp only [List.getD, List.getElem?_append_left (show i < ts.length by omega)]
    rw [e]
    simpa [List.getElem_append_left hlt] using h.2 i hlt
  · have hle : vs.length ≤ i := by omega
    have e : (ts ++ ss).getD i TripV.zero = ss.getD (i - vs.length) TripV.zero := by
      have := h.1
      simp only [List.getD, List.getElem?_append_right (show ts.length ≤ i by omega), this]
    rw [e]
    have hi2 : i - vs.length < us.length := by simp at hi; omega
    simpa [List.getElem_append_right hle] using g.2 _ hi2
theorem Trips.pairs {w : World} {a : Option Addr} {ts : List TripV} (h : Trips w a ts) : ∃ vs, PairsAt w a vs ∧ TripsIn w vs ts := by
  rcases h with h | ⟨b, off, ha, hc⟩
  · subst h
    exact ⟨[], .inl rfl, rfl, fun i hi => by simp at hi⟩
  have hx : ∀ i : Nat, ∃ q : Value × Value, i < ts.length → w.cell? ⟨b, off + i * 2, none⟩ = some q.1 ∧ w.cell? ⟨b, off + i * 2 + 1, none⟩ = some q.2 ∧ TripIn w q.1 q.2 (ts.getD i TripV.zero) := by
    intro i
    by_cases hi : i < ts.length
    · obtain ⟨va, vb, h1, h2, h3⟩ := hc i hi
      exact ⟨(va, vb), fun _ => ⟨h1, h2, h3⟩⟩
    · exact ⟨(.string ⟨#[]⟩, .slice none 0 0), fun h => absurd h hi⟩
  obtain ⟨q, hq⟩ := Classical.axiomOfChoice hx
  have hlen : ((List.range ts.length).map q).length = ts.length := by simp
  refine ⟨(List.range ts.length).map q, .inr ⟨b, off, ha, fun j u hu => ?_⟩, hlen, fun i hi => ?_⟩
  · have hj : j < (flatP ((List.range ts.length).map q)).length := by
      rcases Nat.lt_or_ge j (flatP ((List.range ts.length).map q)).length with h | h
      · exact h
      · rw [List.getElem?_eq_none h] at hu; cases hu
    rw [flatP_len, hlen] at hj
    have hi : j / 2 < ((List.range ts.length).map q).length := by rw [hlen]; omega
    obtain ⟨q1, q2⟩ := flatP_get ((List.range ts.length).map q) (j / 2) hi
    simp only [List.getElem_map, List.getElem_range] at q1 q2
    obtain ⟨c1, c2, _⟩ := hq (j / 2) (by omega)
    rcases Nat.mod_two_eq_zero_or_one j with hm | hm
    · have e : j / 2 * 2 = j := by omega
      rw [e] at q1 c1
      rw [q1] at hu; cases hu; exact c1
    · have e : j / 2 * 2 + 1 = j := by omega
      rw [e] at q2
      rw [Nat.add_assoc, e] at c2
      rw [q2] at hu; cases hu; exact c2
  · simp only [List.getElem_map, List.getElem_range]
    exact (hq i (by rw [hlen] at hi; exact hi)).2.2
theorem Trips.of_pairs {w : World} {base n c : Nat} {a : Option Addr} {vs : List (Value × Value)} {ts : List TripV} (h : w.ownsRow base 26 2 (.slice a n c) n (flatP vs)) (g : TripsIn w vs ts) : Trips w a ts := by
  have hl := h.1
  rw [flatP_len, g.1] at hl
  rcases h.2 with ⟨_, h0⟩ | ⟨gb, cap', cur, he, _⟩
  · left
    exact List.length_eq_zero_iff.1 (by omega)
  · simp only [Value.slice.injEq] at he
    obtain ⟨rfl, _, rfl⟩ := he
    refine .inr ⟨gb, 0, rfl, fun i hi => ?_⟩
    have hi' : i < vs.length := by have := g.1; omega
    obtain ⟨q1, q2⟩ := flatP_get vs i hi'
    refine ⟨_, _, ?_, ?_, g.2 i hi'⟩
    · rw [Nat.zero_add, h.cellAt _ (by omega)]; exact q1
    · rw [Nat.zero_add, h.cellAt _ (by omega)]; exact q2

/-- What Concat has put together behind k of two lists. -/
def preP (xs ys : List (Value × Value)) : Nat → List (Value × Value)
  | 0 => []
  | 1 => xs
  | _ => xs ++ ys
end Go.Proofs.YthlmaljgnhakfaaGreatDoor
