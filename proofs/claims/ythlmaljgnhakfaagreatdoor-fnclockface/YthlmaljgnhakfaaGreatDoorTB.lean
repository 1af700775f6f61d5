/- Lists of trips in rows of their own. -/
import Derived.Test.YthlmaljgnhakfaaGreatDoorPT
import Derived.Test.YthlmaljgnhakfaaGreatDoorJ
import Derived.Maps.AppendAt
namespace Go.Proofs.YthlmaljgnhakfaaGreatDoor
open Go.RowKit
theorem flatP_snoc (vs : List (Value × Value)) (q : Value × Value) : flatP (vs ++ [q]) = flatP vs ++ [q.1, q.2] := by simp [flatP]
theorem sm_app {ts : List TripV} {t : TripV} {i : Nat} (h : i < ts.length) : (ts ++ [t]).getD i TripV.zero = ts.getD i TripV.zero := by simp [List.getD, List.getElem?_append_left h]
theorem sm_end {ts : List TripV} {t : TripV} : (ts ++ [t]).getD ts.length TripV.zero = t := by simp [List.getD]
theorem own_other {w : World} {B B' e e' sz sz' n n' : Nat} {v v' : Value} {xs xs' : List Value} (h : w.ownsRow B e sz v n xs) (h' : w.ownsRow B' e' sz' v' n' xs') (hne : e ≠ e') : ∀ k, v.ownBlock = some k → some k ≠ v'.ownBlock := by
  intro k hk e1
  rcases h.2 with ⟨rfl, _⟩ | ⟨g, cap, cur, rfl, _, hh, _⟩
  · simp [Value.ownBlock] at hk
  · rcases h'.2 with ⟨rfl, _⟩ | ⟨g', cap', cur', rfl, _, hh', _⟩
    · simp [Value.ownBlock] at e1
    · simp [Value.ownBlock] at hk e1
      subst hk
      subst e1
      rw [hh] at hh'
      simp only [Option.some.injEq, Obj.cells.injEq] at hh'
      exact hne hh'.2.1
theorem tripOwn_far {w w' : World} {lo : Nat} {va vb : Value} {t : TripV} {r : Option Nat} (h : TripOwn w lo va vb t) (hg : w.grownBy w' r) (hne : ∀ k, vb.ownBlock = some k → r ≠ some k) : TripOwn w' lo va vb t := by
  obtain ⟨h1, a, c, h2, h3⟩ := h
  subst h2
  exact ⟨h1, a, c, rfl, own_far h3 hg (fun k hk e => hne k hk e.symm)⟩
theorem tripOwn_lt {w : World} {lo : Nat} {va vb : Value} {t : TripV} (h : TripOwn w lo va vb t) : ∀ k, vb.ownBlock = some k → lo ≤ k ∧ k < w.heap.size := by
  obtain ⟨h1, a, c, h2, h3⟩ := h
  subst h2
  intro k hk
  exact ⟨own_from h3 (Nat.le_refl _) k hk, own_blk_lt h3 k hk⟩
/-- A list of trips in rows of its own. -/
structure TabO (B : Nat) (wr : World) (v : Value) (vs : List (Value × Value)) (ts : List TripV) : Prop where
  own : wr.ownsRow B 26 2 v ts.length (flatP vs)
  len : vs.length = ts.length
  each : ∀ j, (hj : j < vs.length) → TripOwn wr B vs[j].1 vs[j].2 (ts.getD j TripV.zero)
  apart : ∀ j, (hj : j < vs.length) → ∀ k, vs[j].2.ownBlock = some k → v.ownBlock ≠ some k
  pair : ∀ i j, (hi : i < vs.length) → (hj : j < vs.length) → i ≠ j → ∀ k, vs[i].2.ownBlock = some k → vs[j].2.ownBlock ≠ some k
/-- A new trip's calls lie apart from all there are. -/
theorem pair_push {vs : List (Value × Value)} {va vb : Value} (h : ∀ i j, (hi : i < vs.length) → (hj : j < vs.length) → i ≠ j → ∀ k, vs[i].2.ownBlock = some k → vs[j].2.ownBlock ≠ some k) (hp : ∀ j, (hj : j < vs.length) → ∀ k, vs[j].2.ownBlock = some k → vb.ownBlock ≠ some k) :
    ∀ i j, (hi : i < (vs ++ [(va, vb)]).length) → (hj : j < (vs ++ [(va, vb)]).length) → i ≠ j → ∀ k, (vs ++ [(va, vb)])[i].2.ownBlock = some k → (vs ++ [(va, vb)])[j].2.ownBlock ≠ some k := by
  intro i j hi hj hne k hk hk2
  have key : ∀ j, (hj : j < vs.length) → (vs ++ [(va, vb)])[j]'(by simp; omega) = vs[j] := fun j hj => List.getElem_append_left hj
  have keyE : ∀ j (hj : j < (vs ++ [(va, vb)]).length), ¬ j < vs.length → (vs ++ [(va, vb)])[j].2 = vb := by
    intro j hj h1
    obtain rfl : j = vs.length := by simp at hj; omega
    simp
  by_cases h1 : i < vs.length <;> by_cases h2 : j < vs.length
  · rw [key i h1] at hk; rw [key j h2] at hk2; exact h i j h1 h2 hne k hk hk2
  · rw [key i h1] at hk; rw [keyE j hj h2] at hk2; exact hp i h1 k hk hk2
  · rw [keyE i hi h1] at hk; rw [key j h2] at hk2; exact hp j h2 k hk2 hk
  · simp at hi hj; omega
theorem TabO.nil (B : Nat) (w : World) : TabO B w (.slice none 0 0) [] [] := ⟨World.ownsRow_nil _ _ _ _, rfl, fun j hj => by simp at hj, fun j hj => by simp at hj, fun i j hi => by simp at hi⟩
theorem TabO.below {B : Nat} {wr w2 : World} {v : Value} {vs : List (Value × Value)} {ts : List TripV} (h : TabO B wr v vs ts) (hb : Below wr.heap.size wr w2) : TabO B w2 v vs ts :=
  ⟨own_keep h.own hb, h.len, fun j hj => (h.each j hj).below hb, h.apart, h.pair⟩
theorem tripOwn_read {w : World} {lo : Nat} {va vb : Value} {t : TripV} (h : TripOwn w lo va vb t) : TripIn w va vb t := by
  obtain ⟨h1, a, c, h2, h3⟩ := h
  exact ⟨h1, a, c, h2, own_cap h3, Halts.own h3⟩
theorem TabO.read {B : Nat} {wr : World} {v : Value} {vs : List (Value × Value)} {ts : List TripV} (h : TabO B wr v vs ts) : TripsIn wr vs ts := ⟨h.len, fun i hi => tripOwn_read (h.each i hi)⟩
theorem TabO.trips {B c : Nat} {wr : World} {a : Option Addr} {vs : List (Value × Value)} {ts : List TripV} (h : TabO B wr (.slice a ts.length c) vs ts) : Trips wr a ts := Trips.of_pairs h.own h.read
/-- One trip more. -/
theorem TabO.push {B : Nat} {wx w2 : World} {v v2 va vb : Value} {vs : List (Value × Value)} {ts : List TripV} {t : TripV} (hx' : TabO B wx v vs ts)
    (hown : w2.ownsRow B 26 2 v2 (ts.length + 1) (flatP vs ++ [va, vb])) (hgrow : wx.grownBy w2 v.ownBlock) (hwhere : v2.ownBlock = v.ownBlock ∨ v2.ownBlock = some wx.heap.size)
    (hT : TripOwn wx B va vb t) (hap : ∀ k, vb.ownBlock = some k → v.ownBlock ≠ some k) (hpr : ∀ j, (hj : j < vs.length) → ∀ k, vs[j].2.ownBlock = some k → vb.ownBlock ≠ some k) :
    TabO B w2 v2 (vs ++ [(va, vb)]) (ts ++ [t]) := by
  have hl := hx'.len
  have key : ∀ j, (hj : j < vs.length) → (vs ++ [(va, vb)])[j]'(by simp; omega) = vs[j] := fun j hj => List.getElem_append_left hj
  have keyE : (vs ++ [(va, vb)])[vs.length]'(by simp) = (va, vb) := by simp
  refine ⟨?_, by simp [hl], fun j hj => ?_, fun j hj k hk => ?_, pair_push hx'.pair hpr⟩
  · rw [flatP_snoc]; simpa using hown
  · by_cases hjl : j < vs.length
    · rw [key j hjl, sm_app (by omega)]
      exact tripOwn_far (hx'.each j hjl) hgrow (hx'.apart j hjl)
    · obtain rfl : j = vs.length := by simp at hj; omega
      rw [keyE, hl, sm_end]
      exact tripOwn_far hT hgrow hap
  · by_cases hjl : j < vs.length
    · rw [key j hjl] at hk
      rcases hwhere with hw | hw
      · rw [hw]; exact hx'.apart j hjl k hk
      · rw [hw]; intro e; have := (tripOwn_lt (hx'.each j hjl) k hk).2; simp at e; omega
    · obtain rfl : j = vs.length := by simp at hj; omega
      rw [keyE] at hk
      rcases hwhere with hw | hw
      · rw [hw]; exact hap k hk
      · rw [hw]; intro e; have := (tripOwn_lt hT k hk).2; simp at e; omega
theorem small_at {ts : List TripV} (h : Small ts) {k : Nat} (hk : k < ts.length) : (ts.getD k TripV.zero).name.size ≤ 1048576 ∧ (ts.getD k TripV.zero).calls.length ≤ 1048576 := by
  rw [show ts.getD k TripV.zero = ts[k] by simp [List.getD, hk]]
  exact h.2 _ (List.getElem_mem hk)
end Go.Proofs.YthlmaljgnhakfaaGreatDoor
