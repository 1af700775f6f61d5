/- Lists of trips as they lie in memory. -/
import Derived.Test.YthlmaljgnhakfaaGreatDoorG
namespace Go.Proofs.YthlmaljgnhakfaaGreatDoor
open Go.RowKit
/-- A trip's two cells: its name, and its calls. -/
def TripIn (w : World) (va vb : Value) (t : TripV) : Prop :=
  va = .string t.name ∧ ∃ a c, vb = .slice a t.calls.length c ∧ t.calls.length ≤ c ∧ Halts w a t.calls
theorem TripIn.below {w w' : World} {va vb : Value} {t : TripV} (h : TripIn w va vb t) (hb : Below w.heap.size w w') : TripIn w' va vb t := by
  obtain ⟨h1, a, c, h2, h3, h4⟩ := h
  exact ⟨h1, a, c, h2, h3, h4.below hb⟩
/-- The cells behind a slice's address hold the trips ts. -/
def Trips (w : World) (a : Option Addr) (ts : List TripV) : Prop :=
  ts = [] ∨ ∃ b off, a = some ⟨b, off, none⟩ ∧ ∀ i, i < ts.length → ∃ va vb, w.cell? ⟨b, off + i * 2, none⟩ = some va ∧ w.cell? ⟨b, off + i * 2 + 1, none⟩ = some vb ∧ TripIn w va vb (ts.getD i TripV.zero)
theorem Trips.below {w w' : World} {a : Option Addr} {ts : List TripV} (h : Trips w a ts) (hb : Below w.heap.size w w') : Trips w' a ts := by
  rcases h with h | ⟨b, off, ha, hc⟩
  · exact .inl h
  · refine .inr ⟨b, off, ha, fun i hi => ?_⟩
    obtain ⟨va, vb, h1, h2, h3⟩ := hc i hi
    exact ⟨va, vb, ble hb h1, ble hb h2, h3.below hb⟩
/-- A trip out of the list, opened. -/
theorem Trips.at {w : World} {a : Option Addr} {ts : List TripV} (h : Trips w a ts) {i : Nat} (hi : i < ts.length) :
    ∃ b off n c, a = some ⟨b, off, none⟩ ∧ w.cell? ⟨b, off + i * 2, none⟩ = some (.string (ts.getD i TripV.zero).name) ∧
      w.cell? ⟨b, off + i * 2 + 1, none⟩ = some (.slice n (ts.getD i TripV.zero).calls.length c) ∧ (ts.getD i TripV.zero).calls.length ≤ c ∧ Halts w n (ts.getD i TripV.zero).calls := by
  rcases h with h | ⟨b, off, ha, hc⟩
  · simp [h] at hi
  · obtain ⟨va, vb, h1, h2, h3, n, c, h4, h5, h6⟩ := hc i hi
    rw [h3] at h1; rw [h4] at h2
    exact ⟨b, off, n, c, ha, h1, h2, h5, h6⟩
/-- No list of it is longer than the law's own measure. -/
def Small (ts : List TripV) : Prop := ts.length ≤ 1048576 ∧ ∀ t ∈ ts, t.name.size ≤ 1048576 ∧ t.calls.length ≤ 1048576
def Big (ts : List TripV) : Prop := ts.length ≤ maxLen ∧ ∀ t ∈ ts, t.name.size ≤ maxLen ∧ t.calls.length ≤ maxLen
end Go.Proofs.YthlmaljgnhakfaaGreatDoor
