/- Lists of telegrams as they lie in memory. -/
import Derived.Test.YtgnohomplehacaaTG
namespace Go.Proofs.Ytgnohomplehacaa
open Go.RowKit
/-- The cells behind a slice's address hold the telegrams ts. -/
def Tels (w : World) (a : Option Addr) (ts : List TelV) : Prop :=
  ts = [] ∨ ∃ b off, a = some ⟨b, off, none⟩ ∧ ∀ i, i < ts.length → ∃ na nc, w.cell? ⟨b, off + i * 3, none⟩ = some (.int .i64 (ts.getD i TelV.zero).q) ∧ w.cell? ⟨b, off + i * 3 + 1, none⟩ = some (.int .i64 (ts.getD i TelV.zero).k) ∧ w.cell? ⟨b, off + i * 3 + 2, none⟩ = some (.slice na (ts.getD i TelV.zero).b.length nc) ∧ (ts.getD i TelV.zero).b.length ≤ nc ∧ Bys w na (ts.getD i TelV.zero).b
theorem Tels.below {w w' : World} {a : Option Addr} {ts : List TelV} (h : Tels w a ts) (hb : Below w.heap.size w w') : Tels w' a ts := by
  rcases h with h | ⟨b, off, ha, hc⟩
  · exact .inl h
  · refine .inr ⟨b, off, ha, fun i hi => ?_⟩
    obtain ⟨na, nc, h1, h2, h3, h4, h5⟩ := hc i hi
    exact ⟨na, nc, ble hb h1, ble hb h2, ble hb h3, h4, h5.below hb⟩
/-- A telegram out of the list, opened. -/
theorem Tels.at {w : World} {a : Option Addr} {ts : List TelV} (h : Tels w a ts) {i : Nat} (hi : i < ts.length) :
    ∃ b off na nc, a = some ⟨b, off, none⟩ ∧ w.cell? ⟨b, off + i * 3, none⟩ = some (.int .i64 ts[i].q) ∧ w.cell? ⟨b, off + i * 3 + 1, none⟩ = some (.int .i64 ts[i].k) ∧
      w.cell? ⟨b, off + i * 3 + 2, none⟩ = some (.slice na ts[i].b.length nc) ∧ ts[i].b.length ≤ nc ∧ Bys w na ts[i].b := by
  rcases h with h | ⟨b, off, ha, hc⟩
  · simp [h] at hi
  · obtain ⟨na, nc, h1⟩ := hc i hi
    have e0 : ts.getD i TelV.zero = ts[i] := by simp [List.getD, hi]
    rw [e0] at h1
    exact ⟨b, off, na, nc, ha, h1⟩
/-- No list of it is longer than the law's own measure. -/
def Small (ts : List TelV) : Prop := ts.length ≤ 1048576 ∧ ∀ t ∈ ts, t.b.length ≤ 1048576
def Big (ts : List TelV) : Prop := ts.length ≤ maxLen ∧ ∀ t ∈ ts, t.b.length ≤ maxLen
def ByT (ts : List TelV) : Prop := ∀ t ∈ ts, By t.b
end Go.Proofs.Ytgnohomplehacaa
