/- Sidings and shunts as values. -/
import Derived.Test.YtjbecnflpfjicaaB
import Derived.Test.YtjbecnflpfjicaaMS
namespace Go.Proofs.Ytjbecnflpfjicaa
open Go.RowKit
def IntV (w : World) (v : Value) (xs : List Int) : Prop := ∃ a c, v = .slice a xs.length c ∧ Ints w a xs ∧ xs.length ≤ c
theorem IntV.below {w w' : World} {v : Value} {xs : List Int} (h : IntV w v xs) (hb : Below w.heap.size w w') : IntV w' v xs := by
  obtain ⟨a, c, h1, h2, h3⟩ := h
  exact ⟨a, c, h1, h2.below hb, h3⟩
/-- The cells behind a slice's address hold rows. -/
structure RowsW (w : World) (a : Option Addr) (vs : List Value) (xss : List (List Int)) : Prop where
  len : vs.length = xss.length
  cell : xss = [] ∨ ∃ b off, a = some ⟨b, off, none⟩ ∧ ∀ i, (hi : i < vs.length) → w.cell? ⟨b, off + i, none⟩ = some vs[i]
  each : ∀ i, (hi : i < vs.length) → IntV w vs[i] (rwA xss i)
theorem RowsW.nil (w : World) (a : Option Addr) : RowsW w a [] [] := ⟨rfl, .inl rfl, fun i hi => by simp at hi⟩
theorem RowsW.below {w w' : World} {a : Option Addr} {vs : List Value} {xss : List (List Int)} (h : RowsW w a vs xss) (hb : Below w.heap.size w w') : RowsW w' a vs xss := by
  refine ⟨h.len, ?_, fun i hi => (h.each i hi).below hb⟩
  rcases h.cell with h1 | ⟨b, off, ha, hc⟩
  · exact .inl h1
  · exact .inr ⟨b, off, ha, fun i hi => ble hb (hc i hi)⟩
end Go.Proofs.Ytjbecnflpfjicaa
