/- Rides of both texts. -/
import Derived.Test.YtcadgafenbmihabP
import Derived.Deep.CutRange
namespace Go.Proofs.Ytcadgafenbmihab
open Go.RowKit Fl

attribute [local go_sem] run_store_float

theorem Flts.lt {w : World} {a : Option Addr} {zs : List Nat} (h : Flts w a zs) : zs = [] ∨ ∃ b off, a = some ⟨b, off, none⟩ ∧ b < w.heap.size := by
  rcases h with h | ⟨b, off, ha, hc⟩
  · exact .inl h
  · by_cases h0 : zs = []
    · exact .inl h0
    · have : 0 < zs.length := List.length_pos_iff.2 h0
      exact .inr ⟨b, off, ha, cell_lt (hc 0 this)⟩
theorem info_parts2 {i? : Option TypeInfo} {z : Option Value} {s by' : Nat} (h : i?.map (fun i => (i.zero, i.size, i.bytes)) = some (z, s, by')) : ∃ i, i? = some i ∧ i.zero = z ∧ i.size = s ∧ i.bytes = by' := by
  cases i? with
  | none => cases h
  | some i => simp at h; exact ⟨i, rfl, h⟩

end Go.Proofs.Ytcadgafenbmihab
