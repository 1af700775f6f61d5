/- The model's list of aspects. -/
import Derived.Test.YtcfapadcgboalaaDoorF
namespace Go.Proofs.YtcfapadcgboalaaDoor
open Go.RowKit
theorem info_parts2 {i? : Option TypeInfo} {z : Option Value} {s by' : Nat} (h : i?.map (fun i => (i.zero, i.size, i.bytes)) = some (z, s, by')) : ∃ i, i? = some i ∧ i.zero = z ∧ i.size = s ∧ i.bytes = by' := by
  cases i? with
  | none => cases h
  | some i => simp at h; exact ⟨i, rfl, h⟩
theorem asp_cases (bs : List Bool) (y : Int) (i : Nat) :
    (((i : Int) + free bs i = bs.length ∧ ((3 < (free bs i : Int) + y ∧ asp bs y i = 3) ∨ ((free bs i : Int) + y ≤ 3 ∧ asp bs y i = free bs i + y))) ∨
     (¬ ((i : Int) + free bs i = bs.length) ∧ ((3 < (free bs i : Int) ∧ asp bs y i = 3) ∨ ((free bs i : Int) ≤ 3 ∧ asp bs y i = free bs i)))) := by
  unfold asp
  by_cases c : i + free bs i = bs.length
  · rw [if_pos c]; left; omega
  · rw [if_neg c]; right; omega

end Go.Proofs.YtcfapadcgboalaaDoor
