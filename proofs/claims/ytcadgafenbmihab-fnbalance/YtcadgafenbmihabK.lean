/- Pull: one step, of both texts. -/
import Derived.Test.YtcadgafenbmihabJ
namespace Go.Proofs.Ytcadgafenbmihab
open Go.RowKit Fl

attribute [local go_sem] run_store_float

theorem pull_no {l : LocoV} {es : List CarV} {v sl sp : Nat} (h : (locoOk l && trainOk es && spd v && slp sl && spn sp) = false) : pull l es v sl sp = 0 := by
  unfold pull; rw [h]; rfl
theorem pull_yes {l : LocoV} {es : List CarV} {v sl sp : Nat} (h1 : locoOk l = true) (h2 : trainOk es = true) (h3 : spd v = true) (h4 : slp sl = true) (h5 : spn sp = true) : pull l es v sl sp = held (next l es v sl sp) := by
  unfold pull; rw [h1, h2, h3, h4, h5]; rfl

end Go.Proofs.Ytcadgafenbmihab
