/- The program's stepOf. -/
import Derived.Test.YtpgjllefhlanpaaLS
namespace Go.Proofs.Ytpgjllefhlanpaa
open Go.RowKit
set_option maxRecDepth 20000 in
set_option maxHeartbeats 1600000 in
theorem cStepOf (k x : Int) (w : World) :
    Calls Try.prog 24 #[.agg #[.int .i64 k, .int .i64 x]] w fun e w' => e = .returned (stepVal (kindOf k) x) ∧ Below w.heap.size w w' := by
  have hb := balloc w (.cells #[.int .i64 k, .int .i64 x] 39)
  by_cases h0 : k = 0
  · subst h0
    go_enter Try.func24, Try.ntmps24
    go_wp2
    go_ret
    exact ⟨rfl, hb⟩
  by_cases h1 : k = 1
  · subst h1
    go_enter Try.func24, Try.ntmps24
    go_wp2
    go_ret
    exact ⟨rfl, hb⟩
  by_cases h2 : k = 2
  · subst h2
    go_enter Try.func24, Try.ntmps24
    go_wp2
    go_ret
    exact ⟨rfl, hb⟩
  by_cases h3 : k = 3
  · subst h3
    go_enter Try.func24, Try.ntmps24
    go_wp2
    go_ret
    exact ⟨rfl, hb⟩
  have hk : kindOf k = .none := by unfold kindOf; rw [if_neg h0, if_neg h1, if_neg h2, if_neg h3]
  rw [hk]
  go_enter Try.func24, Try.ntmps24
  go_wp2
  go_ret
  exact ⟨rfl, hb⟩
end Go.Proofs.Ytpgjllefhlanpaa
