/- The walk of the law on right rules. -/
import Derived.Test.YtdmdoknkkfhheaaSC
import Derived.Deep.RegionHeld3
namespace Go.Proofs.Ytdmdoknkkfhheaa
open Go.RowKit
set_option maxHeartbeats 1600000 in
theorem walkRuleOk (r : RuleV) (w : World) : Calls Try.prog 5 #[r.val] w fun e w' => e = .returned (.bool true) ∧ Below w.heap.size w w' := by
  have HB := balloc w (.cells #[.int .i64 r.p, .int .i64 r.d, .int .i64 r.r, .int .i64 r.s] 41)
  have hX := Rul.new w r 41
  have TR := fun w => cToRule r w
  have CS := fun w => cRuleS r w
  have CI := fun w => cRuleI r w
  unfold RuleV.val at *
  generalize ruleB r = R at *
  go_enter Try.func5, Try.ntmps5
  obtain ⟨c0, c1, c2, c3⟩ := hX.parts
  go_wp2_with fail
  refine (TR _).mono ?_
  rintro e w1 ⟨rfl, hb⟩
  replace HB := btrans HB hb
  replace hX := hX.below hb
  clear hb c0 c1 c2 c3
  go_wp2_with fail
  refine (CS _).mono ?_
  rintro e w2 ⟨rfl, hb⟩
  replace HB := btrans HB hb
  replace hX := hX.below hb
  clear hb
  obtain ⟨c0, c1, c2, c3⟩ := hX.parts
  go_wp2_with fail
  refine (TR _).mono ?_
  rintro e w3 ⟨rfl, hb⟩
  replace HB := btrans HB hb
  clear hb
  go_wp2_with fail
  refine (CI _).mono ?_
  rintro e w4 ⟨rfl, hb⟩
  replace HB := btrans HB hb
  clear hb
  go_wp2
  go_ret
  exact ⟨rfl, HB⟩
end Go.Proofs.Ytdmdoknkkfhheaa
