/- Marks of a net. -/
import Derived.Test.YtdjambejppanoaaND
namespace Go.Proofs.Ytdjambejppanoaa
open Go.RowKit
set_option maxHeartbeats 800000 in
theorem cMarkNet (B n : Nat) (x v : Value) (es : List EdgeV) (k : Int) (w : World) (ho : Rw w B 41 4 v n (flatEdges es)) (hl : n ≤ 1048576) (hk0 : 0 ≤ k) (hk1 : k ≤ 10000000) :
    Calls Try.prog 28 #[.agg #[x, v], .int .i64 k] w fun e w' => e = .returned (.int .i64 (k + 4 * n)) ∧ ∃ r, w.grownBy w' r ∧ ∀ j, r = some j → B ≤ j ∧ v.ownBlock = some j := by
  obtain ⟨a, c, rfl⟩ := ho.form
  have hb := balloc w (.cells #[x, .slice a n c] 26)
  have X := Bx2.new w x (.slice a n c) 26
  obtain ⟨b0, b1⟩ := X
  go_enter Try.func28, Try.ntmps28
  go_wp2_with fail
  refine (cMarkEdges B n _ es k _ (ho.keep hb) hl hk0 hk1).mono ?_
  rintro e w1 ⟨rfl, -, r, hg, hr⟩
  have hg2 : w.grownBy w1 r := gtrans (gofr r hb) hg
  clear hg
  go_wp2
  go_ret
  exact ⟨rfl, r, hg2, hr⟩
end Go.Proofs.Ytdjambejppanoaa
