/- The question of a journey, of both; the model's soonest. -/
import Derived.Test.YtpfnnpgielnaeaaDoorRB
import Derived.Test.YtpfnnpgielnaeaaDoorZA
namespace Go.Proofs.YtpfnnpgielnaeaaDoor
open Go.RowKit
/-- The question is one. -/
def AskP (ts : List TripV) (f to m ch h : Int) : Prop := Table ts ∧ inB f 0 29 = true ∧ inB to 0 29 = true ∧ inB m 0 100000 = true ∧ inB ch 0 60 = true ∧ inB h 0 5 = true
theorem AskP.parts {ts : List TripV} {f to m ch h : Int} (q : AskP ts f to m ch h) : Gd ts ∧ (0 ≤ f ∧ f ≤ 29) ∧ (0 ≤ to ∧ to ≤ 29) ∧ (0 ≤ m ∧ m ≤ 100000) ∧ (0 ≤ ch ∧ ch ≤ 60) ∧ (0 ≤ h ∧ h ≤ 5) :=
  ⟨table_gd q.1, inB_true q.2.1, inB_true q.2.2.1, inB_true q.2.2.2.1, inB_true q.2.2.2.2.1, inB_true q.2.2.2.2.2⟩
/-- What Soonest tells. -/
def SoonAns (ts : List TripV) (f to m ch h r : Int) : Prop := (¬ AskP ts f to m ch h ∧ r = -1) ∨ (AskP ts f to m ch h ∧ IsSoon ts ⟨f, m⟩ ch h.toNat to r)
theorem SoonAns.uniq {ts : List TripV} {f to m ch h r r' : Int} (a : SoonAns ts f to m ch h r) (b : SoonAns ts f to m ch h r') : r = r' := by
  rcases a with ⟨a1, a2⟩ | ⟨a1, a2⟩ <;> rcases b with ⟨b1, b2⟩ | ⟨b1, b2⟩
  · omega
  · exact absurd b1 a1
  · exact absurd a1 b1
  · exact IsMin.uniq a2 b2

set_option maxHeartbeats 400000 in
theorem cChangeS (x : Int) (w : World) : Calls Tryd.prog 26 #[.int .i64 x] w fun e w' => e = .returned (.bool (inB x 0 60)) ∧ w' = w := by
  go_enter Tryd.func26, Tryd.ntmps26
  go_wp2_with fail
  refine (cIn x 0 60 _).mono ?_
  rintro e w1 ⟨rfl, hw⟩
  subst w1
  go_wp2
  go_ret
  exact ⟨rfl, rfl⟩

set_option maxHeartbeats 400000 in
theorem cChangeI (x : Int) (w : World) : Calls Tryd.prog 31 #[.int .i64 x] w fun e w' => e = .returned (.bool (inB x 0 60)) ∧ w' = w := by
  go_enter Tryd.func31, Tryd.ntmps31
  go_wp2_with fail
  refine (cWithin x 0 60 _).mono ?_
  rintro e w1 ⟨rfl, hw⟩
  subst w1
  go_wp2
  go_ret
  exact ⟨rfl, rfl⟩

end Go.Proofs.YtpfnnpgielnaeaaDoor
