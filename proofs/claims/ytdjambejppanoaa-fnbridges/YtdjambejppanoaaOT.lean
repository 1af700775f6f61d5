/- The other end of an edge. -/
import Derived.Test.YtdjambejppanoaaSHI
namespace Go.Proofs.Ytdjambejppanoaa
open Go.RowKit
set_option maxHeartbeats 800000 in
theorem cOtherW (e : EdgeV) (x : Int) (w : World) : Calls Try.prog 43 #[e.val, .int .i64 x] w fun r w' => r = .returned (.int .i64 (otherF e x)) ∧ Below w.heap.size w w' := by
  obtain ⟨a, b, l, m⟩ := e
  unfold EdgeV.val
  have hW := balloc w (.cells #[.int .i64 a, .int .i64 b, .int .i64 l, .int .i64 m] 41)
  have Y := Bx4.new w (.int .i64 a) (.int .i64 b) (.int .i64 l) (.int .i64 m) 41
  obtain ⟨y0, y1, y2, y3⟩ := id Y
  by_cases h1 : a = x
  · have R := hide (show otherF ⟨a, b, l, m⟩ x = b by simp [otherF, h1])
    subst h1
    go_enter Try.func43, Try.ntmps43
    go_wp2
    go_ret
    exact ⟨ret_int R.out.symm, hW⟩
  by_cases h2 : b = x
  · have R := hide (show otherF ⟨a, b, l, m⟩ x = a by simp [otherF, h1, h2])
    subst h2
    go_enter Try.func43, Try.ntmps43
    go_wp2
    go_ret
    exact ⟨ret_int R.out.symm, hW⟩
  have R := hide (show otherF ⟨a, b, l, m⟩ x = -1 by simp [otherF, h1, h2])
  go_enter Try.func43, Try.ntmps43
  go_wp2
  go_ret
  exact ⟨ret_int R.out.symm, hW⟩

end Go.Proofs.Ytdjambejppanoaa
