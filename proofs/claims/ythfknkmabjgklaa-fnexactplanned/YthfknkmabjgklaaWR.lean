/- Ridden of the program; the walk of the law on Ridden. -/
import Derived.Test.YthfknkmabjgklaaUB
import Derived.Test.YthfknkmabjgklaaND
namespace Go.Proofs.Ythfknkmabjgklaa
open Go.RowKit

theorem iff_same {P : Prop} {a b : Bool} (h1 : a = true ↔ P) (h2 : b = true ↔ P) : b = a := by
  have h := h1.trans h2.symm
  cases a <;> cases b <;> simp_all

set_option maxHeartbeats 1600000 in
theorem cRiddenI (a : Option Addr) (cap : Nat) (n : Int) (es : List EdgeV) (ta : Option Addr) (tc : Nat) (ts : List TripV) (w : World) (he : Edges w a es) (hl : es.length ≤ 1048576) (hz : Trips w ta ts) (hS : Small ts) :
    Calls Try.prog 33 #[.agg #[.int .i64 n, .slice a es.length cap], .slice ta ts.length tc] w (AnsIff w (Ridden n es ts)) := by
  have hW := balloc w (.cells #[.int .i64 n, .slice a es.length cap] 32)
  go_enter Try.func33, Try.ntmps33
  go_wp2_with fail
  refine (cUsesOf a cap n es ta tc ts _ (he.below hW) hl (hz.below hW) hS).mono ?_
  rintro e w1 ⟨hb1, hA⟩
  have HB := btrans hW hb1
  clear hW hb1
  rcases hA with ⟨hR, v, rfl, ho⟩ | ⟨hR, rfl⟩
  · replace hR := hide hR
    clear ho
    go_wp2
    go_ret
    exact AnsIff.yes hR.out HB
  · replace hR := hide hR
    go_wp2
    go_ret
    exact AnsIff.no hR.out HB

end Go.Proofs.Ythfknkmabjgklaa
