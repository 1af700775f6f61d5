/- Inserting a booking into a row. -/
import Derived.Test.YtgnlcehpajbnoaaCB
import Derived.Lib.AppendZerosOnto
import Derived.Lib.Overlaps
import Derived.Laws.CopyRow
import Derived.Laws.IdiomCopy
import Derived.Laws.CopyOwn
import Derived.Laws.NewBlocks
import Derived.Deep.RegionLaw
import Derived.Lib.SliceRun
import Derived.Laws.Externs
namespace Go.Proofs.Ytgnlcehpajbnoaa
open Go.RowKit Go.Lib

/-- What the insertion of an element leaves. -/
def InsBks (w : World) (base : Nat) (v : Value) (n : Nat) (xs : List Value) (e : Ending) (w' : World) : Prop :=
  ∃ v', e = .returned v' ∧ w'.ownsRow base 78 4 v' (n + 1) xs ∧ w.grownBy w' v.ownBlock

set_option maxHeartbeats 1600000 in
/-- At the end. -/
theorem cInsBks_end (base : Nat) (v : Value) (n vb : Nat) (xs vs : List Value) (w : World) (ho : w.ownsRow base 78 4 v n xs) (hn : n ≤ 1000) (hB : base ≤ w.heap.size) (hvl : vs.length = 4)
    (hv : ∀ j u, vs[j]? = some u → w.cell? ((⟨vb, 0, none⟩ : Addr).add j) = some u) (h1 : ∀ u ∈ vs, u.oneCell' = true) :
    Calls Try.prog 79 #[v, .int .i64 n, .slice (some ⟨vb, 0, none⟩) 1 1] w (InsBks w base v n (xs ++ vs)) := by
  obtain ⟨i0, hi, hz0, hz1, hz2⟩ := info_parts infoBks
  have ho' := ho
  rcases ho.2 with ⟨rfl, rfl⟩ | ⟨g, cap, cur, rfl, hg, hh, hnc, hcm, hcs, hx⟩
  · go_enter Try.func79, Try.ntmps79
    go_wp2_with (at_builtin; refine wpList_append_own _ rfl _ _ 24 rfl base 78 i0 _ 4 32 Try.underlying24 hi hz0 hz1 hz2 rfl (by decide) _ _ _ rfl ho' ⟨vb, 0, none⟩ 1 1 vs rfl (by omega) hv h1 ?c3 ?c4 hB ?_)
    case c3 => unfold maxLen; omega
    case c4 => omega
    intro v2 w5 hown hgrow _
    go_wp2
    go_ret
    exact ⟨v2, rfl, hown, hgrow⟩
  · unfold maxLen at hcm
    have hn0 : (0 : Int) ≤ (n : Int) := by omega
    have hnn : (n : Int) ≤ (n : Int) := by omega
    by_cases hc : cap = n
    · subst hc
      go_enter Try.func79, Try.ntmps79
      go_wp2_with (at_builtin; refine wpList_append_own _ rfl _ _ 24 rfl base 78 i0 _ 4 32 Try.underlying24 hi hz0 hz1 hz2 rfl (by decide) _ _ _ rfl ho' ⟨vb, 0, none⟩ 1 1 vs rfl (by omega) hv h1 ?c3 ?c4 hB ?_)
      case c3 => unfold maxLen; omega
      case c4 => omega
      intro v2 w5 hown hgrow _
      go_wp2
      go_ret
      exact ⟨v2, rfl, hown, hgrow⟩
    · go_enter Try.func79, Try.ntmps79
      go_wp2_with (at_builtin; refine wpList_append_own _ rfl _ _ 24 rfl base 78 i0 _ 4 32 Try.underlying24 hi hz0 hz1 hz2 rfl (by decide) _ _ _ rfl ho' ⟨vb, 0, none⟩ 1 1 vs rfl (by omega) hv h1 ?c3 ?c4 hB ?_)
      case c3 => unfold maxLen; omega
      case c4 => omega
      intro v2 w5 hown hgrow _
      go_wp2
      go_ret
      exact ⟨v2, rfl, hown, hgrow⟩
end Go.Proofs.Ytgnlcehpajbnoaa
