/- A trip's way back: the mathematics, and the model's. -/
import Derived.Test.YthlmaljgnhakfaaDoorK
namespace Go.Proofs.YthlmaljgnhakfaaDoor
open Go.RowKit
def backC (T : Int) (c : HaltV) : HaltV := ⟨c.n, T - c.d, T - c.a⟩
def backL (T : Int) (cs : List HaltV) : List HaltV := cs.reverse.map (backC T)
def lastD (cs : List HaltV) : Int := (cs.getD (cs.length - 1) HaltV.zero).d
def backT (t : TripV) (x : Int) : TripV := if tripB t = true ∧ inB x 0 100000 = true then ifOk ⟨t.name, backL (x + lastD t.calls) t.calls⟩ else TripV.zero
theorem backL_len (T : Int) (cs : List HaltV) : (backL T cs).length = cs.length := by simp [backL]
theorem backL_step (T : Int) {cs : List HaltV} {k : Nat} (hk : k < cs.length) : backL T (cs.drop k) = backL T (cs.drop (k + 1)) ++ [⟨(cs.getD k HaltV.zero).n, T - (cs.getD k HaltV.zero).d, T - (cs.getD k HaltV.zero).a⟩] := by
  have e : cs.getD k HaltV.zero = cs[k] := by simp [List.getD, hk]
  rw [List.drop_eq_getElem_cons hk, e, backL, backL, List.reverse_cons, List.map_append]
  rfl
theorem back_small (s : ByteArray) (cs : List HaltV) (x : Int) (hl : cs.length ≤ 1048576) : (backT ⟨s, cs⟩ x).calls.length ≤ 1048576 := by
  unfold backT ifOk
  split
  · split
    · rw [backL_len]; exact hl
    · exact Nat.zero_le _
  · exact Nat.zero_le _

end Go.Proofs.YthlmaljgnhakfaaDoor
