/- The program's ops on a locking, in place. -/
import Derived.Test.YtpgjllefhlanpaaLK
import Derived.Test.YtpgjllefhlanpaaIL
namespace Go.Proofs.Ytpgjllefhlanpaa
open Go.RowKit
theorem RowZ.put {w : World} {lo hi T n c : Nat} {a : Option Addr} {xs : List Value} (h : RowZ w lo hi T (.slice a n c) xs) (hn : xs.length = n) {i : Nat} (hi' : i < n) (v : Value) :
    ∃ g, a = some ⟨g, 0, none⟩ ∧ lo ≤ g ∧ g < hi ∧ (∃ u, w.cell? ⟨g, i, none⟩ = some u) ∧ w.frozen? ⟨g, i, none⟩ = false ∧ RowZ (w.setCell ⟨g, i, none⟩ v) lo hi T (.slice a n c) (xs.set i v) := by
  rcases h with ⟨h, _⟩ | ⟨h1, h2, h3⟩
  · rw [h] at hn; simp at hn; omega
  · subst hn
    rcases h2.2 with ⟨he, h0⟩ | ⟨g, cap', cur, he, hg, _⟩
    · omega
    · simp only [Value.slice.injEq] at he
      obtain ⟨rfl, _, rfl⟩ := he
      refine ⟨g, rfl, hg, h3 g rfl, ⟨xs[i], ?_⟩, h2.frozenAt i, .inr ⟨?_, ?_, h3⟩⟩
      · rw [h2.cellAt i (by omega)]; simp
      · intro h; exact h1 (by simpa using h)
      · have := (h2.stored i v).1
        rw [List.length_set]
        exact this
theorem RowZ.putOff {w : World} {lo hi T g i m : Nat} {u : Value} {v : Value} {xs : List Value} {q : Value} (h : RowZ w lo hi T v xs) (hu : u.ownBlock = some g) (hm : m ≠ 0) (ho : Off u v m xs.length) : RowZ (w.setCell ⟨g, i, none⟩ q) lo hi T v xs := by
  rcases h with h | ⟨h1, h2, h3⟩
  · exact .inl h
  · exact .inr ⟨h1, own_set h2 (fun k hk e => ho hm (by simpa using h1) g hu (by rw [← e]; exact hk)), h3⟩
theorem LockOwn.putPos {w : World} {lo hi ca cb cc : Nat} {a b c : Option Addr} {l : LockV} (h : LockOwn w lo hi a ca b cb c cc l) {i : Nat} (hi' : i < l.pos.length) (v : Int) :
    ∃ g, a = some ⟨g, 0, none⟩ ∧ lo ≤ g ∧ g < hi ∧ (∃ u, w.cell? ⟨g, i, none⟩ = some u) ∧ w.frozen? ⟨g, i, none⟩ = false ∧ LockOwn (w.setCell ⟨g, i, none⟩ (.int .i64 v)) lo hi a ca b cb c cc ⟨l.pos.set i v, l.set, l.taken⟩ := by
  obtain ⟨g, rfl, h1, h2, h3, h4, h5⟩ := h.pos.put (by simp) hi' (.int .i64 v)
  refine ⟨g, rfl, h1, h2, h3, h4, ⟨by simpa [List.map_set] using h5, h.set.putOff rfl (Nat.ne_of_gt (Nat.lt_of_le_of_lt (Nat.zero_le _) hi')) (by simpa using h.ps), h.taken.putOff rfl (Nat.ne_of_gt (Nat.lt_of_le_of_lt (Nat.zero_le _) hi')) (by simpa using h.pt), by simpa using h.ps, by simpa using h.pt, h.st⟩⟩
theorem LockOwn.putSet {w : World} {lo hi ca cb cc : Nat} {a b c : Option Addr} {l : LockV} (h : LockOwn w lo hi a ca b cb c cc l) {i : Nat} (hi' : i < l.set.length) (v : Bool) :
    ∃ g, b = some ⟨g, 0, none⟩ ∧ lo ≤ g ∧ g < hi ∧ (∃ u, w.cell? ⟨g, i, none⟩ = some u) ∧ w.frozen? ⟨g, i, none⟩ = false ∧ LockOwn (w.setCell ⟨g, i, none⟩ (.bool v)) lo hi a ca b cb c cc ⟨l.pos, l.set.set i v, l.taken⟩ := by
  obtain ⟨g, rfl, h1, h2, h3, h4, h5⟩ := h.set.put (by simp) hi' (.bool v)
  refine ⟨g, rfl, h1, h2, h3, h4, ⟨h.pos.putOff rfl (Nat.ne_of_gt (Nat.lt_of_le_of_lt (Nat.zero_le _) hi')) (by simpa using h.ps.symm), by simpa [List.map_set] using h5, h.taken.putOff rfl (Nat.ne_of_gt (Nat.lt_of_le_of_lt (Nat.zero_le _) hi')) (by simpa using h.st), by simpa using h.ps, h.pt, by simpa using h.st⟩⟩
theorem LockOwn.putTaken {w : World} {lo hi ca cb cc : Nat} {a b c : Option Addr} {l : LockV} (h : LockOwn w lo hi a ca b cb c cc l) {i : Nat} (hi' : i < l.taken.length) (v : Bool) :
    ∃ g, c = some ⟨g, 0, none⟩ ∧ lo ≤ g ∧ g < hi ∧ (∃ u, w.cell? ⟨g, i, none⟩ = some u) ∧ w.frozen? ⟨g, i, none⟩ = false ∧ LockOwn (w.setCell ⟨g, i, none⟩ (.bool v)) lo hi a ca b cb c cc ⟨l.pos, l.set, l.taken.set i v⟩ := by
  obtain ⟨g, rfl, h1, h2, h3, h4, h5⟩ := h.taken.put (by simp) hi' (.bool v)
  refine ⟨g, rfl, h1, h2, h3, h4, ⟨h.pos.putOff rfl (Nat.ne_of_gt (Nat.lt_of_le_of_lt (Nat.zero_le _) hi')) (by simpa using h.pt.symm), h.set.putOff rfl (Nat.ne_of_gt (Nat.lt_of_le_of_lt (Nat.zero_le _) hi')) (by simpa using h.st.symm), by simpa [List.map_set] using h5, h.ps, by simpa using h.pt, by simpa using h.st⟩⟩
/-- A refusal's panic. -/
def refu (c : Int) : List PanicEntry := [{ v := .iface 83 (.agg #[.int .i64 c]), recovered := false }]
def endOf (c : Int) : Ending := if c = 0 then .returned (.tuple #[]) else .panicked (refu c)
theorem endOf_zero : endOf 0 = .returned (.tuple #[]) := rfl

set_option maxHeartbeats 400000 in
theorem cRefNo (c : Int) (w : World) : Calls Try.prog 59 #[.bool false, .int .i64 c] w fun e w' => e = .returned (.tuple #[]) ∧ w' = w := by
  go_enter Try.func59, Try.ntmps59
  go_wp2
  go_end0
  exact ⟨rfl, rfl⟩
set_option maxHeartbeats 400000 in
theorem cRefYes (c : Int) (w : World) : Calls Try.prog 59 #[.bool true, .int .i64 c] w fun e w' => e = .panicked (refu c) ∧ w' = w := by
  unfold refu
  go_enter Try.func59, Try.ntmps59
  go_wp2
  exact ⟨rfl, rfl, rfl⟩
end Go.Proofs.Ytpgjllefhlanpaa
