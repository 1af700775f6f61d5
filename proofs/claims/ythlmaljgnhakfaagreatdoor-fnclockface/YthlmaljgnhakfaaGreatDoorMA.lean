/- The chapter's mathematics: names, calls, trips. -/
import Derived.Test.YthlmaljgnhakfaaGreatDoorS
namespace Go.Proofs.YthlmaljgnhakfaaGreatDoor
open Go.RowKit
theorem all_drop {α : Type} {P : α → Bool} {zs : List α} {k : Nat} (hk : k < zs.length) : (zs.drop k).all P = (P zs[k] && (zs.drop (k + 1)).all P) := by
  rw [List.drop_eq_getElem_cons hk]; rfl
/-- A small letter or a digit. -/
def okB (b : UInt8) : Bool := inB b.toNat 97 122 || inB b.toNat 48 57
def nameB (s : ByteArray) : Bool := s.data.toList.all okB && inB s.size 1 12
def callB (c : HaltV) : Bool := inB c.n 0 29 && inB c.d 0 100000 && inB c.a 0 c.d
/-- One call behind another: it comes later, and at another node. -/
def stepB (p c : HaltV) : Bool := decide (p.d < c.a) && !decide (p.n = c.n)
def chainB : List HaltV → Bool
  | [] => true
  | [_] => true
  | p :: c :: cs => stepB p c && chainB (c :: cs)
structure TripV where
  name : ByteArray
  calls : List HaltV
def TripV.zero : TripV := ⟨⟨#[]⟩, []⟩
def tripB (t : TripV) : Bool := nameB t.name && inB t.calls.length 2 12 && t.calls.all callB && chainB t.calls
theorem chain_drop {cs : List HaltV} {k : Nat} (hk : k + 1 < cs.length) : chainB (cs.drop k) = (stepB (cs.getD k HaltV.zero) (cs.getD (k + 1) HaltV.zero) && chainB (cs.drop (k + 1))) := by
  have e1 : cs.drop k = cs[k] :: cs.drop (k + 1) := List.drop_eq_getElem_cons (by omega)
  have e2 : cs.drop (k + 1) = cs[k + 1] :: cs.drop (k + 2) := List.drop_eq_getElem_cons hk
  have e3 : cs.getD k HaltV.zero = cs[k] := by simp [List.getD, show k < cs.length by omega]
  have e4 : cs.getD (k + 1) HaltV.zero = cs[k + 1] := by simp [List.getD, hk]
  rw [e3, e4, e1, e2]; rfl
theorem chain_last {cs : List HaltV} {k : Nat} (hk : cs.length ≤ k + 1) : chainB (cs.drop k) = true := by
  have h : (cs.drop k).length ≤ 1 := by simp; omega
  match hq : cs.drop k with
  | [] => rfl
  | [_] => rfl
  | _ :: _ :: _ => rw [hq] at h; simp at h
theorem size_list (s : ByteArray) : s.data.toList.length = s.size := by rw [Array.length_toList]; rfl
theorem get_list (s : ByteArray) (i : Nat) (h : i < s.size) : s.data.toList[i]'(by rw [size_list]; exact h) = s[i]'h := by
  rw [Array.getElem_toList]; rfl
theorem okB_high {b : UInt8} (h : 128 ≤ b.toNat) : okB b = false := by
  simp [okB, inB]; omega
end Go.Proofs.YthlmaljgnhakfaaGreatDoor
