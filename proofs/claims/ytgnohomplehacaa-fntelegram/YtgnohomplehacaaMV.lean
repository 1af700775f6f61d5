/- The mathematics of scanning. -/
import Derived.Test.YtgnohomplehacaaMU
namespace Go.Proofs.Ytgnohomplehacaa
open Go.RowKit
/-- The bytes from the b-th on, ahead of the j-th. -/
def pcs (zs : List Int) (b j : Nat) : List Int := (zs.drop b).take (j - b)
theorem pcs_nil (zs : List Int) (b : Nat) : pcs zs b b = [] := by simp [pcs]
theorem pcs_len {zs : List Int} {b j : Nat} (hj : j ≤ zs.length) : (pcs zs b j).length = j - b := by simp [pcs]; omega
theorem pcs_step {zs : List Int} {b j : Nat} (hb : b ≤ j) (hj : j < zs.length) : pcs zs b (j + 1) = pcs zs b j ++ [zs.getD j 0] := by
  unfold pcs
  have e1 : j + 1 - b = j - b + 1 := by omega
  have e2 : j - b < (zs.drop b).length := by simp; omega
  rw [e1, List.take_succ_eq_append_getElem e2]
  congr 2
  rw [List.getElem_drop]
  have e3 : b + (j - b) = j := by omega
  simp [List.getD, e3, hj]
theorem pcs_all (zs : List Int) (b : Nat) : pcs zs b zs.length = zs.drop b := by
  unfold pcs
  rw [List.take_of_length_le (by simp)]
/-- What a piece adds: a telegram, or a spoilt one. -/
def takeP (st : List TelV × Int) (p : List Int) : List TelV × Int := if p = [] then st else match decP p with
  | none => (st.1, st.2 + 1)
  | some t => (st.1 ++ [t], st.2)
def scV : List Int → List Int → List TelV × Int → List TelV × Int
  | [], p, st => takeP st p
  | z :: l, p, st => if z = 126 then scV l [] (takeP st p) else scV l (p ++ [z]) st
def scanV (zs : List Int) : List TelV × Int := if 3000 < zs.length then ([], -1) else scV zs [] ([], 0)
theorem takeP_nil (st : List TelV × Int) : takeP st [] = st := by simp [takeP]
theorem takeP_none {st : List TelV × Int} {p : List Int} (h : p ≠ []) (hd : decP p = none) : takeP st p = (st.1, st.2 + 1) := by simp [takeP, h, hd]
theorem takeP_some {st : List TelV × Int} {p : List Int} {t : TelV} (h : p ≠ []) (hd : decP p = some t) : takeP st p = (st.1 ++ [t], st.2) := by simp [takeP, h, hd]
theorem scV_flag {zs : List Int} {j : Nat} {p : List Int} {st : List TelV × Int} (hj : j < zs.length) (h : zs.getD j 0 = 126) : scV (zs.drop j) p st = scV (zs.drop (j + 1)) [] (takeP st p) := by
  have e : zs.drop j = zs.getD j 0 :: zs.drop (j + 1) := by rw [List.drop_eq_getElem_cons hj]; simp [List.getD, hj]
  rw [e, scV, if_pos h]
theorem scV_plain {zs : List Int} {j : Nat} {p : List Int} {st : List TelV × Int} (hj : j < zs.length) (h : zs.getD j 0 ≠ 126) : scV (zs.drop j) p st = scV (zs.drop (j + 1)) (p ++ [zs.getD j 0]) st := by
  have e : zs.drop j = zs.getD j 0 :: zs.drop (j + 1) := by rw [List.drop_eq_getElem_cons hj]; simp [List.getD, hj]
  rw [e, scV, if_neg h]
theorem scV_end (zs p : List Int) (st : List TelV × Int) : scV (zs.drop zs.length) p st = takeP st p := by simp [scV]
/-- What stands of what was found so far. -/
structure Fnd (ts : List TelV) (n : Int) (j : Nat) : Prop where
  n0 : 0 ≤ n
  le : (ts.length : Int) + n ≤ j
  tel : ∀ t ∈ ts, okT t = true ∧ By t.b
theorem Fnd.zero : Fnd [] 0 0 := ⟨by omega, by simp, fun t ht => by simp at ht⟩
theorem Fnd.mono {ts : List TelV} {n : Int} {j j' : Nat} (h : Fnd ts n j) (hj : j ≤ j') : Fnd ts n j' := ⟨h.n0, by have := h.le; omega, h.tel⟩
theorem Fnd.bad {ts : List TelV} {n : Int} {j : Nat} (h : Fnd ts n j) : Fnd ts (n + 1) (j + 1) := ⟨by have := h.n0; omega, by have := h.le; push_cast; omega, h.tel⟩
theorem Fnd.good {ts : List TelV} {n : Int} {j : Nat} {p : List Int} {t : TelV} (h : Fnd ts n j) (hp : By p) (hd : decP p = some t) : Fnd (ts ++ [t]) n (j + 1) :=
  ⟨h.n0, by have := h.le; simp; omega, fun x hx => by
    rcases List.mem_append.1 hx with hx | hx
    · exact h.tel x hx
    · simp at hx; subst hx; exact ⟨(decP_some hp hd).1, (decP_some hp hd).2.1⟩⟩
theorem Fnd.small {ts : List TelV} {n : Int} {j : Nat} (h : Fnd ts n j) : ∀ i, i < ts.length → (ts.getD i TelV.zero).b.length ≤ 60 := by
  intro i hi
  rw [show ts.getD i TelV.zero = ts[i] by simp [List.getD, hi]]
  exact (okT_parts (h.tel _ (List.getElem_mem hi)).1).2.2.2.2
end Go.Proofs.Ytgnohomplehacaa
