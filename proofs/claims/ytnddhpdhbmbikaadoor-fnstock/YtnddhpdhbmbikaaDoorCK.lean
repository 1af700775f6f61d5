/- Turn and Shunted of the program. -/
import Derived.Test.YtnddhpdhbmbikaaDoorTU
import Derived.Test.YtnddhpdhbmbikaaDoorB
namespace Go.Proofs.YtnddhpdhbmbikaaDoor
open Go.RowKit

set_option maxHeartbeats 800000 in
theorem cTurnI (a : Option Addr) (cap : Nat) (l : List UV) (w : World) (he : Us w a l) (hl : l.length ≤ maxLen) :
    Calls Tryd.prog 9 #[.slice a l.length cap] w (AnsU w (turnL l)) := by
  have CF := cFormI a cap l w he hl
  go_enter Tryd.func9, Tryd.ntmps9
  go_wp2_with fail
  refine CF.mono ?_
  rintro e w1 ⟨rfl, hb1⟩
  clear CF
  cases hf : formB l
  · have E := hide (turn_no hf)
    go_wp2
    go_ret
    show AnsU w (turnL l) _ _
    rw [E.out]
    exact AnsU.no hb1
  have h30 := (formB_iff.1 hf).1
  have E := hide (turn_yes hf)
  go_wp2_with fail
  refine (cTurnU a cap l w1 (he.below hb1) h30).mono ?_
  rintro e w2 ⟨v, rfl, ho, hb2⟩
  obtain ⟨va, vc, rfl⟩ := own_form ho
  go_wp2
  go_ret
  show AnsU w (turnL l) _ _
  rw [E.out]
  exact ⟨_, rfl, own_base ho hb1.size, btrans hb1 hb2⟩

theorem sh_no1 {l : List UV} {cs : List Int} (h : formB l = false) : shL l cs = [] := by simp [shL, shB, h]
theorem sh_no2 {l : List UV} {cs : List Int} (h : 30 < cs.length) : shL l cs = [] := by
  have : decide (cs.length ≤ 30) = false := by simp; omega
  simp [shL, shB, this]
theorem sh_no3 {l : List UV} {cs : List Int} (h : (cs.all fun x => inB x 0 l.length) = false) : shL l cs = [] := by simp only [shL, shB, h, Bool.and_false]; rfl
theorem sh_yes {l : List UV} {cs : List Int} (h1 : formB l = true) (h2 : cs.length ≤ 30) (h3 : (cs.all fun x => inB x 0 l.length) = true) : shL l cs = shTo l cs := by
  have : decide (cs.length ≤ 30) = true := by simp; omega
  simp only [shL, shB, h1, h3, this, Bool.and_self, if_true]
theorem cut_in {l : List UV} {cs : List Int} (h3 : (cs.all fun x => inB x 0 l.length) = true) {k : Nat} (hk : k < cs.length) : ∃ q : Nat, cs.getD k 0 = q ∧ q ≤ l.length := by
  have h := List.all_eq_true.1 h3 _ (List.getElem_mem hk)
  obtain ⟨i1, i2⟩ := inB_true h
  refine ⟨cs[k].toNat, ?_, by omega⟩
  simp [List.getD, hk]; omega
theorem nil_turned : turned [] = [] := rfl
theorem shunt1_nil (k : Nat) : shunt1 [] k = [] := by simp [shunt1, turned]

end Go.Proofs.YtnddhpdhbmbikaaDoor
