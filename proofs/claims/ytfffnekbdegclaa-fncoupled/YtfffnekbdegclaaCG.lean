/- Couple of the program and of the model. -/
import Derived.Test.YtfffnekbdegclaaCF
namespace Go.Proofs.Ytfffnekbdegclaa
open Go.RowKit
theorem coup_no {a b : List UV} (h : coupB a b = false) : coupL a b = [] := by simp [coupL, h]
theorem coup_yes {a b : List UV} (h : coupB a b = true) : coupL a b = a ++ b := by simp [coupL, h]
theorem row_nil (w : World) (B : Nat) : w.ownsRow B 34 4 (.slice none 0 0) ([] : List UV).length (flatUs []) := World.ownsRow_nil _ _ _ _
theorem run_len {l : List UV} (h : runB l = true) : l.length ≤ 30 := (formB_iff.1 (runB_iff.1 h).1).1
/-- What two lists are coupled to. -/
def AnsC (w : World) (xs ys : List UV) (e : Ending) (w' : World) : Prop :=
  ∃ v, e = .returned (.tuple #[v, .bool (coupB xs ys)]) ∧ w'.ownsRow w.heap.size 34 4 v (coupL xs ys).length (flatUs (coupL xs ys)) ∧ Below w.heap.size w w'
theorem AnsC.no {w w' : World} {xs ys : List UV} (h : coupB xs ys = false) (hb : Below w.heap.size w w') : AnsC w xs ys (.returned (.tuple #[.slice none 0 0, .bool false])) w' := by
  refine ⟨_, by rw [h], ?_, hb⟩
  rw [coup_no h]
  exact row_nil _ _
theorem AnsC.yes {w w' : World} {xs ys : List UV} {v : Value} (h : coupB xs ys = true) (ho : w'.ownsRow w.heap.size 34 4 v (xs ++ ys).length (flatUs (xs ++ ys))) (hb : Below w.heap.size w w') : AnsC w xs ys (.returned (.tuple #[v, .bool true])) w' := by
  refine ⟨_, by rw [h], ?_, hb⟩
  rw [coup_yes h]
  exact ho
theorem own_base {w : World} {B B' e sz n : Nat} {v : Value} {xs : List Value} (h : w.ownsRow B e sz v n xs) (hB : B' ≤ B) : w.ownsRow B' e sz v n xs := by
  obtain ⟨h1, h2⟩ := h
  refine ⟨h1, ?_⟩
  rcases h2 with h2 | ⟨g, cap, cur, hv, hg, r⟩
  · exact .inl h2
  · exact .inr ⟨g, cap, cur, hv, Nat.le_trans hB hg, r⟩

set_option maxRecDepth 20000 in
set_option maxHeartbeats 1600000 in
theorem cCoupI (a1 a2 : Option Addr) (p1 p2 : Nat) (xs ys : List UV) (w : World) (h1 : Us w a1 xs) (h2 : Us w a2 ys) (hl1 : xs.length ≤ p1) (hp1 : p1 ≤ maxLen) (hl2 : ys.length ≤ p2) (hp2 : p2 ≤ maxLen) :
    Calls Try.prog 14 #[.slice a1 xs.length p1, .slice a2 ys.length p2] w (AnsC w xs ys) := by
  have C1 := fun w h => cRunI a1 p1 xs w h hl1 hp1
  have C2 := fun w h => cRunI a2 p2 ys w h hl2 hp2
  have E : Hid (coupB xs ys = (runB xs && runB ys && runB (xs ++ ys))) := rfl
  clear hl1 hp1 hl2 hp2
  go_enter Try.func14, Try.ntmps14
  go_wp2_with fail
  refine (C1 _ h1).mono ?_
  rintro e w1 ⟨rfl, hb1⟩
  cases r1 : runB xs
  · rw [r1] at E
    go_wp2
    go_ret2
    exact AnsC.no (by rw [E.out]; rfl) hb1
  go_wp2_with fail
  refine (C2 _ (h2.below hb1)).mono ?_
  rintro e w2 ⟨rfl, hb2⟩
  have HB := btrans hb1 hb2
  cases r2 : runB ys
  · rw [r1, r2] at E
    go_wp2
    go_ret2
    exact AnsC.no (by rw [E.out]; rfl) HB
  rw [r1, r2] at E
  have l1 := run_len r1
  have l2 := run_len r2
  have hb3 := balloc w2 (.cells #[.slice a1 xs.length p1, .slice a2 ys.length p2] 24)
  have A3 := one_block' w2 (.cells #[.slice a1 xs.length p1, .slice a2 ys.length p2] 24)
  have CC := cConcat w2.heap.size p1 p2 a1 a2 xs ys _ (h1.below (btrans HB hb3)) (h2.below (btrans HB hb3)) (by omega) (by omega) (blk_cell A3 0) (blk_cell A3 1)
  clear C1 C2 hb1 hb2 r1 r2
  go_wp2_with fail
  refine CC.mono ?_
  rintro e w3 ⟨v, rfl, ho, hb4⟩
  have HB4 := btrans (btrans HB hb3) hb4
  have ho' := own_base ho (B' := w.heap.size) ((btrans HB hb3).size)
  clear CC ho
  obtain ⟨Z, hZ⟩ : ∃ Z, Z = xs ++ ys := ⟨_, rfl⟩
  rw [← hZ] at ho' E
  replace hZ := hide hZ
  obtain ⟨va, vc, rfl, v1, v2, v3, v4⟩ := own_room ho'
  have C3 := cRunI va vc Z w3 (Us.own ho') v1 v2
  go_wp2_with fail
  refine C3.mono ?_
  rintro e w5 ⟨rfl, hb5⟩
  have HB5 := btrans HB4 hb5
  have ho5 := own_keep ho' hb5
  clear C3 HB hb3 hb4 HB4 ho' hb5 A3
  cases r3 : runB Z
  · rw [r3] at E
    go_wp2
    go_ret2
    exact AnsC.no (by rw [E.out]; rfl) HB5
  · rw [r3] at E
    go_wp2
    go_ret2
    exact AnsC.yes (by rw [E.out]; rfl) (by rw [← hZ.out]; exact ho5) HB5

set_option maxRecDepth 20000 in
set_option maxHeartbeats 1600000 in
theorem cCoupS (a1 a2 : Option Addr) (p1 p2 : Nat) (xs ys : List UV) (w : World) (h1 : Us w a1 xs) (h2 : Us w a2 ys) (hl1 : xs.length ≤ 1048576) (hl2 : ys.length ≤ 1048576) :
    Calls Try.prog 15 #[.slice a1 xs.length p1, .slice a2 ys.length p2] w (AnsC w xs ys) := by
  have C1 := fun w h => cRunS a1 p1 xs w h (by unfold maxLen; omega)
  have C2 := fun w h => cRunS a2 p2 ys w h (by unfold maxLen; omega)
  have E : Hid (coupB xs ys = (runB xs && runB ys && runB (xs ++ ys))) := rfl
  go_enter Try.func15, Try.ntmps15
  go_wp2_with fail
  refine (C1 _ h1).mono ?_
  rintro e w1 ⟨rfl, hb1⟩
  cases r1 : runB xs
  · rw [r1] at E
    go_wp2
    go_ret2
    exact AnsC.no (by rw [E.out]; rfl) hb1
  go_wp2_with fail
  refine (C2 _ (h2.below hb1)).mono ?_
  rintro e w2 ⟨rfl, hb2⟩
  have HB := btrans hb1 hb2
  cases r2 : runB ys
  · rw [r1, r2] at E
    go_wp2
    go_ret2
    exact AnsC.no (by rw [E.out]; rfl) HB
  rw [r1, r2] at E
  have l1 := run_len r1
  have l2 := run_len r2
  have CJ := fun (w : World) (h1 : Us w a1 xs) (h2 : Us w a2 ys) => cJoin a1 a2 p1 p2 xs ys w h1 h2 (by omega) (by omega)
  clear C1 C2 hb1 hb2 r1 r2
  go_wp2_with fail
  refine (CJ _ (h1.below HB) (h2.below HB)).mono ?_
  rintro e w3 ⟨v, rfl, ho, hb4⟩
  have HB4 := btrans HB hb4
  obtain ⟨Z, hZ⟩ : ∃ Z, Z = xs ++ ys := ⟨_, rfl⟩
  have hZl : Z.length ≤ maxLen := by rw [hZ, List.length_append]; unfold maxLen; omega
  rw [← hZ] at ho E
  simp only [← hZ] at CJ
  replace hZ := hide hZ
  obtain ⟨va, vc, rfl, v1, v2, v3, v4⟩ := own_room ho
  have C3 := cRunS va vc Z w3 (Us.own ho) hZl
  clear ho
  go_wp2_with fail
  refine C3.mono ?_
  rintro e w5 ⟨rfl, hb5⟩
  have HB5 := btrans HB4 hb5
  clear C3 HB hb4 HB4 hb5
  cases r3 : runB Z
  · rw [r3] at E
    go_wp2
    go_ret2
    exact AnsC.no (by rw [E.out]; rfl) HB5
  rw [r3] at E
  go_wp2_with fail
  refine (CJ _ (h1.below HB5) (h2.below HB5)).mono ?_
  rintro e w6 ⟨v, rfl, ho, hb6⟩
  have ho' := own_base ho (B' := w.heap.size) HB5.size
  have HB6 := btrans HB5 hb6
  clear CJ ho hb6
  obtain ⟨va, vc, rfl, -⟩ := own_room ho'
  go_wp2
  go_ret2
  exact AnsC.yes (by rw [E.out]; rfl) (by rw [← hZ.out]; exact ho') HB6
end Go.Proofs.Ytfffnekbdegclaa
