/- A right net is one whose edges are in range; one step of the model's search. -/
import Derived.Test.YtdjambejppanoaaGD
import Derived.Test.YtdjambejppanoaaTW
import Derived.Test.YtdjambejppanoaaND
namespace Go.Proofs.Ytdjambejppanoaa
open Go.RowKit
theorem Bx2.far {w w1 : World} {b : Nat} {r : Option Nat} {c0 c1 : Value} (h : Bx2 w b c0 c1) (hg : w.grownBy w1 r) (hne : some b ≠ r) : Bx2 w1 b c0 c1 := by
  have hb := hg.block b (cell_lt h.1) hne
  have e : ∀ o, w1.cell? ⟨b, o, none⟩ = w.cell? ⟨b, o, none⟩ := fun o => by simp only [World.cell?]; rw [hb]
  exact ⟨(e 0).trans h.1, (e 1).trans h.2⟩
theorem Bx4.far {w w1 : World} {b : Nat} {r : Option Nat} {c0 c1 c2 c3 : Value} (h : Bx4 w b c0 c1 c2 c3) (hg : w.grownBy w1 r) (hne : some b ≠ r) : Bx4 w1 b c0 c1 c2 c3 := by
  have hb := hg.block b (cell_lt h.1) hne
  have e : ∀ o, w1.cell? ⟨b, o, none⟩ = w.cell? ⟨b, o, none⟩ := fun o => by simp only [World.cell?]; rw [hb]
  exact ⟨(e 0).trans h.1, (e 1).trans h.2.1, (e 2).trans h.2.2.1, (e 3).trans h.2.2.2⟩
theorem net_rg {n : Int} {es : List EdgeV} (h : netB n es = true) : Rg n es ∧ (1 ≤ n ∧ n ≤ 30) ∧ es.length ≤ 60 := by
  simp only [netB, Bool.and_eq_true, decide_eq_true_eq] at h
  obtain ⟨h1, h2, h3⟩ := h
  refine ⟨⟨fun p hp => ?_⟩, inB_true h1, h2⟩
  have h4 := goodTo_at h3 hp
  have e0 : es.getD p EdgeV.zero = es[p] := by simp [List.getD, hp]
  rw [e0] at h4
  simp only [edgeB, nodeB, Bool.and_eq_true, Bool.not_eq_true', decide_eq_false_iff_not] at h4
  have a := inB_true h4.1
  have b := inB_true h4.2.1
  have l := inB_true h4.2.2.2.1
  exact ⟨by omega, by omega, h4.2.2.1, l⟩
theorem lAt_nat (zs : List Int) (x : Nat) : lAt zs (x : Int) = gI zs x := by simp [lAt, gI]
theorem rel_yes {ls cs : List Int} {x y : Nat} {l : Int} (h0 : 0 ≤ gI ls y) (h : gI ls x < 0 ∨ gI ls y + l < gI ls x ∨ (gI ls y + l = gI ls x ∧ gI cs y + 1 < gI cs x)) : relL ls cs (x : Int) (y : Int) l = (ls.set x (gI ls y + l), cs.set x (gI cs y + 1)) := by
  have e : rel1 ls cs (x : Int) (y : Int) l = true := by
    simp only [rel1, lAt_nat, Bool.and_eq_true, Bool.or_eq_true, decide_eq_true_eq]
    exact ⟨h0, h⟩
  unfold relL
  rw [if_pos e, lAt_nat, lAt_nat, Int.toNat_natCast]
theorem rel_no {ls cs : List Int} {x y : Nat} {l : Int} (h : gI ls y < 0 ∨ (0 ≤ gI ls x ∧ gI ls x ≤ gI ls y + l ∧ (gI ls y + l = gI ls x → gI cs x ≤ gI cs y + 1))) : relL ls cs (x : Int) (y : Int) l = (ls, cs) := by
  have e : ¬ rel1 ls cs (x : Int) (y : Int) l = true := by
    simp only [rel1, lAt_nat, Bool.and_eq_true, Bool.or_eq_true, decide_eq_true_eq]
    omega
  unfold relL
  rw [if_neg e]
end Go.Proofs.Ytdjambejppanoaa
