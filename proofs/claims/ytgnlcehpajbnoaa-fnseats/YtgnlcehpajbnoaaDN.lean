/- The mathematics of a seat that is sold and given back. -/
import Derived.Test.YtgnlcehpajbnoaaDM
namespace Go.Proofs.Ytgnlcehpajbnoaa
open Go.RowKit Go.Lib
theorem freeL_eq {S P : Int} {hs : List BkV} (hT : Tr S P hs) {on off : Int} (ha : askB P on off = true) : freeL S P hs on off = freeK hs on off S.toNat := by
  unfold freeL; rw [trainB_iff.2 hT, ha]; rfl
/-- What a sale of a seat tells. -/
structure Sold (S P : Int) (hs : List BkV) (id on off : Int) (ns : List BkV) (x : Int) : Prop where
  tr : Tr S P ns
  back : unbA S P ns id = (hs, true)
  mem : decide (x ∈ freeL S P hs on off) = true
  gone : decide (x ∈ freeL S P ns on off) = false
  least : ∀ s ∈ freeL S P hs on off, ¬ holeF S P hs s on off < holeF S P hs x on off
  ge : 0 ≤ x
  le : x < 60
theorem sold {S P : Int} {hs : List BkV} (hT : Tr S P hs) (id on off : Int) : (bookA S P hs id on off).2 = -1 ∧ (bookA S P hs id on off).1 = hs ∨ Sold S P hs id on off (bookA S P hs id on off).1 (bookA S P hs id on off).2 := by
  have e : bookA S P hs id on off = bookV S P hs id on off := by unfold bookA; rw [trainB_iff.2 hT]; rfl
  have hTn : Tr S P (bookA S P hs id on off).1 := by rw [e]; exact hT.book id on off
  rw [e] at *
  unfold bookV at *
  by_cases hc : maySell hs id = true ∧ 0 ≤ seatV S P hs on off
  · right
    rw [if_pos hc] at *
    obtain ⟨hm, h0⟩ := hc
    obtain ⟨ha, hf⟩ := seatV_in h0
    have hfm := freeK_mem.1 hf
    simp only [maySell, Bool.and_eq_true, decide_eq_true_eq, Bool.not_eq_true'] at hm
    obtain ⟨⟨m1, m2⟩, m3⟩ := hm
    have hne := hasI_no.1 m3
    obtain ⟨a1, a2, a3⟩ := askB_iff.1 ha
    have s1 := hT.s1
    have s2 := hT.s2
    generalize hx : seatV S P hs on off = x at *
    refine ⟨hTn, ?_, ?_, ?_, ?_, h0, by omega⟩
    · unfold unbA
      rw [trainB_iff.2 hTn]
      simp only [if_true, Prod.mk.injEq]
      exact ⟨out_ins (b := ⟨id, x, on, off⟩) hne, hasI_iff.2 ⟨_, insB_mem.2 (.inl rfl), rfl⟩⟩
    · rw [freeL_eq hT ha]; exact decide_eq_true hf
    · refine decide_eq_false fun h => ?_
      rw [freeL_eq hTn ha] at h
      have h3 := freeB_iff.1 (freeK_mem.1 h).2.2 on (Int.le_refl _) a2
      rw [heldB_ins] at h3
      simp [a2] at h3
    · intro s hs' hlt
      rw [freeL_eq hT ha] at hs'
      have hb := bestL_least (holeV hs P on off) (freeK hs on off S.toNat) (fun y hy => (freeK_mem.1 hy).1) s hs'
      have hxe : x = bestL (holeV hs P on off) (freeK hs on off S.toNat) := by rw [← hx]; unfold seatV; rw [if_pos ha]
      rw [← hxe] at hb
      unfold holeF at hlt
      rw [trainB_iff.2 hT, ha, List.contains_iff_mem.2 hs', List.contains_iff_mem.2 hf] at hlt
      simp only [Bool.and_self, if_true] at hlt
      omega
  · left
    rw [if_neg hc]
    exact ⟨rfl, rfl⟩
theorem unb_tr {S P : Int} {hs : List BkV} (hT : Tr S P hs) (id : Int) : unbA S P hs id = (unbV hs id, hasI hs id) := by unfold unbA; rw [trainB_iff.2 hT]; rfl
theorem play_at {S P : Int} {hs : List BkV} {l : List SaV} : ∀ {i j : Nat}, i < j → j ≤ l.length → (playV S P hs (l.take j)).2.getD i 0 = (stepV S P (playV S P hs (l.take i)).1 (l.getD i SaV.zero)).2 := by
  intro i j hij hj
  induction j with
  | zero => omega
  | succ j ih =>
    rw [playV_take (by omega)]
    have hl := playV_len S P hs (l.take j)
    have hl2 : (l.take j).length = j := by rw [List.length_take]; omega
    by_cases h : i = j
    · subst h
      simp [playS, List.getD, hl, hl2]
    · rw [← ih (by omega) (by omega)]
      simp only [playS]
      rw [List.getD, List.getElem?_append_left (by omega)]
      rfl
end Go.Proofs.Ytgnlcehpajbnoaa
