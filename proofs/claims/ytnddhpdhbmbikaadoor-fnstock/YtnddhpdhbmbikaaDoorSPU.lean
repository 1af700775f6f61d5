/- The pieces of a formation's text: what is parsed of each. -/
import Derived.Test.YtnddhpdhbmbikaaDoorIU
import Derived.Test.YtnddhpdhbmbikaaDoorSPS
import Derived.Test.YtnddhpdhbmbikaaDoorSPN
import Derived.Test.YtnddhpdhbmbikaaDoorTW
namespace Go.Proofs.YtnddhpdhbmbikaaDoor
open Go.RowKit
/-- What a piece tells where it is a unit's text. -/
theorem piece_parts {x : UV} {p : List UInt8} (hx : uOk x = true) (hp : unitL x = p) : ∃ i c m : Nat, x = ⟨i, c, m, x.b⟩ ∧ i < 10000 ∧ c ≤ 9 ∧ m < 10000 ∧ 5 ≤ p.length ∧ splitL 47 ((p.drop 1).take (p.length - 1 - 1)) = [Lib.decDigits i, Lib.decDigits m] ∧ (p.getD 0 0).toNat = 64 + c ∧ ((p.getD (p.length - 1) 0).toNat = 60 ↔ x.b = true) := by
  obtain ⟨i, c, m, hi, hc, hm, i1, i2, c1, c2, m1, m2⟩ := ok_parts hx
  have eL : unitL x = UInt8.ofNat (64 + c) :: (Lib.decDigits i ++ (47 :: (Lib.decDigits m ++ [if x.b then 60 else 62]))) := by
    unfold unitL; rw [hi, hc, hm]; rfl
  have n1 := List.length_pos_iff.2 (dec_ne i)
  have n2 := List.length_pos_iff.2 (dec_ne m)
  rw [eL] at hp
  subst hp
  have e1 : (UInt8.ofNat (64 + c) :: (Lib.decDigits i ++ (47 :: (Lib.decDigits m ++ [if x.b then (60 : UInt8) else 62])))) = UInt8.ofNat (64 + c) :: ((Lib.decDigits i ++ (47 :: Lib.decDigits m)) ++ [if x.b then (60 : UInt8) else 62]) := by simp
  have h47 : ∀ n : Nat, ∀ c ∈ Lib.decDigits n, c ≠ 47 := fun n c hc e => by have := dec_digit n c hc; rw [e] at this; simp at this
  refine ⟨i, c, m, by cases x; simp_all, by omega, by omega, by omega, by simp; omega, ?_, ?_, ?_⟩
  · rw [e1]
    have e2 : ((UInt8.ofNat (64 + c) :: ((Lib.decDigits i ++ (47 :: Lib.decDigits m)) ++ [if x.b then (60 : UInt8) else 62])).drop 1) = (Lib.decDigits i ++ (47 :: Lib.decDigits m)) ++ [if x.b then (60 : UInt8) else 62] := rfl
    have e3 : (UInt8.ofNat (64 + c) :: ((Lib.decDigits i ++ (47 :: Lib.decDigits m)) ++ [if x.b then (60 : UInt8) else 62])).length - 1 - 1 = (Lib.decDigits i ++ (47 :: Lib.decDigits m)).length := by simp
    rw [e2, e3, List.take_left, splitL_cut (h47 i), splitL_one (h47 m)]
  · simpa using letter_nat c c2
  · rw [e1]
    have e4 : ∀ (a : UInt8) (q : List UInt8) (z : UInt8), (a :: (q ++ [z])).getD ((a :: (q ++ [z])).length - 1) 0 = z := by
      intro a q z
      rw [← List.cons_append, show ((a :: q) ++ [z]).length - 1 = (a :: q).length by simp, List.getD, List.getElem?_append_right (Nat.le_refl _)]
      simp
    rw [e4]
    cases x.b <;> simp
theorem unit_no43 {x : UV} (hx : uOk x = true) : ∀ c ∈ unitL x, c ≠ 43 := by
  obtain ⟨i, c, m, hi, hc, hm, i1, i2, c1, c2, m1, m2⟩ := ok_parts hx
  have eL : unitL x = UInt8.ofNat (64 + c) :: (Lib.decDigits i ++ (47 :: (Lib.decDigits m ++ [if x.b then 60 else 62]))) := by
    unfold unitL; rw [hi, hc, hm]; rfl
  have h43 : ∀ n : Nat, ∀ c ∈ Lib.decDigits n, c ≠ 43 := fun n c hc e => by have := dec_digit n c hc; rw [e] at this; simp at this
  rw [eL]
  intro y hy
  rcases List.mem_cons.1 hy with rfl | hy
  · intro e
    have := letter_nat c c2
    rw [e] at this; simp at this; omega
  rcases List.mem_append.1 hy with hy | hy
  · exact h43 i y hy
  rcases List.mem_cons.1 hy with rfl | hy
  · decide
  rcases List.mem_append.1 hy with hy | hy
  · exact h43 m y hy
  · simp only [List.mem_singleton] at hy
    rw [hy]; cases x.b <;> decide
theorem split_join : ∀ {us : List UV}, us ≠ [] → (∀ u ∈ us, uOk u = true) → splitL 43 (joinL us) = us.map unitL
  | [], h, _ => absurd rfl h
  | [u], _, ho => by
    have e : joinL [u] = unitL u := by simp [joinL]
    rw [e, splitL_one (unit_no43 (ho u (by simp)))]; rfl
  | u :: v :: vs, _, ho => by
    have e : joinL (u :: v :: vs) = unitL u ++ (43 :: joinL (v :: vs)) := by simp [joinL]
    rw [e, splitL_cut (unit_no43 (ho u (by simp))), split_join (us := v :: vs) (by simp) (fun x hx => ho x (List.mem_cons_of_mem _ hx))]
    rfl
/-- Where the text is a formation's, its pieces are the units' texts. -/
theorem pieces_of {l : List UInt8} {us : List UV} (hl : l ≠ []) (h45 : l ≠ [45]) (hf : formB us = true) (hs : stockL us = l) : splitL 43 l = us.map unitL ∧ us ≠ [] := by
  have h0 : us ≠ [] := by rintro rfl; rw [stock_nil] at hs; exact h45 hs.symm
  refine ⟨?_, h0⟩
  by_cases h1 : (joinL us).length ≤ 120
  · rw [stock_yes hf h0 h1] at hs
    rw [← hs, split_join h0 (form_oks hf)]
  · rw [stock_long hf h0 (by omega)] at hs
    exact absurd hs.symm hl
/-- What is parsed so far. -/
def PcI (ps : List (List UInt8)) (i : Nat) (us : List UV) : Prop := us.length = i ∧ ∀ j, j < i → ∀ x, uOk x = true → unitL x = ps.getD j [] → us.getD j UV.zero = x
theorem PcI.push {ps : List (List UInt8)} {i : Nat} {us : List UV} {y : UV} (h : PcI ps i us) (hy : ∀ x, uOk x = true → unitL x = ps.getD i [] → y = x) : PcI ps (i + 1) (us ++ [y]) := by
  refine ⟨by simp [h.1], fun j hj x hx hp => ?_⟩
  by_cases hji : j < i
  · have : (us ++ [y]).getD j UV.zero = us.getD j UV.zero := by simp [List.getD, List.getElem?_append_left (show j < us.length by rw [h.1]; exact hji)]
    rw [this]; exact h.2 j hji x hx hp
  · obtain rfl : j = i := by omega
    have : (us ++ [y]).getD j UV.zero = y := by simp [List.getD, ← h.1]
    rw [this]; exact hy x hx hp
theorem PcI.all {l : List UInt8} {us us' : List UV} (h : PcI (splitL 43 l) (splitL 43 l).length us) (hl : l ≠ []) (h45 : l ≠ [45]) (hf : formB us' = true) (hs : stockL us' = l) : us = us' := by
  obtain ⟨e, -⟩ := pieces_of hl h45 hf hs
  have hlen : us.length = us'.length := by rw [h.1, e, List.length_map]
  apply List.ext_getElem hlen
  intro j hj hj'
  have := h.2 j (by rw [← h.1]; exact hj) (us'.getD j UV.zero) (form_u hf hj') (by rw [e]; simp [List.getD, hj'])
  simpa [List.getD, hj, hj'] using this
theorem rds_bad {l : List UInt8} {j : Nat} (hl : l ≠ []) (h45 : l ≠ [45]) (hj : j < (splitL 43 l).length) (hb : ∀ x, uOk x = true → unitL x ≠ (splitL 43 l).getD j []) : RdS l none := by
  refine .inr ⟨rfl, fun us hf hs => ?_⟩
  exfalso
  obtain ⟨e, -⟩ := pieces_of hl h45 hf hs
  have hj' : j < us.length := by rw [e, List.length_map] at hj; exact hj
  exact hb _ (form_u hf hj') (by rw [e]; simp [List.getD, hj'])
theorem rds_end {l : List UInt8} {us : List UV} (h : PcI (splitL 43 l) (splitL 43 l).length us) (hl : l ≠ []) (h45 : l ≠ [45]) : (formB us = true ∧ stockL us = l → RdS l (some us)) ∧ (¬ (formB us = true ∧ stockL us = l) → RdS l none) :=
  ⟨fun ⟨h1, h2⟩ => .inl ⟨us, rfl, h1, h2, hl⟩, fun hn => .inr ⟨rfl, fun us' hf hs => by
    have := h.all hl h45 hf hs
    subst this
    exact absurd ⟨hf, hs⟩ hn⟩⟩
end Go.Proofs.YtnddhpdhbmbikaaDoor
