/- A formation's text is read as it was: parse and text agree. -/
import Derived.Test.YtnddhpdhbmbikaaDoorNM
namespace Go.Proofs.YtnddhpdhbmbikaaDoor
open Go.RowKit
theorem nx_drop {l t : List UInt8} {k : Nat} {b : UInt8} (h : l.drop k = b :: t) : nx l k = b ∧ nk l k = k + 1 ∧ l.drop (k + 1) = t ∧ k < l.length := by
  have hk : k < l.length := by
    apply Classical.byContradiction
    intro e
    rw [List.drop_eq_nil_of_le (by omega)] at h
    cases h
  rw [List.drop_eq_getElem_cons hk] at h
  simp only [List.cons.injEq] at h
  refine ⟨?_, by unfold nk; rw [if_pos hk], h.2, hk⟩
  rw [nx, List.getD, List.getElem?_eq_getElem hk]
  exact h.1
theorem nx_cons {l : List UInt8} {k : Nat} (h : k < l.length) : l.drop k = nx l k :: l.drop (k + 1) := by
  rw [List.drop_eq_getElem_cons h, nx, List.getD, List.getElem?_eq_getElem h]; rfl
theorem nx_end {l : List UInt8} {k : Nat} (h : ¬ k < l.length) : nx l k = 0 := by
  rw [nx, List.getD, List.getElem?_eq_none (by omega)]; rfl
theorem dgs_drop {l t ds : List UInt8} {k : Nat} {b : UInt8} (h : l.drop k = ds ++ b :: t) (hd : ∀ c ∈ ds, digB c = true) (hb : digB b = false) : dgs l k = ds ∧ l.drop (k + ds.length) = b :: t := by
  refine ⟨?_, ?_⟩
  · unfold dgs
    rw [h, List.takeWhile_append_of_pos hd, List.takeWhile_cons_of_neg (by simp [hb]), List.append_nil]
  · rw [← List.drop_drop, h, List.drop_left]
theorem ok_parts {u : UV} (h : uOk u = true) : ∃ i c m : Nat, u.i = i ∧ u.c = c ∧ u.m = m ∧ 1 ≤ i ∧ i ≤ 9999 ∧ 1 ≤ c ∧ c ≤ 9 ∧ 1 ≤ m ∧ m ≤ 200 := by
  simp only [uOk, inB, Bool.and_eq_true, decide_eq_true_eq] at h
  exact ⟨u.i.toNat, u.c.toNat, u.m.toNat, by omega, by omega, by omega, by omega, by omega, by omega, by omega, by omega, by omega⟩
theorem letter_nat (c : Nat) (h : c ≤ 9) : (UInt8.ofNat (64 + c)).toNat = 64 + c := by simp; omega
theorem classO_of {c : Nat} (h1 : 1 ≤ c) (h2 : c ≤ 9) : classO (UInt8.ofNat (64 + c)) = some c := by
  unfold classO
  rw [letter_nat c h2, if_pos (by omega)]
  congr 1; omega
theorem endO_of (b : Bool) : endO (if b then 60 else 62) = some b := by cases b <;> rfl
/-- What is printed of a unit is read as it was. -/
theorem unit_print {l R : List UInt8} {k : Nat} {u : UV} (hd : l.drop k = unitL u ++ R) (hu : uOk u = true) : unitO l k = some (u, k + (unitL u).length) ∧ l.drop (k + (unitL u).length) = R := by
  obtain ⟨i, c, m, hi, hc, hm, i1, i2, c1, c2, m1, m2⟩ := ok_parts hu
  have hR : l.drop (k + (unitL u).length) = R := by rw [← List.drop_drop, hd, List.drop_left]
  refine ⟨?_, hR⟩
  have eL : unitL u = UInt8.ofNat (64 + c) :: (Lib.decDigits i ++ (47 :: (Lib.decDigits m ++ [if u.b then 60 else 62]))) := by
    unfold unitL; rw [hi, hc, hm]; rfl
  have hd0 := hd
  rw [eL, List.cons_append] at hd
  obtain ⟨a1, a2, a3, -⟩ := nx_drop hd
  rw [List.append_assoc, List.cons_append] at a3
  obtain ⟨b1, b2⟩ := dgs_drop a3 (digB_dec i) (by decide)
  obtain ⟨d1, d2, d3, -⟩ := nx_drop b2
  rw [List.append_assoc, List.singleton_append] at d3
  obtain ⟨e1, e2⟩ := dgs_drop d3 (digB_dec m) (by cases u.b <;> decide)
  obtain ⟨f1, f2, f3, -⟩ := nx_drop e2
  unfold unitO
  rw [a1, classO_of c1 c2, a2, b1, numO_dec i1 i2, d1, d2, e1, numO_dec m1 m2, f1, endO_of, f2]
  simp only [Option.bind_some, if_pos]
  congr 2
  · cases u; simp_all
  · rw [eL]; simp; omega
theorem drop_dgs (l : List UInt8) (k : Nat) : l.drop k = dgs l k ++ l.drop (k + (dgs l k).length) := by
  rw [← List.drop_drop]
  have h := List.take_append_drop (dgs l k).length (l.drop k)
  rw [show (l.drop k).take (dgs l k).length = dgs l k from tw_take digB _] at h
  exact h.symm
/-- What is read is what is printed of it. -/
theorem unit_read {l : List UInt8} {k k' : Nat} {u : UV} (h : unitO l k = some (u, k')) : uOk u = true ∧ l.drop k = unitL u ++ l.drop k' ∧ k' ≤ l.length := by
  unfold unitO at h
  cases hc : classO (nx l k) with
  | none => rw [hc] at h; cases h
  | some c =>
    rw [hc, Option.bind_some] at h
    have hk : k < l.length := by
      apply Classical.byContradiction; intro e
      rw [nx_end e] at hc
      simp [classO] at hc
    have ek := nx_cons hk
    have nkk : nk l k = k + 1 := by unfold nk; rw [if_pos hk]
    rw [nkk] at h
    unfold classO at hc
    by_cases hcc : 65 ≤ (nx l k).toNat ∧ (nx l k).toNat ≤ 73
    · rw [if_pos hcc] at hc
      have hc' : (nx l k).toNat - 64 = c := by simpa using hc
      cases hi : numO 9999 (dgs l (k + 1)) with
      | none => rw [hi] at h; cases h
      | some i =>
        rw [hi, Option.bind_some] at h
        obtain ⟨i0, i1, i2⟩ := numO_inv (dgs_digit l (k + 1)) hi
        obtain ⟨p, hp⟩ : ∃ p, k + 1 + (dgs l (k + 1)).length = p := ⟨_, rfl⟩
        rw [hp] at h
        by_cases h47 : nx l p = 47
        · rw [if_pos h47] at h
          have hpl : p < l.length := by
            apply Classical.byContradiction; intro e
            rw [nx_end e] at h47; cases h47
          have nkp : nk l p = p + 1 := by unfold nk; rw [if_pos hpl]
          rw [nkp] at h
          cases hm : numO 200 (dgs l (p + 1)) with
          | none => rw [hm] at h; cases h
          | some m =>
            rw [hm, Option.bind_some] at h
            obtain ⟨m0, m1, m2⟩ := numO_inv (dgs_digit l (p + 1)) hm
            obtain ⟨q, hq⟩ : ∃ q, p + 1 + (dgs l (p + 1)).length = q := ⟨_, rfl⟩
            rw [hq] at h
            cases he : endO (nx l q) with
            | none => rw [he] at h; cases h
            | some b =>
              rw [he, Option.bind_some] at h
              have hql : q < l.length := by
                apply Classical.byContradiction; intro e
                rw [nx_end e] at he; simp [endO] at he
              have nkq : nk l q = q + 1 := by unfold nk; rw [if_pos hql]
              rw [nkq] at h
              simp only [Option.some.injEq, Prod.mk.injEq] at h
              obtain ⟨rfl, rfl⟩ := h
              refine ⟨?_, ?_, by omega⟩
              · simp only [uOk, inB, Bool.and_eq_true, decide_eq_true_eq]
                omega
              · have e1 : l.drop (k + 1) = dgs l (k + 1) ++ l.drop p := by
                  rw [← hp]; exact drop_dgs l (k + 1)
                have e2 : l.drop (p + 1) = dgs l (p + 1) ++ l.drop q := by
                  rw [← hq]; exact drop_dgs l (p + 1)
                have e3 : UInt8.ofNat (64 + c) = nx l k := by
                  apply UInt8.toNat_inj.1
                  rw [letter_nat c (by omega)]; omega
                have e4 : (if b then (60 : UInt8) else 62) = nx l q := by
                  unfold endO at he
                  by_cases h62 : nx l q = 62
                  · rw [if_pos h62] at he; cases he; rw [h62]; rfl
                  · rw [if_neg h62] at he
                    by_cases h60 : nx l q = 60
                    · rw [if_pos h60] at he; cases he; rw [h60]; rfl
                    · rw [if_neg h60] at he; cases he
                rw [ek, e1, nx_cons hpl, h47, e2, nx_cons hql]
                unfold unitL
                dsimp only [Int.toNat_natCast]
                rw [i0, m0, e3, e4]
                simp
        · rw [if_neg h47] at h; cases h
    · rw [if_neg hcc] at hc; cases hc
theorem prs_print : ∀ (us : List UV) {l : List UInt8} {k : Nat}, us ≠ [] → (∀ u ∈ us, uOk u = true) → l.drop k = joinL us → k ≤ l.length → Prs l k (some us)
  | [], _, _, h, _, _, _ => absurd rfl h
  | [u], l, k, _, ho, hd, hk => by
    have e : joinL [u] = unitL u ++ [] := by simp [joinL]
    rw [e] at hd
    obtain ⟨h1, h2⟩ := unit_print hd (ho u (by simp))
    have hl := congrArg List.length hd
    simp at hl
    exact Prs.last h1 (by omega)
  | u :: v :: vs, l, k, _, ho, hd, hk => by
    have e : joinL (u :: v :: vs) = unitL u ++ (43 :: joinL (v :: vs)) := by simp [joinL]
    rw [e] at hd
    obtain ⟨h1, h2⟩ := unit_print hd (ho u (by simp))
    obtain ⟨a1, a2, a3, a4⟩ := nx_drop h2
    have ih := prs_print (v :: vs) (l := l) (k := k + (unitL u).length + 1) (by simp) (fun x hx => ho x (List.mem_cons_of_mem _ hx)) a3 (by omega)
    rw [← a2] at ih
    exact Prs.more h1 (by omega) a1 ih
theorem prs_read {l : List UInt8} {k : Nat} {r : Option (List UV)} (h : Prs l k r) : ∀ us, r = some us → us ≠ [] ∧ (∀ u ∈ us, uOk u = true) ∧ l.drop k = joinL us := by
  induction h with
  | bad h => intro us e; cases e
  | last h e =>
    intro us e2
    cases e2
    obtain ⟨h1, h2, h3⟩ := unit_read h
    refine ⟨by simp, fun u hu => by simp only [List.mem_singleton] at hu; rw [hu]; exact h1, ?_⟩
    rw [h2, e, List.drop_length]; simp [joinL]
  | sep h e n => intro us e; cases e
  | more h e n p ih =>
    rename_i k u k' r
    intro us e2
    cases r with
    | none => cases e2
    | some vs =>
      simp only [Option.map_some, Option.some.injEq] at e2
      subst e2
      obtain ⟨h1, h2, h3⟩ := unit_read h
      obtain ⟨v1, v2, v3⟩ := ih vs rfl
      have hl : k' < l.length := by omega
      have hnk : nk l k' = k' + 1 := by unfold nk; rw [if_pos hl]
      rw [hnk] at v3
      refine ⟨by simp, fun x hx => ?_, ?_⟩
      · rcases List.mem_cons.1 hx with rfl | hx
        · exact h1
        · exact v2 x hx
      · rw [h2, nx_cons hl, n, v3]
        cases vs with
        | nil => exact absurd rfl v1
        | cons v vs => simp [joinL]
theorem Rdf.unique {l : List UInt8} {r s : Option (List UV)} (h : Rdf l r) (g : Rdf l s) : r = s := by
  cases h with
  | long h => cases g <;> first | rfl | (subst_vars; simp at h) | omega
  | empty h => cases g <;> first | rfl | (subst_vars; simp at *) | contradiction
  | wrong h1 h2 h3 =>
    cases g with
    | long g => rfl
    | empty g => exact absurd g h2
    | wrong => rfl
    | form => rfl
    | ok _ _ g _ => cases h3.unique g
  | form h1 h2 h3 h4 =>
    cases g with
    | long g => rfl
    | empty g => exact absurd g h2
    | wrong => rfl
    | form => rfl
    | ok _ _ g g2 =>
      have := h3.unique g
      simp only [Option.some.injEq] at this
      rw [this, g2] at h4; cases h4
  | ok h1 h2 h3 h4 =>
    cases g with
    | long g => omega
    | empty g => exact absurd g h2
    | wrong _ _ g => cases h3.unique g
    | form _ _ g g2 =>
      have := h3.unique g
      simp only [Option.some.injEq] at this
      rw [← this, h4] at g2; cases g2
    | ok _ _ g g2 => exact h3.unique g
theorem form_oks {us : List UV} (h : formB us = true) : ∀ u ∈ us, uOk u = true := (form_mem.1 h).2.1
theorem joinL_head {us : List UV} (h : us ≠ []) (ho : ∀ u ∈ us, uOk u = true) : joinL us ≠ [45] := by
  cases us with
  | nil => exact absurd rfl h
  | cons u us =>
    obtain ⟨i, c, m, hi, hc, hm, i1, i2, c1, c2, m1, m2⟩ := ok_parts (ho u (by simp))
    intro e
    have := congrArg List.length e
    simp [joinL, unitL] at this
/-- What is read of a text: a formation whose text it is, or none. -/
def RdS (l : List UInt8) (o : Option (List UV)) : Prop := (∃ us, o = some us ∧ formB us = true ∧ stockL us = l ∧ l ≠ []) ∨ (o = none ∧ ∀ us, formB us = true → stockL us = l → l = [])
theorem rdf_print {l : List UInt8} {us : List UV} (hf : formB us = true) (hs : stockL us = l) (hl : l ≠ []) : Rdf l (some us) := by
  by_cases h0 : us = []
  · subst h0
    rw [stock_nil] at hs
    exact Rdf.empty hs.symm
  · by_cases h1 : (joinL us).length ≤ 120
    · rw [stock_yes hf h0 h1] at hs
      subst hs
      exact Rdf.ok h1 (joinL_head h0 (form_oks hf)) (prs_print us h0 (form_oks hf) (by simp) (Nat.zero_le _)) hf
    · rw [stock_long hf h0 (by omega)] at hs
      exact absurd hs.symm hl
theorem rdf_rdS {l : List UInt8} {o : Option (List UV)} (h : Rdf l o) : RdS l o := by
  cases o with
  | none =>
    refine .inr ⟨rfl, fun us h1 h2 => ?_⟩
    apply Classical.byContradiction
    intro hl
    have := h.unique (rdf_print h1 h2 hl)
    cases this
  | some us =>
    refine .inl ⟨us, rfl, ?_⟩
    cases h with
    | empty h => subst h; exact ⟨by decide, stock_nil, by simp⟩
    | ok h1 h2 h3 h4 =>
      obtain ⟨g1, g2, g3⟩ := prs_read h3 us rfl
      simp only [List.drop_zero] at g3
      refine ⟨h4, ?_, ?_⟩
      · rw [stock_yes h4 g1 (by rw [← g3]; exact h1), ← g3]
      · rw [g3]
        cases us with
        | nil => exact absurd rfl g1
        | cons u us => simp [joinL, unitL]
theorem RdS.unique {l : List UInt8} {o p : Option (List UV)} (h : RdS l o) (g : RdS l p) : o = p := by
  rcases h with ⟨us, rfl, h1, h2, h3⟩ | ⟨rfl, h1⟩
  · rcases g with ⟨vs, rfl, g1, g2, g3⟩ | ⟨rfl, g1⟩
    · exact (rdf_print h1 h2 h3).unique (rdf_print g1 g2 g3)
    · exact absurd (g1 us h1 h2) h3
  · rcases g with ⟨vs, rfl, g1, g2, g3⟩ | ⟨rfl, g1⟩
    · exact absurd (h1 vs g1 g2) g3
    · rfl
end Go.Proofs.YtnddhpdhbmbikaaDoor
