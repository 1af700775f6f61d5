/- Lists of days that are put together day by day. -/
import Derived.Test.YtmchdclieejohaaLA
namespace Go.Proofs.Ytmchdclieejohaa
open Go.RowKit

theorem dOk_nil (W F T : Int) (nm : Bool) : dOk W F T nm [] = true := rfl
theorem dOk_snoc {W F T : Int} {nm : Bool} {xs : List Int} {d : Int} (h : dOk W F T nm xs = true) (hl : xs.length < 20) (hb : ∀ y ∈ xs, y < d) (hF : F ≤ d) (hT : d ≤ T) (hw : wkB W d = nm) : dOk W F T nm (xs ++ [d]) = true := by
  simp only [dOk, goodTo, Bool.and_eq_true, decide_eq_true_eq, List.all_eq_true, List.mem_range] at h ⊢
  obtain ⟨_, h2⟩ := h
  refine ⟨by simp; omega, fun i hi => ?_⟩
  rw [List.length_append, List.length_singleton] at hi
  by_cases hlt : i < xs.length
  · have e : ∀ j, j < xs.length → (xs ++ [d]).getD j 0 = xs.getD j 0 := fun j hj => by simp [List.getD, List.getElem?_append_left hj]
    have := h2 i hlt
    unfold goodAt at this ⊢
    rw [e i hlt, e (i - 1) (by omega)]
    exact this
  · obtain rfl : i = xs.length := by omega
    have e : (xs ++ [d]).getD xs.length 0 = d := by simp [List.getD]
    unfold goodAt
    rw [e]
    have h3 : (xs.length == 0 || decide ((xs ++ [d]).getD (xs.length - 1) 0 < d)) = true := by
      cases hx : xs with
      | nil => rfl
      | cons x r =>
        rw [← hx]
        have hp : xs.length - 1 < xs.length := by rw [hx]; simp
        have e2 : (xs ++ [d]).getD (xs.length - 1) 0 = xs[xs.length - 1] := by simp [List.getD, List.getElem?_append_left hp, hp]
        rw [e2]
        have := hb _ (List.getElem_mem hp)
        simp [this]
    rw [h3, hw]
    simp [inB, hF, hT]
/-- Where a drawn pattern stands ahead of day d. -/
structure DrawAt (W F T : Int) (xs ys : List Int) (d : Int) : Prop where
  ok1 : dOk W F T true xs = true
  ok2 : dOk W F T false ys = true
  b1 : ∀ y ∈ xs, y < d
  b2 : ∀ y ∈ ys, y < d
theorem DrawAt.start (W F T d : Int) : DrawAt W F T [] [] d := ⟨dOk_nil _ _ _ _, dOk_nil _ _ _ _, (fun y hy => by cases hy), (fun y hy => by cases hy)⟩
theorem DrawAt.skip {W F T : Int} {xs ys : List Int} {d : Int} (h : DrawAt W F T xs ys d) : DrawAt W F T xs ys (d + 1) :=
  ⟨h.ok1, h.ok2, fun y hy => by have := h.b1 y hy; omega, fun y hy => by have := h.b2 y hy; omega⟩
theorem DrawAt.put1 {W F T : Int} {xs ys : List Int} {d : Int} (h : DrawAt W F T xs ys d) (hl : xs.length < 20) (hF : F ≤ d) (hT : d ≤ T) (hw : wkB W d = true) : DrawAt W F T (xs ++ [d]) ys (d + 1) :=
  ⟨dOk_snoc h.ok1 hl h.b1 hF hT hw, h.ok2, fun y hy => by
    rw [List.mem_append] at hy
    rcases hy with hy | hy
    · have := h.b1 y hy; omega
    · simp at hy; omega, fun y hy => by have := h.b2 y hy; omega⟩
theorem DrawAt.put2 {W F T : Int} {xs ys : List Int} {d : Int} (h : DrawAt W F T xs ys d) (hl : ys.length < 20) (hF : F ≤ d) (hT : d ≤ T) (hw : wkB W d = false) : DrawAt W F T xs (ys ++ [d]) (d + 1) :=
  ⟨h.ok1, dOk_snoc h.ok2 hl h.b2 hF hT hw, fun y hy => by have := h.b1 y hy; omega, fun y hy => by
    rw [List.mem_append] at hy
    rcases hy with hy | hy
    · have := h.b2 y hy; omega
    · simp at hy; omega⟩
theorem dOk_len {W F T : Int} {nm : Bool} {zs : List Int} (h : dOk W F T nm zs = true) : zs.length ≤ 20 := by
  simp only [dOk, Bool.and_eq_true, decide_eq_true_eq] at h; exact h.1
theorem DrawAt.ok {W F T : Int} {xs ys : List Int} {d : Int} (h : DrawAt W F T xs ys d) (h0 : 0 ≤ W) (h1 : W ≤ 127) (hF : 0 ≤ F) (hFT : F ≤ T) (hT : T ≤ 3650) : patOk W F T xs ys = true := by
  simp only [patOk, h.ok1, h.ok2, Bool.and_true]
  simp [inB]; omega
end Go.Proofs.Ytmchdclieejohaa
