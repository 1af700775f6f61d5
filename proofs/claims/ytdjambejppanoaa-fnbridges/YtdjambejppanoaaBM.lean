/- Bridges of a net: mathematics, and the model's. -/
import Derived.Test.YtdjambejppanoaaRI
import Derived.Test.YtdjambejppanoaaCU
import Derived.Test.YtdjambejppanoaaPM
import Derived.Maps.AppendAt
import Derived.Deep.RegionHeld3
namespace Go.Proofs.Ytdjambejppanoaa
open Go.RowKit
theorem goodTo_all {n : Int} {es : List EdgeV} : goodTo n es es.length = es.all (edgeB n) := by
  rw [Bool.eq_iff_iff]
  simp only [goodTo, List.all_eq_true, List.mem_range]
  constructor
  · intro h e he
    obtain ⟨i, hi, rfl⟩ := List.getElem_of_mem he
    have := h i hi
    simpa [List.getD, hi] using this
  · intro h i hi
    have := h es[i] (List.getElem_mem hi)
    simpa [List.getD, hi] using this
theorem netB_erase {n : Int} {es : List EdgeV} (h : netB n es = true) (v : Nat) : netB n (es.eraseIdx v) = true := by
  simp only [netB, goodTo_all, Bool.and_eq_true, decide_eq_true_eq] at h ⊢
  refine ⟨h.1, ?_, ?_⟩
  · have := List.length_eraseIdx_le es v
    omega
  · rw [List.all_eq_true]
    intro e he
    exact List.all_eq_true.1 h.2.2 e (List.mem_of_mem_eraseIdx he)
theorem cut_at {n : Int} {es : List EdgeV} (h : netB n es = true) {v : Nat} (hv : v < es.length) : cutN n es (v : Int) = n ∧ cutE n es (v : Int) = es.eraseIdx v := by
  have hp : placeB es.length (v : Int) = true := by unfold placeB; exact inB_yes (by omega) (by omega)
  unfold cutN cutE
  rw [if_pos ⟨h, hp⟩, if_pos ⟨h, hp⟩, Int.toNat_natCast]
  exact ⟨rfl, rfl⟩
/-- Without edge v no way leads from its one end to the other. -/
def Brg (es : List EdgeV) (v : Nat) : Prop := ¬ ∃ ps L, Way (es.eraseIdx v) (es.getD v EdgeV.zero).a ps (es.getD v EdgeV.zero).b L
theorem Brg.bst {N v : Nat} {es : List EdgeV} {ls cs : List Int} (h : Bst N (es.eraseIdx v) (es.getD v EdgeV.zero).a ls cs) (hb : 0 ≤ (es.getD v EdgeV.zero).b ∧ (es.getD v EdgeV.zero).b < (N : Int)) : Brg es v ↔ gI ls (es.getD v EdgeV.zero).b.toNat < 0 := by
  have h1 := h.reach hb
  have e1 : lAt ls (es.getD v EdgeV.zero).b = gI ls (es.getD v EdgeV.zero).b.toNat := by
    generalize (es.getD v EdgeV.zero).b = b at *
    obtain ⟨k, rfl⟩ : ∃ k : Nat, b = (k : Int) := ⟨b.toNat, by omega⟩
    rw [lAt_nat, Int.toNat_natCast]
  rw [e1] at h1
  unfold Brg
  constructor
  · intro g
    rcases Int.lt_or_le (gI ls (es.getD v EdgeV.zero).b.toNat) 0 with q | q
    · exact q
    · obtain ⟨ps, L, hw⟩ := h1.1 q
      exact absurd ⟨_, _, hw.flip⟩ g
  · rintro g ⟨ps, L, hw⟩
    have := h1.2 ⟨_, _, hw.flip⟩
    omega
theorem Brg.rch {N : Int} {v : Nat} {es : List EdgeV} {rs : List Int} (h : IsRch N (es.eraseIdx v) (es.getD v EdgeV.zero).a rs) (hb : 0 ≤ (es.getD v EdgeV.zero).b ∧ (es.getD v EdgeV.zero).b < N) : Brg es v ↔ (es.getD v EdgeV.zero).b ∉ rs := by
  rw [h.2]
  unfold Brg
  constructor
  · rintro g ⟨-, h⟩; exact g h
  · rintro g ⟨ps, L, hw⟩; exact g ⟨hb, ps, L, hw⟩
/-- The bridges below i, in order. -/
def BrTo (es : List EdgeV) (i : Nat) (xs : List Int) : Prop := xs.Pairwise (· < ·) ∧ ∀ v : Int, v ∈ xs ↔ (0 ≤ v ∧ v < (i : Int)) ∧ Brg es v.toNat
theorem BrTo.nil (es : List EdgeV) : BrTo es 0 [] := ⟨by simp, fun v => by simp; omega⟩
theorem BrTo.yes {es : List EdgeV} {i : Nat} {xs : List Int} (h : BrTo es i xs) (g : Brg es i) : BrTo es (i + 1) (xs ++ [(i : Int)]) := by
  refine ⟨?_, fun v => ?_⟩
  · rw [List.pairwise_append]
    refine ⟨h.1, by simp, fun a ha b hb => ?_⟩
    have := (h.2 a).1 ha
    simp at hb; omega
  · rw [List.mem_append, h.2 v, List.mem_singleton]
    constructor
    · rintro (⟨h1, h2⟩ | rfl)
      · exact ⟨by omega, h2⟩
      · exact ⟨by omega, by simpa using g⟩
    · rintro ⟨h1, h2⟩
      by_cases e : v = (i : Int)
      · exact .inr e
      · exact .inl ⟨by omega, h2⟩
theorem BrTo.no {es : List EdgeV} {i : Nat} {xs : List Int} (h : BrTo es i xs) (g : ¬ Brg es i) : BrTo es (i + 1) xs := by
  refine ⟨h.1, fun v => ?_⟩
  rw [h.2 v]
  constructor
  · rintro ⟨h1, h2⟩; exact ⟨by omega, h2⟩
  · rintro ⟨h1, h2⟩
    refine ⟨?_, h2⟩
    by_cases e : v = (i : Int)
    · subst e; simp at h2; exact absurd h2 g
    · omega
theorem BrTo.len {es : List EdgeV} {i : Nat} {xs : List Int} (h : BrTo es i xs) : xs.length ≤ i :=
  pigeon i xs (h.1.imp (fun h => by omega)) (fun v hv => ((h.2 v).1 hv).1)
/-- What Bridges tells. -/
def BrV (n : Int) (es : List EdgeV) (xs : List Int) : Prop := (netB n es = true ∧ BrTo es es.length xs) ∨ (netB n es = false ∧ xs = [])
theorem BrV.unique {n : Int} {es : List EdgeV} {xs ys : List Int} (h : BrV n es xs) (g : BrV n es ys) : xs = ys := by
  rcases h with ⟨h0, h1⟩ | ⟨h0, h1⟩ <;> rcases g with ⟨g0, g1⟩ | ⟨g0, g1⟩
  · exact sorted_one xs ys h1.1 g1.1 (fun v => (h1.2 v).trans (g1.2 v).symm)
  · rw [h0] at g0; cases g0
  · rw [h0] at g0; cases g0
  · rw [h1, g1]
theorem BrV.small {n : Int} {es : List EdgeV} {xs : List Int} (h : BrV n es xs) : xs.length ≤ 1000 := by
  rcases h with ⟨h0, h1⟩ | ⟨-, rfl⟩
  · have := h1.len; have := (net_rg h0).2.2; omega
  · simp
end Go.Proofs.Ytdjambejppanoaa
