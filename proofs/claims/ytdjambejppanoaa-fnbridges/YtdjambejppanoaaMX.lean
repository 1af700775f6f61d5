/- What Shortest tells of a right net: mathematics. -/
import Derived.Test.YtdjambejppanoaaWK
namespace Go.Proofs.Ytdjambejppanoaa
open Go.RowKit
theorem Kle.len {L M : Int} {ps qs : List Nat} (h : Kle L ps M qs) : L ≤ M := by
  rcases h with h | ⟨h, -⟩ <;> omega
theorem StW.inn {n f tz r : Int} {es : List EdgeV} {xs : List Int} (h : StW n es f tz xs r) (h1 : netB n es = true) (h2 : nodeB n f = true) (h3 : nodeB n tz = true) : ∃ T, StV es f tz T ∧ xs = nI T.way ∧ r = T.len := by
  rcases h with ⟨-, -, -, h⟩ | ⟨h, -⟩
  · exact h
  · exact absurd ⟨h1, h2, h3⟩ h
theorem StV.cases {N : Nat} {es : List EdgeV} (R : Rg (N : Int) es) {f tz : Int} {T : TrialV} (h : StV es f tz T) (hf : 0 ≤ f ∧ f < (N : Int)) : (0 ≤ T.len ∧ T.len ≤ 100000 * (N : Int) ∧ T.way.length + 1 ≤ N ∧ Best es f tz T.way T.len) ∨ (T.len = -1 ∧ T.way = [] ∧ ¬ ∃ ps L, Way es f ps tz L) := by
  rcases h with h | ⟨h1, h2, h3⟩
  · obtain ⟨a, b, c⟩ := h.small R hf
    exact .inl ⟨b, c, a, h⟩
  · exact .inr ⟨h3, h2, h1⟩
theorem StV.reach {N : Nat} {es : List EdgeV} (R : Rg (N : Int) es) {f tz : Int} {T : TrialV} (h : StV es f tz T) (hf : 0 ≤ f ∧ f < (N : Int)) : (0 ≤ T.len) ↔ ∃ ps L, Way es f ps tz L := by
  rcases h.cases R hf with ⟨h1, -, -, h4⟩ | ⟨h1, -, h3⟩
  · exact ⟨fun _ => ⟨_, _, h4.1⟩, fun _ => h1⟩
  · exact ⟨fun g => by omega, fun g => absurd g h3⟩
theorem StV.back {N : Nat} {es : List EdgeV} (R : Rg (N : Int) es) {f tz : Int} {T U : TrialV} (h : StV es f tz T) (g : StV es tz f U) (hf : 0 ≤ f ∧ f < (N : Int)) (ht : 0 ≤ tz ∧ tz < (N : Int)) : T.len = U.len := by
  rcases h.cases R hf with ⟨h1, -, -, h4⟩ | ⟨h1, -, h3⟩ <;> rcases g.cases R ht with ⟨g1, -, -, g4⟩ | ⟨g1, -, g3⟩
  · have a := (h4.2 _ _ g4.1.flip).len
    have b := (g4.2 _ _ h4.1.flip).len
    omega
  · exact absurd ⟨_, _, h4.1.flip⟩ g3
  · exact absurd ⟨_, _, g4.1.flip⟩ h3
  · omega
theorem StV.tri {N : Nat} {es : List EdgeV} (R : Rg (N : Int) es) {f k tz : Int} {T A B : TrialV} (h : StV es f tz T) (ha : StV es f k A) (hb : StV es k tz B) (hf : 0 ≤ f ∧ f < (N : Int)) (hk : 0 ≤ k ∧ k < (N : Int)) (a0 : 0 ≤ A.len) (b0 : 0 ≤ B.len) : T.len ≤ A.len + B.len := by
  rcases ha.cases R hf with ⟨-, -, -, h1⟩ | ⟨h1, -, -⟩
  · rcases hb.cases R hk with ⟨-, -, -, h2⟩ | ⟨h2, -, -⟩
    · have hw := h1.1.app h2.1
      rcases h.cases R hf with ⟨-, -, -, h3⟩ | ⟨-, -, h3⟩
      · exact (h3.2 _ _ hw).len
      · exact absurd ⟨_, _, hw⟩ h3
    · omega
  · omega
theorem nI_cons (p : Nat) (ps : List Nat) : nI (p :: ps) = (p : Int) :: nI ps := rfl
theorem way_wk {N : Int} {es : List EdgeV} (R : Rg N es) {x z L : Int} {ps : List Nat} (h : Way es x ps z L) : ∀ a, wk es (x, a) (nI ps) = some (z, a + L) := by
  induction h with
  | nil x => intro a; simp [nI, wk]
  | cons s _ ih =>
    rename_i x y z l L p ps hw
    intro a
    obtain ⟨e1, e2, hp⟩ := other_st R s
    have e0 : es.getD p EdgeV.zero = es[p] := by simp [List.getD, hp]
    rw [e0] at e1 e2
    have hy := (s.ends R).2.1.1
    have e := step_some (x := x) (p := (p : Int)) rfl hp (by rw [e1]; omega)
    rw [e1, e2] at e
    rw [nI_cons]
    simp only [wk, e]
    rw [ih, Int.add_assoc]
theorem StV.walk {N : Nat} {es : List EdgeV} (hN : netB (N : Int) es = true) {f tz : Int} {T : TrialV} (h : StV es f tz T) (hf : 0 ≤ f ∧ f < (N : Int)) (h0 : 0 ≤ T.len) : walkB (N : Int) es f (nI T.way) = some (tz, T.len) := by
  obtain ⟨R, hn, -⟩ := net_rg hN
  rcases h.cases R hf with ⟨-, -, h3, h4⟩ | ⟨h1, -⟩
  · have e := way_wk R h4.1 0
    rw [Int.zero_add] at e
    rw [← e]
    exact walkB_in hN (inB_yes (by omega) (by omega)) (by rw [nI_len]; omega)
  · omega
end Go.Proofs.Ytdjambejppanoaa
