/- Part of nothing at all. -/
import Derived.Test.YtnddhpdhbmbikaaDoorCH
import Derived.Test.YtnddhpdhbmbikaaDoorDRF
namespace Go.Proofs.YtnddhpdhbmbikaaDoor
open Go.RowKit
set_option maxRecDepth 20000 in
set_option maxHeartbeats 1600000 in
theorem cPartN (w : World) : Calls Tryd.prog 8 #[.slice none 0 0, .int .i64 0] w (AnsP w [] []) := by
  have CF := cFormI none 0 [] w (.inl rfl) (by simp)
  rw [show formB [] = true by decide] at CF
  have CC := fun (w : World) => cClone none 0 ([] : List UV) w (.inl rfl) (fun _ => rfl) (fun x h => by cases h) (by simp)
  simp only [List.length_nil] at CC CF
  have CW := cWithin 0 0 0
  rw [show inB 0 0 0 = true by decide] at CW
  go_enter Tryd.func8, Tryd.ntmps8
  go_wp2_with fail
  refine CF.mono ?_
  rintro e w1 ⟨rfl, hb1⟩
  go_wp2_with fail
  refine (CW _).mono ?_
  rintro e w2 ⟨rfl, hw⟩
  subst hw
  go_wp2_with fail
  go_region_held3 (fun _ => True) (exact trivial) (first
    | (go_at_call 27; with_reducible refine (CC _).mono ?_; rintro e wb ⟨v2, rfl, ho2, hbb⟩; have Bb := btrans Ba hbb; have ho3 := own_keep ho1 hbb)
    | (go_at_call 27; with_reducible refine (CC _).mono ?_; rintro e wa ⟨v1, rfl, ho1, hba⟩; have Ba := undrew hba))
  have HB := btrans hb1 Bb
  have h0 : w2.heap.size ≤ wa.heap.size := Ba.size
  have hs := hb1.size
  have hv := own_blk_lt ho1
  obtain ⟨va1, vc1, rfl⟩ := own_form ho3
  obtain ⟨va2, vc2, rfl⟩ := own_form ho2
  go_wp2
  go_ret2
  exact ⟨_, _, wa.heap.size, rfl, own_base ho3 hs, ho2, by omega, hv, HB⟩
/-- Part of a list in memory of its own, at a place within it. -/
theorem cPartO {B : Nat} {v : Value} {l : List UV} (q : Nat) (w : World) (hq : q ≤ l.length) (hf : formB l = true) (ho : w.ownsRow B 34 4 v l.length (flatUs l)) :
    Calls Tryd.prog 8 #[v, .int .i64 q] w (AnsP w (l.take q) (l.drop q)) := by
  obtain ⟨a, c, rfl, h1, h2, h3, h4⟩ := own_room ho
  have hU := Us.own ho
  cases a with
  | none =>
    have hc := h3 rfl
    subst hc
    have h0 : l = [] := List.length_eq_zero_iff.1 (by omega)
    subst h0
    have hq0 : q = 0 := by simpa using hq
    subst hq0
    exact cPartN w
  | some x =>
    obtain ⟨b, off, sp⟩ := x
    obtain ⟨e1, e2⟩ := h4 _ rfl
    dsimp only at e1 e2
    subst e1 e2
    have := cPartI b 0 c l q w hU h1 h2
    obtain ⟨e1, e2⟩ := part_yes hf hq
    rw [e1, e2] at this
    exact this
end Go.Proofs.YtnddhpdhbmbikaaDoor
