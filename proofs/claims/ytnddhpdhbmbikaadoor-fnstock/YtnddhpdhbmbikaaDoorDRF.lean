/- A right formation that is drawn. -/
import Derived.Test.YtnddhpdhbmbikaaDoorDR
namespace Go.Proofs.YtnddhpdhbmbikaaDoor
open Go.RowKit
/-- A drawn right formation, in memory of its own. -/
def DrawnF (w : World) (e : Ending) (w' : World) : Prop :=
  ∃ (l : List UV) (v : Value), e = .returned v ∧ l.length ≤ 30 ∧ formB l = true ∧ w'.ownsRow w.heap.size 34 4 v l.length (flatUs l) ∧ Below w.heap.size w w'
theorem bgrowF {B cb : Nat} {w w1 w2 : World} (h : Below B w w1) (hB : B ≤ cb) (g : w1.grownBy w2 (some cb)) (hs : B ≤ w1.heap.size) : Below B w w2 := h.grown g hs (fun j e => by simp at e; omega)
theorem own_baseF {w : World} {B B' e sz n : Nat} {v : Value} {xs : List Value} (h : w.ownsRow B e sz v n xs) (hB : B' ≤ B) : w.ownsRow B' e sz v n xs := by
  obtain ⟨h1, h2⟩ := h
  refine ⟨h1, ?_⟩
  rcases h2 with h2 | ⟨g, cap, cur, hv, hg, r⟩
  · exact .inl h2
  · exact .inr ⟨g, cap, cur, hv, by omega, r⟩
set_option maxRecDepth 20000 in
set_option maxHeartbeats 3200000 in
theorem cDrawF (cap : Nat) (a : Option Addr) (bs : List Int) (w : World) (hz : Bytes w a bs) (hl : bs.length ≤ 1048576) :
    Calls Tryd.prog 6 #[.slice a bs.length cap] w (DrawnF w) := by
  go_enter Tryd.func6, Tryd.ntmps6
  go_wp2_with fail
  refine (cnew a cap bs _ hz hl).mono ?_
  rintro e w1 ⟨cb, rfl, hcb, C, HB⟩
  have hcl := C.lt (k := cb) (.inl rfl)
  go_wp2_with fail
  refine (csize a bs.length cap 7 _ hl (by omega) (by omega)).mono ?_
  rintro e w' ⟨s, rfl, hs0, hs1, hw⟩
  subst w'
  go_wp2_with fail
  refine (cbelow cb cap a bs s _ C hl (by omega) (by omega)).mono ?_
  rintro e w2 ⟨r, rfl, r0, r1, C2, G⟩
  replace HB := bgrowF HB hcb G HB.size
  have hcl2 := C2.lt (k := cb) (.inl rfl)
  clear C G
  go_wp2_with fail
  refine (cbelow cb cap a bs 90 _ C2 hl (by omega) (by omega)).mono ?_
  rintro e w3 ⟨f, rfl, f0, f1, C3, G⟩
  replace HB := bgrowF HB hcb G HB.size
  clear C2 G
  go_wp2_with fail
  refine (conce cb cap a bs 2 _ C3 hl (by omega) (by omega)).mono ?_
  rintro e w4 ⟨b, rfl, C4, G⟩
  replace HB := bgrowF HB hcb G HB.size
  clear C3 G
  go_wp2_with fail
  refine (cDrawR cb cap a bs r (1 + f) b _ C4 hl (by omega) (by omega) (by omega) (by omega)).mono ?_
  rintro e w5 ⟨l, v, rfl, ⟨hlen, hR⟩, hO, C5, G⟩
  have hsz := HB.size
  replace HB := bgrowF HB hcb G HB.size
  have hf := hR.form (by omega) (by omega) (by omega)
  clear C4 G C5 hR
  go_wp2
  go_ret
  exact ⟨l, v, rfl, by omega, hf, own_baseF hO hsz, HB⟩
end Go.Proofs.YtnddhpdhbmbikaaDoor
