/- A formation read of a text: the program's readForm. -/
import Derived.Test.YtnddhpdhbmbikaaDoorRG
import Derived.Test.YtnddhpdhbmbikaaDoorTX
namespace Go.Proofs.YtnddhpdhbmbikaaDoor
open Go.RowKit
/-- What is read of a text. -/
inductive Rdf (l : List UInt8) : Option (List UV) → Prop
  | long : 120 < l.length → Rdf l none
  | empty : l = [45] → Rdf l (some [])
  | wrong : l.length ≤ 120 → l ≠ [45] → Prs l 0 none → Rdf l none
  | form {us : List UV} : l.length ≤ 120 → l ≠ [45] → Prs l 0 (some us) → formB us = false → Rdf l none
  | ok {us : List UV} : l.length ≤ 120 → l ≠ [45] → Prs l 0 (some us) → formB us = true → Rdf l (some us)
/-- An error whose chain comes down to errMisread. -/
def Chn (T : TypeId) (u x : Value) : Prop := (∃ m, x = mis m (.iface T u)) ∨ ∃ m m', x = mis m (mis m' (.iface T u))
def FAns (w : World) (l : List UInt8) (T : TypeId) (u : Value) (e : Ending) (W : World) : Prop :=
  Below w.heap.size w W ∧ ((∃ us v, Rdf l (some us) ∧ e = .returned (.tuple #[v, .nilIface]) ∧ W.ownsRow w.heap.size 34 4 v us.length (flatUs us)) ∨ (Rdf l none ∧ ∃ x, Chn T u x ∧ e = .returned (.tuple #[.slice none 0 0, x])))
theorem own_baseR {w : World} {B B' e sz n : Nat} {v : Value} {xs : List Value} (h : w.ownsRow B e sz v n xs) (hB : B' ≤ B) : w.ownsRow B' e sz v n xs := by
  obtain ⟨h1, h2⟩ := h
  refine ⟨h1, ?_⟩
  rcases h2 with h2 | ⟨g, cap, cur, hv, hg, r⟩
  · exact .inl h2
  · exact .inr ⟨g, cap, cur, hv, by omega, r⟩
set_option maxRecDepth 1000000 in
set_option maxHeartbeats 3200000 in
theorem cReadF (l : List UInt8) (w : World) (T : TypeId) (u : Value) (hv : w.cell? ⟨0, 0, none⟩ = some (.iface T u)) (ht : Tab w) (hm : l.length ≤ 1048576) :
    Calls Tryd.prog 37 #[.string ⟨l.toArray⟩] w (FAns w l T u) := by
  have hw0 : 0 < w.heap.size := cell_lt hv
  have hsz := sizeR l
  by_cases h120 : 120 < l.length
  · have hb : Hid (Rdf l none) := hide (Rdf.long h120)
    have h1 : (120 : Int) < ((⟨l.toArray⟩ : ByteArray).size : Int) := by omega
    generalize (⟨l.toArray⟩ : ByteArray) = t at *
    go_enter Tryd.func37, Tryd.ntmps37
    go_wp2_with fail
    go_region_held3 (fun w' => w'.cell? ⟨0, 0, none⟩ = some (.iface T u)) (exact hv) (fail)
    go_wp2
    go_ret2
    exact ⟨⟨rfl, rfl, rfl, Nat.le_refl _, fun _ _ => rfl⟩, .inr ⟨hb.out, _, .inl ⟨_, rfl⟩, rfl⟩⟩
  have h1 : ¬ ((120 : Int) < ((⟨l.toArray⟩ : ByteArray).size : Int)) := by omega
  by_cases h45 : l = [45]
  · subst h45
    have hb : Hid (Rdf [45] (some [])) := hide (Rdf.empty rfl)
    go_enter Tryd.func37, Tryd.ntmps37
    go_wp2
    go_ret2
    exact ⟨Below.refl _ _, .inl ⟨[], _, hb.out, rfl, World.ownsRow_nil _ _ _ _⟩⟩
  have hn45 : ((⟨l.toArray⟩ : ByteArray).toList == [45]) = false := by
    rw [ByteArray.toList_eq, beq_eq_false_iff_ne]
    exact h45
  have hS : Sg (w.alloc (.cells #[.string ⟨l.toArray⟩, .int .i64 0] 79)) w.heap.size 0 l := one_block' w _
  have hB := balloc w (.cells #[.string ⟨l.toArray⟩, .int .i64 0] 79)
  have CU := cUnits w.heap.size 0 l _ T u (ble hB hv) hw0 hS (Nat.zero_le _) hm
  generalize (⟨l.toArray⟩ : ByteArray) = t at *
  go_enter Tryd.func37, Tryd.ntmps37
  go_wp2_with fail
  refine CU.mono ?_
  rintro e W1 ⟨hR, us, v, hul, hrow, hcase⟩
  have HB := hB.trans hR.bel
  have va := ble HB hv
  have ta := ht.below HB
  obtain ⟨a, c, rfl⟩ := own_form hrow
  have hrow2 := own_baseR (B' := w.heap.size) hrow (by simp; omega)
  have hU := Us.own hrow
  clear CU hB hR hS hv
  rcases hcase with ⟨hp, rfl⟩ | ⟨hp, m, rfl⟩
  · have CF := cFormI a c us W1 hU (by unfold maxLen; omega)
    cases hf : formB us
    · have hb := hide (Rdf.form (by omega) h45 hp hf)
      rw [hf] at CF
      clear hf
      go_wp2_with fail
      refine CF.mono ?_
      rintro e W2 ⟨rfl, hb2⟩
      have v2 := ble hb2 va
      go_wp2_with fail
      go_region_held3 (fun w' => w'.cell? ⟨0, 0, none⟩ = some (.iface T u)) (exact v2) (fail)
      go_wp2
      go_ret2
      exact ⟨btrans HB (btrans hb2 ⟨rfl, rfl, rfl, Nat.le_refl _, fun _ _ => rfl⟩), .inr ⟨hb.out, _, .inl ⟨_, rfl⟩, rfl⟩⟩
    · have hb := hide (Rdf.ok (by omega) h45 hp hf)
      rw [hf] at CF
      clear hf
      go_wp2_with fail
      refine CF.mono ?_
      rintro e W2 ⟨rfl, hb2⟩
      go_wp2
      go_ret2
      exact ⟨btrans HB hb2, .inl ⟨us, _, hb.out, rfl, own_keep hrow2 hb2⟩⟩
  · have hb := hide (Rdf.wrong (by omega) h45 hp)
    have CI := fun w ht => cItoa us.length w ht (by omega)
    have l1 := dec_le us.length (by omega)
    generalize Lib.decDigits us.length = A at *
    have n1 : ¬ 9223372036854775807 < 5 + A.length := by omega
    go_wp2_with fail
    refine (CI _ ta).mono ?_
    rintro e W2 ⟨rfl, hb2⟩
    go_wp2
    go_ret2
    exact ⟨btrans HB hb2, .inr ⟨hb.out, _, .inr ⟨_, _, rfl⟩, rfl⟩⟩
end Go.Proofs.YtnddhpdhbmbikaaDoor
