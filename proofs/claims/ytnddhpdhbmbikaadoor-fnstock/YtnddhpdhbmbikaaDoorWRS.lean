/- The walk of the law on ReadStock. -/
import Derived.Test.YtnddhpdhbmbikaaDoorSPR
namespace Go.Proofs.YtnddhpdhbmbikaaDoor
open Go.RowKit
def Rd1 (l : List UInt8) (us : List UV) (ok : Bool) : Prop := (RdS l (some us) ∧ ok = true) ∨ (RdS l none ∧ us = [] ∧ ok = false)
theorem Rd1.unique {l : List UInt8} {us vs : List UV} {a b : Bool} (h : Rd1 l us a) (g : Rd1 l vs b) : us = vs ∧ a = b := by
  rcases h with ⟨h1, rfl⟩ | ⟨h1, rfl, rfl⟩ <;> rcases g with ⟨g1, rfl⟩ | ⟨g1, rfl, rfl⟩
  · have := h1.unique g1; simp only [Option.some.injEq] at this; exact ⟨this, rfl⟩
  · cases h1.unique g1
  · cases h1.unique g1
  · exact ⟨rfl, rfl⟩
theorem Rd1.small {l : List UInt8} {us : List UV} {a : Bool} (h : Rd1 l us a) : us.length ≤ 30 := by
  rcases h with ⟨h1, rfl⟩ | ⟨h1, rfl, rfl⟩
  · rcases h1 with ⟨vs, e, h, _⟩ | ⟨e, _⟩
    · cases e; exact (formB_iff.1 h).1
    · cases e
  · simp
theorem RAns.one {w W : World} {l : List UInt8} {e : Ending} (h : RAns w l e W) : ∃ us ok v, Rd1 l us ok ∧ e = .returned (.tuple #[v, .bool ok]) ∧ W.ownsRow w.heap.size 34 4 v us.length (flatUs us) ∧ Below w.heap.size w W := by
  obtain ⟨hb, ⟨us, v, h1, h2, h3⟩ | ⟨h1, h2⟩⟩ := h
  · exact ⟨us, true, v, .inl ⟨h1, rfl⟩, h2, h3, hb⟩
  · exact ⟨[], false, _, .inr ⟨h1, rfl, rfl⟩, h2, World.ownsRow_nil _ _ _ _, hb⟩
theorem grow_below15 {w0 w w' : World} {r : Option Nat} (hb : Below w0.heap.size w0 w) (h : w.grownBy w' r) (hr : ∀ k, r = some k → w0.heap.size ≤ k) : Below w0.heap.size w0 w' := hb.grown h hb.size hr
set_option maxRecDepth 20000 in
set_option maxHeartbeats 6400000 in
theorem walkReadStock (l : List UInt8) (w : World) (b : Addr) (hv : w.cell? ⟨0, 0, none⟩ = some (.iface 127 (.pointer (some b)))) (ht : Tab w) (hn : l.length ≤ maxLen) :
    Calls Tryd.prog 4 #[.string ⟨l.toArray⟩] w fun e w' => e = .returned (.bool true) ∧ Below w.heap.size w w' := by
  have HB := Below.refl w.heap.size w
  have hsz := sizeR l
  by_cases hbig : 1048576 < l.length
  · have h1 : (1048576 : Int) < ((⟨l.toArray⟩ : ByteArray).size : Int) := by omega
    generalize (⟨l.toArray⟩ : ByteArray) = t at *
    unfold maxLen at hn
    go_enter Tryd.func4, Tryd.ntmps4
    go_wp2
    go_ret
    exact ⟨rfl, HB⟩
  have hm : l.length ≤ 1048576 := by omega
  have h1 : ¬ ((1048576 : Int) < ((⟨l.toArray⟩ : ByteArray).size : Int)) := by omega
  have CS := cReadS l w hm
  have CI := fun W hv ht => cReadI l W b hv ht hm
  have hsz2 : (⟨l.toArray⟩ : ByteArray).size ≤ 1048576 := by omega
  generalize (⟨l.toArray⟩ : ByteArray) = t at *
  clear hsz hbig hn
  go_enter Tryd.func4, Tryd.ntmps4
  go_wp2_with fail
  refine CS.mono ?_
  rintro e w1 hA
  obtain ⟨us, ok, v5, hR, rfl, O5, hb⟩ := hA.one
  have hL30 := hR.small
  have hL20 : us.length ≤ 1048576 := by omega
  replace HB := btrans HB hb
  have hB5 := own_blk_lt O5
  clear hb hA CS
  go_wp2_with fail
  refine (CI _ (ble HB hv) (ht.below HB)).mono ?_
  rintro e w8 hA
  obtain ⟨us', ok', v8, hR', rfl, O8, hb⟩ := hA.one
  obtain ⟨rfl, rfl⟩ := hR.unique hR'
  have hsw := HB.size
  have hB8 := own_from O8 (Nat.le_refl _)
  replace O5 := own_keep O5 hb
  replace HB := btrans HB hb
  clear hb hA hR'
  have hRh := hide hR
  clear hR
  cases ok
  all_goals
    go_wp2_with fail
    refine (cEqUsn us.length _ _ v8 v5 us _ (.inl O8) (.inl O5) hL20).mono ?_
    rintro e w8b ⟨rfl, hb⟩
    have HBx := btrans HB hb
    have O5x := own_keep O5 hb
    have O8x := own_keep O8 hb
    clear hb
    go_wp2_with fail
    refine (cMarkUs _ us.length v8 us 1 _ (.inl O8x) hL20 (by omega) (by omega)).mono ?_
    rintro e w14 ⟨rfl, R8, r, G14, hr⟩
    have O5y := own_far O5x G14 (fun k hk e => by have h1 := hB5 _ hk; have h2 := hB8 k (hr k e.symm).2; omega)
    have HBy := grow_below15 HBx G14 (fun k e => by have h2 := hB8 k (hr k e).2; omega)
    clear G14 O8x O5x HBx
    have hneg : ¬ ((1 : Int) + 4 * (us.length : Int) < 0) := by omega
    go_wp2_with fail
    refine (cHeldUs _ us.length v8 1 _ R8 hL20 (by omega) (by omega)).mono ?_
    rintro e w15 ⟨rfl, hw⟩
    subst w15
    go_wp2_with fail
    refine (CI _ (ble HBy hv) (ht.below HBy)).mono ?_
    rintro e w18 hA
    obtain ⟨us', ok', v9, hR', rfl, O9, hb⟩ := hA.one
    obtain ⟨rfl, rfl⟩ := hRh.out.unique hR'
    have HBz := btrans HBy hb
    have O5z := own_keep O5y hb
    have R8z := R8.keep hb
    clear hb hA hR'
    go_wp2_with fail
    refine (cEqUsn us.length _ _ v9 v5 us _ (.inl O9) (.inl O5z) hL20).mono ?_
    rintro e w19 ⟨rfl, hb⟩
    have HBu := btrans HBz hb
    have R8u := R8z.keep hb
    clear hb O9 O5z
    go_wp2_with fail
    refine (cHeldUs _ us.length v8 1 _ R8u hL20 (by omega) (by omega)).mono ?_
    rintro e w20 ⟨rfl, hw⟩
    subst w20
    go_wp2
    go_ret
    exact ⟨rfl, HBu⟩
end Go.Proofs.YtnddhpdhbmbikaaDoor
