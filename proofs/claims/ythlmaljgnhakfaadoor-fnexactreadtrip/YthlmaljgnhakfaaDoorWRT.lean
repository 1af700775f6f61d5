/- The walk of the law on ReadTrip. -/
import Derived.Test.YthlmaljgnhakfaaDoorURS
import Derived.Test.YthlmaljgnhakfaaDoorP
namespace Go.Proofs.YthlmaljgnhakfaaDoor
open Go.RowKit
def Rt1 (l : List UInt8) (t : TripV) (ok : Bool) : Prop := (ok = true ∧ RdT l (some t)) ∨ (ok = false ∧ RdT l none ∧ t = TripV.zero)
theorem Rt1.unique {l : List UInt8} {t u : TripV} {a b : Bool} (h : Rt1 l t a) (g : Rt1 l u b) : t = u ∧ a = b := by
  rcases h with ⟨rfl, h1⟩ | ⟨rfl, h1, rfl⟩ <;> rcases g with ⟨rfl, g1⟩ | ⟨rfl, g1, rfl⟩
  · have := h1.unique g1; simp only [Option.some.injEq] at this; exact ⟨this, rfl⟩
  · cases h1.unique g1
  · cases h1.unique g1
  · exact ⟨rfl, rfl⟩
theorem Rt1.small {l : List UInt8} {t : TripV} {a : Bool} (h : Rt1 l t a) : t.calls.length ≤ 12 := by
  rcases h with ⟨rfl, h1⟩ | ⟨rfl, h1, rfl⟩
  · rcases h1 with ⟨u, e, h, _⟩ | ⟨e, _⟩
    · cases e; exact (tripM h).2.2.1
    · cases e
  · simp [TripV.zero]
theorem grow_belowT {w0 w w' : World} {r : Option Nat} (hb : Below w0.heap.size w0 w) (h : w.grownBy w' r) (hr : ∀ k, r = some k → w0.heap.size ≤ k) : Below w0.heap.size w0 w' := hb.grown h hb.size hr
set_option maxRecDepth 20000 in
set_option maxHeartbeats 6400000 in
theorem walkReadTrip (l : List UInt8) (w : World) (ht : Tab w) (he : Errs w) (hn : l.length ≤ maxLen) :
    Calls Tryd.prog 4 #[.string ⟨l.toArray⟩] w fun e w' => e = .returned (.bool true) ∧ Below w.heap.size w w' := by
  have HB := Below.refl w.heap.size w
  have hsz := sizeR l
  by_cases hbig : 1048576 < l.length
  · have h1 : (1048576 : Int) < ((⟨l.toArray⟩ : ByteArray).size : Int) := by omega
    generalize (⟨l.toArray⟩ : ByteArray) = t at *
    unfold maxLen at hn
    go_enter Tryd.func4, Tryd.ntmps4
    go_wp2
    go_ret
    exact ⟨rfl, HB⟩
  have hm : l.length ≤ 1048576 := by omega
  have h1 : ¬ ((1048576 : Int) < ((⟨l.toArray⟩ : ByteArray).size : Int)) := by omega
  have CS := cReadTripS l w hm
  have CI := fun W ht he => cReadTripI l W ht he hm
  generalize (⟨l.toArray⟩ : ByteArray) = tx at *
  clear hsz hbig hn
  go_enter Tryd.func4, Tryd.ntmps4
  go_wp2_with fail
  refine CS.mono ?_
  rintro e w1 ⟨hb, ⟨s, cs⟩, a5, p5, ok, rfl, O5, hR0⟩
  have hR : Rt1 l ⟨s, cs⟩ ok := hR0
  have hL := hR.small
  dsimp only at hL O5 ⊢
  have hL20 : cs.length ≤ 1048576 := by omega
  replace HB := btrans HB hb
  have hB5 := own_blk_lt O5
  clear hb hR0 CS
  have hx := balloc w1 (.cells #[.string s, .slice a5 cs.length p5] 26)
  have K5 := one_block' w1 (.cells #[.string s, .slice a5 cs.length p5] 26)
  replace HB := btrans HB hx
  replace O5 := own_keep O5 hx
  clear hx
  go_wp2_with fail
  generalize w1.alloc (.cells #[.string s, .slice a5 cs.length p5] 26) = wA at *
  generalize w1.heap.size = b5 at *
  have hb5 := lt_of_block K5
  refine (CI _ (ht.below HB) (he.below HB)).mono ?_
  rintro e w8 ⟨hb, ⟨s', cs'⟩, a8, p8, ok', rfl, O8, hR'⟩
  obtain ⟨e1, rfl⟩ := hR.unique (show Rt1 l ⟨s', cs'⟩ ok' from hR')
  simp only [TripV.mk.injEq] at e1
  obtain ⟨rfl, rfl⟩ := e1
  dsimp only at O8 ⊢
  have hsw := HB.size
  have hB8 := own_from O8 (Nat.le_refl _)
  replace O5 := own_keep O5 hb
  replace HB := btrans HB hb
  have hb8 := hb
  clear hb hR'
  have hRh := hide hR
  clear hR
  have hj8 := own_blk_lt O8
  replace K5 := blk_keep hb8 K5
  have hx := balloc w8 (.cells #[.string s, .slice a8 cs.length p8] 26)
  have K8 := one_block' w8 (.cells #[.string s, .slice a8 cs.length p8] 26)
  replace K5 := blk_keep hx K5
  replace HB := btrans HB hx
  replace O5 := own_keep O5 hx
  replace O8 := own_keep O8 hx
  clear hx hb8
  obtain ⟨⟨p50, p51⟩, -⟩ := blk2 K5
  obtain ⟨⟨p80, p81⟩, -⟩ := blk2 K8
  cases ok
  all_goals
    go_wp2_with fail
    refine (cEqTrip s a8 a5 p8 p5 cs _ (Halts.own O8) (Halts.own O5) hL20).mono ?_
    rintro e w8b ⟨rfl, hb⟩
    have HBx := btrans HB hb
    have O5x := own_keep O5 hb
    have O8x := own_keep O8 hb
    have K5x := blk_keep hb K5
    have K8x := blk_keep hb K8
    clear hb p50 p51 p80 p81
    obtain ⟨⟨p80, p81⟩, -⟩ := blk2 K8x
    go_wp2_with fail
    refine (cMarkTrip _ cs.length s (.slice a8 cs.length p8) cs _ (.inl O8x) hL20).mono ?_
    rintro e w14 ⟨rfl, R8, r, G14, hr⟩
    have O5y := own_far O5x G14 (fun k hk e => by have h1 := hB5 _ hk; have h2 := hB8 k (hr k e.symm); omega)
    have HBy := grow_belowT HBx G14 (fun k e => by have h2 := hB8 k (hr k e); omega)
    have K5y := far_blk G14 K5x (fun j hj => by have h2 := hB8 j (hr j hj); omega)
    have K8y := far_blk G14 K8x (fun j hj => by have h2 := hj8 j (hr j hj); omega)
    clear G14 O8x O5x HBx p80 p81
    obtain ⟨⟨p80, p81⟩, -⟩ := blk2 K8y
    have hneg : ¬ ((1 : Int) + 3 * (cs.length : Int) < 0) := by omega
    go_wp2_with fail
    refine (cHeldTrip _ cs.length s (.slice a8 cs.length p8) _ R8 hL20).mono ?_
    rintro e w15 ⟨rfl, hb⟩
    have HBy2 := btrans HBy hb
    have O5y2 := own_keep O5y hb
    have R8y := R8.keep hb
    have K5z := blk_keep hb K5y
    have K8z := blk_keep hb K8y
    clear hb O5y R8 HBy
    go_wp2_with fail
    refine (CI _ (ht.below HBy2) (he.below HBy2)).mono ?_
    rintro e w18 ⟨hb, ⟨s', cs'⟩, a9, p9, ok', rfl, O9, hR'⟩
    obtain ⟨e1, rfl⟩ := hRh.out.unique (show Rt1 l ⟨s', cs'⟩ ok' from hR')
    simp only [TripV.mk.injEq] at e1
    obtain ⟨rfl, rfl⟩ := e1
    dsimp only at O9 ⊢
    have HBz := btrans HBy2 hb
    have O5z := own_keep O5y2 hb
    have R8z := R8y.keep hb
    have K5u := blk_keep hb K5z
    have K8u := blk_keep hb K8z
    clear hb hR' HBy2 O5y2 R8y p80 p81
    have hx := balloc w18 (.cells #[.string s, .slice a9 cs.length p9] 26)
    have K9 := one_block' w18 (.cells #[.string s, .slice a9 cs.length p9] 26)
    replace K5u := blk_keep hx K5u
    replace K8u := blk_keep hx K8u
    replace HBz := btrans HBz hx
    replace O5z := own_keep O5z hx
    replace O9 := own_keep O9 hx
    replace R8z := R8z.keep hx
    clear hx
    obtain ⟨⟨p50, p51⟩, -⟩ := blk2 K5u
    obtain ⟨⟨p90, p91⟩, -⟩ := blk2 K9
    go_wp2_with fail
    refine (cEqTrip s a9 a5 p9 p5 cs _ (Halts.own O9) (Halts.own O5z) hL20).mono ?_
    rintro e w19 ⟨rfl, hb⟩
    have HBu := btrans HBz hb
    have R8u := R8z.keep hb
    have K8v := blk_keep hb K8u
    clear hb O9 O5z p50 p51 p90 p91
    obtain ⟨⟨p80, p81⟩, -⟩ := blk2 K8v
    go_wp2_with fail
    refine (cHeldTrip _ cs.length s (.slice a8 cs.length p8) _ R8u hL20).mono ?_
    rintro e w20 ⟨rfl, hb⟩
    have HBv := btrans HBu hb
    clear hb
    go_wp2
    go_ret
    exact ⟨rfl, HBv⟩
end Go.Proofs.YthlmaljgnhakfaaDoor
