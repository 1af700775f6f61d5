/- What a ticket costs: the closure of Split. -/
import Derived.Test.YtepdnaahhkkdeaaCH
import Derived.Test.YtepdnaahhkkdeaaMB
import Derived.Deep.RegionHeld3
namespace Go.Proofs.Ytepdnaahhkkdeaa
open Go.RowKit
set_option maxRecDepth 20000 in
set_option maxHeartbeats 3200000 in
theorem cTicket (tb zb pb cb mb : Nat) (b s r m : Int) (js : List Int) (a : Option Addr) (c : Nat) (za : Option Addr) (zc : Nat) (zs : List Int) (ca : Option Addr) (cc : Nat) (cs : List CardV) (i j : Nat) (w : World)
    (hT : Bx4 w tb (.int .i64 b) (.int .i64 s) (.slice a js.length c) (.int .i64 r)) (hzb : w.cell? ⟨zb, 0, none⟩ = some (.slice za zs.length zc)) (hpb : w.cell? ⟨pb, 0, none⟩ = some (.int .i64 i)) (hcb : w.cell? ⟨cb, 0, none⟩ = some (.slice ca cs.length cc)) (hmb : w.cell? ⟨mb, 0, none⟩ = some (.int .i64 m))
    (hz : Ints w a js) (hl : js.length ≤ 1048576) (hS : Ints w za zs) (hL : Cards w ca cs) (hl2 : cs.length ≤ 1048576) (hi : i < zs.length) (hj : j < zs.length) :
    Calls Try.prog 59 #[.int .i64 j, .pointer (some ⟨tb, 0, none⟩), .pointer (some ⟨zb, 0, none⟩), .pointer (some ⟨pb, 0, none⟩), .pointer (some ⟨cb, 0, none⟩), .pointer (some ⟨mb, 0, none⟩)] w fun e w' => e = .returned (.int .i64 (prc b s js r zs cs m i j)) ∧ Below w.heap.size w w' := by
  have hcell : ∃ b off, za = some ⟨b, off, none⟩ ∧ w.cell? ⟨b, off + i, none⟩ = some (.int .i64 (zs.getD i 0)) ∧ w.cell? ⟨b, off + j, none⟩ = some (.int .i64 (zs.getD j 0)) := by
    rcases hS with h | ⟨b, off, ha, hc⟩
    · simp [h] at hi
    · exact ⟨b, off, ha, hc i hi, hc j hj⟩
  obtain ⟨gb, off, rfl, z0, z1⟩ := hcell
  clear hS
  have R := hide (show prc b s js r zs cs m i j = cardedV b s js r (fareV b s js r (zs.getD i 0) (zs.getD j 0)) cs m from rfl)
  have CF := fun w1 (hb : Below w.heap.size w w1) => cFareI b s r (zs.getD i 0) (zs.getD j 0) js a c w1 (hz.below hb) hl
  generalize zs.getD i 0 = y0 at *
  generalize zs.getD j 0 = y1 at *
  generalize fareV b s js r y0 y1 = f at *
  have CD := fun w1 (hb : Below w.heap.size w w1) => cCardedI b s r f m js a c ca cc cs w1 (hz.below hb) hl (hL.below hb) hl2
  generalize prc b s js r zs cs m i j = P at *
  have hi1 : (0 : Int) ≤ i := by omega
  have hi2 : (i : Int) < zs.length := by omega
  have hj1 : (0 : Int) ≤ j := by omega
  have hj2 : (j : Int) < zs.length := by omega
  obtain ⟨x0, x1, x2, x3⟩ := id hT
  have hD := (Below.refl w.heap.size w).drew
  go_enter Try.func59, Try.ntmps59
  go_wp2_with fail
  go_region_held3 (fun w' => w'.cell? ⟨tb, 0, none⟩ = some (.int .i64 b) ∧ w'.cell? ⟨tb, 1, none⟩ = some (.int .i64 s) ∧ w'.cell? ⟨tb, 2, none⟩ = some (.slice a js.length c) ∧ w'.cell? ⟨tb, 3, none⟩ = some (.int .i64 r) ∧ w'.cell? ⟨gb, off + i, none⟩ = some (.int .i64 y0) ∧ w'.cell? ⟨gb, off + j, none⟩ = some (.int .i64 y1) ∧ w'.cell? ⟨zb, 0, none⟩ = some (.slice (some ⟨gb, off, none⟩) zs.length zc) ∧ w'.cell? ⟨pb, 0, none⟩ = some (.int .i64 i) ∧ w'.cell? ⟨cb, 0, none⟩ = some (.slice ca cs.length cc) ∧ w'.cell? ⟨mb, 0, none⟩ = some (.int .i64 m)) (go_keep) (first
    | (go_at_call 25; with_reducible refine (CD _ Bq).mono ?_; rintro e wp ⟨rfl, hbp⟩; have Bp := btrans Bq hbp; clear hbp; obtain ⟨v0, v1, v2, v3⟩ := hT.c Bp; have v4 := ble Bp z0; have v5 := ble Bp z1; have v6 := ble Bp hzb; have v7 := ble Bp hpb; have v8 := ble Bp hcb; have v9 := ble Bp hmb)
    | (go_at_call 18; with_reducible refine (CF _ hD).mono ?_; rintro e wq ⟨rfl, hbq⟩; have Bq := btrans hD hbq; clear hbq; obtain ⟨v0, v1, v2, v3⟩ := hT.c Bq; have v4 := ble Bq z0; have v5 := ble Bq z1; have v6 := ble Bq hzb; have v7 := ble Bq hpb; have v8 := ble Bq hcb; have v9 := ble Bq hmb))
  go_wp2
  go_ret
  exact ⟨ret_int R.out.symm, Bp⟩
end Go.Proofs.Ytepdnaahhkkdeaa
