/- Forward of the model. -/
import Derived.Test.YtnbfkkmjehhihaaDoorZC
namespace Go.Proofs.YtnbfkkmjehhihaaDoor
open Go.RowKit

theorem ahead_end {n : Int} {ts : List SpanV} {q : Nat} {y : Int} (h0 : 0 ≤ y) (h3 : y ≤ 3) (hn : fAt ts q + 1 = n) : ahead n ts q y = y := by
  unfold ahead
  rw [hn]
  have := asp_end (bs := takens ts n.toNat) h0 h3
  rwa [takens_len] at this

theorem szlt {w : World} {o : Obj} {k : Nat} (h : (w.alloc o).heap.size ≤ k) : w.heap.size < k := by rw [sz1] at h; exact h
theorem szltd {w : World} {o : Obj} {k : Nat} (h : (w.alloc o).drew.heap.size ≤ k) : w.heap.size < k := szlt h

set_option maxRecDepth 20000 in
set_option maxHeartbeats 6400000 in
theorem cFwdS (a : Option Addr) (cap : Nat) (n : Int) (ts : List SpanV) (k y : Int) (w : World) (he : Spans w a ts) (hl : ts.length ≤ 1048576) :
    Calls Tryd.prog 20 #[.int .i64 n, .slice a ts.length cap, .int .i64 k, .int .i64 y] w fun e w' => ∃ v, e = .returned (.tuple #[v, .bool (fwdR n ts k y).isSome]) ∧
      w'.ownsRow w.heap.size 52 2 v ((fwdR n ts k y).getD []).length (flatSpans ((fwdR n ts k y).getD [])) ∧ Below w.heap.size w w' := by
  cases h : trainsOk n ts
  · have R := hide (fwdR_no (k := k) (y := y) h)
    generalize fwdR n ts k y = r at *
    go_enter Tryd.func20, Tryd.ntmps20
    go_wp2_with fail
    refine (cTrainsS a cap n ts _ he hl).mono ?_
    rintro e w1 ⟨rfl, hb1⟩
    rw [h]
    go_wp2
    go_ret2
    exact ⟨_, by rw [R.out]; rfl, by rw [R.out]; exact nil_row _ _, hb1⟩
  rw [fwdR_yes h]
  cases hp : inB k 0 ((ts.length : Int) - 1)
  · have R := hide (fwd_place (n := n) (y := y) hp)
    generalize fwd n ts k y = r at *
    go_enter Tryd.func20, Tryd.ntmps20
    go_wp2_with fail
    refine (cTrainsS a cap n ts _ he hl).mono ?_
    rintro e w1 ⟨rfl, hb1⟩
    rw [h]
    go_wp2_with fail
    refine (cInV hp _).mono ?_
    rintro e w2 ⟨rfl, hw⟩
    subst w2
    go_wp2
    go_ret2
    exact ⟨_, by rw [R.out]; rfl, by rw [R.out]; exact nil_row _ _, hb1⟩
  cases hy : inB y 0 3
  · have R := hide (fwd_beyond (n := n) (ts := ts) (k := k) hy)
    generalize fwd n ts k y = r at *
    go_enter Tryd.func20, Tryd.ntmps20
    go_wp2_with fail
    refine (cTrainsS a cap n ts _ he hl).mono ?_
    rintro e w1 ⟨rfl, hb1⟩
    rw [h]
    go_wp2_with fail
    refine (cInV hp _).mono ?_
    rintro e w2 ⟨rfl, hw⟩
    subst w2
    go_wp2_with fail
    refine (cInV hy _).mono ?_
    rintro e w2 ⟨rfl, hw⟩
    subst w2
    go_wp2
    go_ret2
    exact ⟨_, by rw [R.out]; rfl, by rw [R.out]; exact nil_row _ _, hb1⟩
  obtain ⟨q, rfl, hq⟩ := place_of hp
  obtain ⟨hy0, hy3⟩ := inB_true hy
  obtain ⟨hh1, hh2, _⟩ := trains_of h
  obtain ⟨n1, n2⟩ := inB_true hh1
  have hat := ok_at h hq
  have hTK := takens_len ts n.toNat
  have hTL := takenL_yes h
  have CT := fun w he => cTakenS a cap n ts w he hl
  have CA := fun a cap w (hz : Bools w a (takens ts n.toNat)) => cAspS a cap (takens ts n.toNat) y w hz (by rw [hTK]; omega)
  have CP := fun x y gone w he => cPut a cap ts (q : Int) x y gone w he hl
  rw [hTL, hTK] at CT
  have hAL : (aspects (takens ts n.toNat) y) = asps (takens ts n.toNat) y (takens ts n.toNat).length := aspects_yes (by rw [hTK]; omega) hy
  rw [hAL, hTK, asps_len] at CA
  have hAg : ∀ j, j < n.toNat → ((asps (takens ts n.toNat) y n.toNat).map (Value.int .i64))[j]? = some (.int .i64 (asp (takens ts n.toNat) y j)) := fun j hj => by simp [asps, hj]
  have hA : Hid (ahead n ts q y = asp (takens ts n.toNat) y (fAt ts q + 1).toNat) := rfl
  have hR1 : ahead n ts q y = 0 → fwd n ts (q : Int) y = none := fun h => fwd_red h
  have hR2 : ahead n ts q y ≠ 0 → fwd n ts (q : Int) y = some (moved n ts q) := fun h => fwd_go hp hy h
  have hM1 : fAt ts q + 1 = n → moved n ts q = putTo ts (q : Int) ⟨rAt ts q, fAt ts q⟩ true ts.length := fun hn => by
    unfold moved; rw [if_pos hn, putTo_gone (ok_last h hq hn)]
  have hM2 : fAt ts q + 1 ≠ n → moved n ts q = putTo ts (q : Int) ⟨rAt ts q, fAt ts q + 1⟩ false ts.length := fun hn => by
    unfold moved; rw [if_neg hn, putTo_set hq _ (Nat.le_refl _)]
    rw [List.take_of_length_le (by simp)]
  have hE : fAt ts q + 1 = n → ahead n ts q y = y := fun hn => ahead_end hy0 hy3 hn
  have hcs : ∃ b off, a = some ⟨b, off, none⟩ ∧ w.cell? ⟨b, off + q * 2, none⟩ = some (.int .i64 (rAt ts q)) ∧ w.cell? ⟨b, off + q * 2 + 1, none⟩ = some (.int .i64 (fAt ts q)) := by
    rcases he with he | ⟨b, off, rfl, hc⟩
    · simp [he] at hq
    · exact ⟨b, off, rfl, (hc q hq).1, (hc q hq).2⟩
  obtain ⟨ba, off, rfl, p0, p1⟩ := hcs
  generalize ahead n ts q y = A at *
  generalize fwd n ts (q : Int) y = r at *
  generalize moved n ts q = M at *
  obtain ⟨x, hx⟩ : ∃ x : Nat, fAt ts q = x := ⟨(fAt ts q).toNat, by omega⟩
  obtain ⟨Nn, rfl⟩ := Int.eq_ofNat_of_zero_le (show 0 ≤ n by omega)
  rw [hx] at p1 hA hM1 hM2 hE hat
  rw [show ((x : Int) + 1).toNat = x + 1 by omega] at hA
  rw [Int.toNat_natCast] at CT CA hA hAg
  generalize asp (takens ts Nn) y = f at *
  generalize asps (takens ts Nn) y Nn = AL at *
  generalize takens ts Nn = TK at *
  generalize rAt ts q = xr at *
  clear hTK hTL hAL hx hh1 hp
  have hp : inB (q : Int) 0 ((ts.length : Int) - 1) = true := inB_yes (by omega) (by omega)
  have hqi : (q : Int) < (ts.length : Int) := by omega
  have hxN : x < Nn := by omega
  by_cases hN : (x : Int) + 1 = (Nn : Int)
  · have hM := hide (hM1 hN)
    have hE' := hE hN
    have hN2 : decide ((x : Int) = (Nn : Int) - 1) = true := decide_eq_true (by omega)
    have hN3 : ((x : Int) == (Nn : Int) - 1) = true := hN2
    replace hE' := hide hE'
    have CPx := fun w he => CP xr (x : Int) true w he
    generalize putTo ts (q : Int) ⟨xr, (x : Int)⟩ true ts.length = PT at *
    clear hM1 hM2 hE CT CA CP hAg hA hN
    by_cases hy' : y = 0
    · have R := hide (hR1 (hE'.out.trans hy'))
      clear hR1 hR2 hE' CPx
      subst hy'
      go_enter Tryd.func20, Tryd.ntmps20
      go_wp2_with fail
      refine (cTrainsS _ cap (Nn : Int) ts _ he hl).mono ?_
      rintro e w1 ⟨rfl, hb1⟩
      rw [h]
      go_wp2_with fail
      refine (cInV hp _).mono ?_
      rintro e w2 ⟨rfl, hw⟩
      subst w2
      go_wp2_with fail
      refine (cInV hy _).mono ?_
      rintro e w2 ⟨rfl, hw⟩
      subst w2
      have P0 := ble hb1 p0
      have P1 := ble hb1 p1
      go_wp2
      go_ret2
      exact ⟨_, by rw [R.out]; rfl, by rw [R.out]; exact nil_row _ _, btrans hb1 (balloc _ _)⟩
    · have R := hide (hR2 (by rw [hE'.out]; exact hy'))
      clear hR1 hR2 hE'
      go_enter Tryd.func20, Tryd.ntmps20
      go_wp2_with fail
      refine (cTrainsS _ cap (Nn : Int) ts _ he hl).mono ?_
      rintro e w1 ⟨rfl, hb1⟩
      rw [h]
      go_wp2_with fail
      refine (cInV hp _).mono ?_
      rintro e w2 ⟨rfl, hw⟩
      subst w2
      go_wp2_with fail
      refine (cInV hy _).mono ?_
      rintro e w2 ⟨rfl, hw⟩
      subst w2
      have P0 := ble hb1 p0
      have P1 := ble hb1 p1
      have HB1 := btrans hb1 (balloc w1 (.cells #[.int .i64 xr, .int .i64 (x : Int)] 52))
      go_wp2_with fail
      refine (CPx _ (he.below HB1)).mono ?_
      rintro e w3 ⟨v, rfl, ho, hb3⟩
      have HB3 := btrans HB1 hb3
      have hs := HB1.size
      go_wp2
      go_ret2
      exact ⟨_, by rw [R.out]; rfl, by rw [R.out, hM.out]; exact Go.Joins.ownsRow_le ho hs, HB3⟩
  · have hM := hide (hM2 hN)
    have hN2 : ¬ ((x : Int) = (Nn : Int) - 1) := by omega
    have CPx := fun w he => CP xr ((x : Int) + 1) false w he
    generalize putTo ts (q : Int) ⟨xr, (x : Int) + 1⟩ false ts.length = PT at *
    have hxN2 : x + 1 < Nn := by omega
    have hAx := hide ((hAg (x + 1) hxN2).trans (by rw [← hA.out]))
    have CTx : ∀ w, Spans w (some ⟨ba, off, none⟩) ts → Calls Tryd.prog 14 #[.int .i64 (Nn : Int), .slice (some ⟨ba, off, none⟩) ts.length cap] w fun e w' => ∃ at' ct, e = .returned (.slice at' Nn ct) ∧ Bools w' at' TK ∧ Below w.heap.size w w' := fun w he => (CT w he).mono (by
      rintro e w' ⟨v, rfl, ho, hb⟩
      obtain ⟨at', ct, rfl⟩ := own_form ho
      have hlen := ho.1
      rw [List.length_map, Nat.mul_one] at hlen
      exact ⟨at', ct, rfl, Bools.own ho hlen, hb⟩)
    have CAx : ∀ a cap w, Bools w a TK → Calls Tryd.prog 40 #[.slice a Nn cap, .int .i64 y] w fun e w' => ∃ g c, e = .returned (.slice (some ⟨g, 0, none⟩) Nn c) ∧ w'.cell? ⟨g, x + 1, none⟩ = some (.int .i64 A) ∧ Below w.heap.size w w' := fun a cap w hz => (CA a cap w hz).mono (by
      rintro e w' ⟨v, rfl, ho, hb⟩
      rcases ho.2 with ⟨_, h0⟩ | ⟨g, c, cur, rfl, _⟩
      · omega
      · exact ⟨g, c, rfl, (ho.cellAt (x + 1) (by omega)).trans hAx.out, hb⟩)
    clear hM1 hM2 hE CT CA CP hAg hA hN hAx
    have x1 : ((x : Int) + 1).toNat = x + 1 := by omega
    have x2 : (0 : Int) ≤ (x : Int) + 1 := by omega
    have x3 : (x : Int) + 1 < (Nn : Int) := by omega
    have x4 : IntKind.i64.wrap ((x : Int) + 1) = (x : Int) + 1 := wrap_in _ (by omega) (by omega)
    by_cases hA0 : A = 0
    · have R := hide (hR1 hA0)
      clear hR1 hR2 CPx
      subst hA0
      go_enter Tryd.func20, Tryd.ntmps20
      go_wp2_with fail
      refine (cTrainsS _ cap (Nn : Int) ts _ he hl).mono ?_
      rintro e w1 ⟨rfl, hb1⟩
      rw [h]
      go_wp2_with fail
      refine (cInV hp _).mono ?_
      rintro e w2 ⟨rfl, hw⟩
      subst w2
      go_wp2_with fail
      refine (cInV hy _).mono ?_
      rintro e w2 ⟨rfl, hw⟩
      subst w2
      have P0 := ble hb1 p0
      have P1 := ble hb1 p1
      have HB1 := btrans hb1 (balloc w1 (.cells #[.int .i64 xr, .int .i64 (x : Int)] 52))
      go_wp2_with fail
      have B0 : (w1.alloc (.cells #[.int .i64 xr, .int .i64 (x : Int)] 52)).cell? ⟨w1.heap.size, 1, none⟩ = some (.int .i64 (x : Int)) := by simp
      go_region_with (first
        | (go_at_call 40; refine (CAx _ _ _ hbl).mono ?_; rintro e wA ⟨gA, cA, rfl, hcA, hb9⟩; have HB9 := btrans HB8 hb9; have B9 := ble hb9 B8; clear hb9)
        | (go_at_call 14; refine (CTx _ (he.below HB1.drew)).mono ?_; rintro e wT ⟨aT, cT, rfl, hbl, hb8⟩; have HB8 := btrans HB1 (undrew hb8); have B8 := ble (undrew hb8) B0; clear hb8))
      all_goals go_wp2
      all_goals go_ret2
      all_goals exact ⟨_, by rw [R.out]; rfl, by rw [R.out]; exact nil_row _ _, HB9⟩
    · have R := hide (hR2 hA0)
      clear hR1 hR2
      go_enter Tryd.func20, Tryd.ntmps20
      go_wp2_with fail
      refine (cTrainsS _ cap (Nn : Int) ts _ he hl).mono ?_
      rintro e w1 ⟨rfl, hb1⟩
      rw [h]
      go_wp2_with fail
      refine (cInV hp _).mono ?_
      rintro e w2 ⟨rfl, hw⟩
      subst w2
      go_wp2_with fail
      refine (cInV hy _).mono ?_
      rintro e w2 ⟨rfl, hw⟩
      subst w2
      have P0 := ble hb1 p0
      have P1 := ble hb1 p1
      have HB1 := btrans hb1 (balloc w1 (.cells #[.int .i64 xr, .int .i64 (x : Int)] 52))
      go_wp2_with fail
      have B0 : (w1.alloc (.cells #[.int .i64 xr, .int .i64 (x : Int)] 52)).cell? ⟨w1.heap.size, 1, none⟩ = some (.int .i64 (x : Int)) := by simp
      have A0 : (w1.alloc (.cells #[.int .i64 xr, .int .i64 (x : Int)] 52)).cell? ⟨w1.heap.size, 0, none⟩ = some (.int .i64 xr) := by simp
      go_region_with (first
        | (go_at_call 40; refine (CAx _ _ _ hbl).mono ?_; rintro e wA ⟨gA, cA, rfl, hcA, hb9⟩; have HB9 := btrans HB8 hb9; have B9 := ble hb9 B8; have A9 := ble hb9 A8; clear hb9)
        | (go_at_call 14; refine (CTx _ (he.below HB1.drew)).mono ?_; rintro e wT ⟨aT, cT, rfl, hbl, hb8⟩; have HB8 := btrans HB1 (undrew hb8); have B8 := ble (undrew hb8) B0; have A8 := ble (undrew hb8) A0; clear hb8))
      all_goals (
        have hs9 := HB9.size
        go_wp2_with fail
        refine (CPx _ (he.below HB9)).mono ?_
        rintro e w6 ⟨v, rfl, ho, hb6⟩
        have HB6 := btrans HB9 hb6
        go_wp2
        go_ret2
        exact ⟨_, by rw [R.out]; rfl, by rw [R.out, hM.out]; exact Go.Joins.ownsRow_le ho hs9, HB6⟩)
end Go.Proofs.YtnbfkkmjehhihaaDoor
