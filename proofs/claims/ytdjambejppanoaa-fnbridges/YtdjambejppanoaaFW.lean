/- heap.down over the front. -/
import Derived.Test.YtdjambejppanoaaFU
namespace Go.Proofs.Ytdjambejppanoaa
open Go.RowKit
set_option maxRecDepth 20000 in
set_option maxHeartbeats 3200000 in
theorem cDown (fb B : Nat) (v : Value) (ps : List PT) (n : Nat) (w : World) (F : Fr w fb B v ps) (S : Sm ps) (hn : n ≤ ps.length) (h0 : 0 < ps.length) (hD : DnI ps n 0) :
    Calls Try.prog 66 #[.iface 84 (.pointer (some ⟨fb, 0, none⟩)), .int .i64 0, .int .i64 (n : Int)] w fun e w' => (∃ b, e = .returned (.bool b)) ∧ Sifted w fb B v ps (fun qs => HeapN qs n ∧ ∀ k, n ≤ k → gP qs k = gP ps k) w' := by
  have hfew := S.few
  go_enter Try.func66, Try.ntmps66
  go_wp2
  go_loopw [7] (fun iv wr => ∃ (i : Nat) (qs : List PT), iv = .int .i64 (i : Int) ∧ i < qs.length ∧ Fr wr fb B v qs ∧ Kt w wr fb v v ∧ Hid (qs.length = ps.length) ∧ Hid ((∀ u, u ∈ qs ↔ u ∈ ps) ∧ DnI qs n i ∧ ∀ k, n ≤ k → gP qs k = gP ps k)) (fun iv _ => n - (intOf iv).toNat)
  case atStart => exact ⟨0, ps, rfl, h0, F, Kt.refl _ _ _, hide rfl, hide ⟨fun u => Iff.rfl, hD, fun _ _ => rfl⟩⟩
  case round =>
    clear F hD h0
    obtain ⟨i, qs, rfl, hil, F1, K1, hlen, hQ⟩ := hrel
    have Sq : Sm qs := ⟨by rw [hlen.out]; exact S.few, fun p hp => S.ways p ((hQ.out.1 p).1 hp)⟩
    have hqn := Sq.few
    have hnl := hide (show n ≤ qs.length by rw [hlen.out]; exact hn)
    have hi9 : i < 1048576 := by omega
    have hn9 : n ≤ 1048576 := by omega
    clear hn hfew
    obtain ⟨j, hj⟩ : ∃ j : Nat, 2 * i + 1 = j := ⟨_, rfl⟩
    obtain ⟨m, hm⟩ : ∃ m : Nat, j + 1 = m := ⟨_, rfl⟩
    have hj1 : 2 * (i : Int) + 1 = (j : Int) := by omega
    have hm1 : (j : Int) + 1 = (m : Int) := by omega
    have hj9 : j ≤ 3000000 := by omega
    have hjp := hide (show (j - 1) / 2 = i by omega)
    have hmp := hide (show (m - 1) / 2 = i by omega)
    have hj0 := hide (show 0 < j by omega)
    have hm0 := hide (show 0 < m by omega)
    have hkid := hide (fun k (k0 : 0 < k) (k2 : (k - 1) / 2 = i) => (show k = j ∨ k = m by omega))
    replace hj := hide hj
    replace hm := hide hm
    have hj10 : (0 : Int) ≤ (j : Int) := by omega
    by_cases hjn : j < n
    · have hjn' : (j : Int) < (n : Int) := by omega
      obtain ⟨g, c, rfl, T1⟩ := F1.form (by omega)
      by_cases hmn : m < n
      · have hmn' : (m : Int) < (n : Int) := by omega
        obtain ⟨b0, b1⟩ := F1.cell
        have hml := metLess fb _ wr b0
        have CL := cLessT B g c qs m j wr T1 Sq (by have := hnl.out; omega) (by have := hnl.out; omega)
        go_wp2_with fail
        refine CL.mono ?_
        rintro e w1 ⟨rfl, hb⟩
        replace F1 := F1.below hb
        replace K1 := K1.trans (Kt.below fb _ hb)
        replace T1 := T1.below hb
        clear CL hb hml b0 b1
        by_cases hch : cmpT (qs.getD m PT.zero).t (qs.getD j PT.zero).t < 0
        · rw [decide_eq_true hch]
          have hs := hide (fun k (k0 : 0 < k) (_ : k < n) (k2 : (k - 1) / 2 = i) => (show leP (gP qs m) (gP qs k) from by
            rcases hkid.out k k0 k2 with rfl | rfl
            · exact leP.of_lt hch
            · exact leP.refl _))
          clear hch
          obtain ⟨b0, b1⟩ := F1.cell
          have hml2 := metLess fb _ w1 b0
          have CL2 := cLessT B g c qs m i w1 T1 Sq (by have := hmn; have := hnl.out; omega) hil
          go_wp2_with fail
          refine CL2.mono ?_
          rintro e w2 ⟨rfl, hb2⟩
          have F2 := F1.below hb2
          have K2 := K1.trans (Kt.below fb _ hb2)
          have T2 := T1.below hb2
          clear CL2 F1 K1 T1 hb2 hml2 b0 b1
          obtain ⟨b0, b1⟩ := F2.cell
          by_cases hlt : cmpT (qs.getD m PT.zero).t (qs.getD i PT.zero).t < 0
          · rw [decide_eq_true hlt]
            have CS := cSwapT B g c qs i m w2 T2 Sq hil (by have := hmn; have := hnl.out; omega)
            have hms := metSwap fb _ w2 b0
            have hU := hide (hQ.out.2.1.step hnl.out hmn hm0.out hmp.out (leP.of_lt hlt) hs.out)
            have hM := hide (fun u => (mem_swap hil (show m < qs.length by have := hmn; have := hnl.out; omega) u).trans (hQ.out.1 u))
            have hR := hide (fun k (hk : n ≤ k) => (swap_o (ps := qs) (i := i) (j := m) (k := k) (by have := hmn; have := hmp.out; have := hm0.out; omega) (by have := hmn; omega)).trans (hQ.out.2.2 k hk))
            clear hQ hlt hs
            go_wp2_with fail
            refine CS.mono ?_
            rintro e w3 ⟨rfl, T3, hg⟩
            obtain ⟨F3, K3⟩ := F2.swapped T3 (swapPT_len _ _ _) hg
            have K4 := K2.trans K3
            clear CS K2 K3 T2 T3 hg F2 hms b0 b1
            go_wp2
            go_roundw
            case rel => exact ⟨m, swapPT qs i m, rfl, by rw [swapPT_len]; have := hmn; have := hnl.out; omega, F3, K4, hide (by rw [swapPT_len]; exact hlen.out), hide ⟨hM.out, hU.out, hR.out⟩⟩
            case measure => have := hmn; have := hmp.out; have := hm0.out; simp [intOf]; omega
          · rw [decide_eq_false hlt]
            have hH := hQ.out.2.1.done (fun k k0 k1 k2 => (leP.of_not hlt).trans (hs.out k k0 k1 k2))
            have hF := hide (show Sifted w fb B (.slice (some ⟨g, 0, none⟩) qs.length c) ps (fun qs => HeapN qs n ∧ ∀ k, n ≤ k → gP qs k = gP ps k) w2 from ⟨qs, F2, K2, hlen.out, hQ.out.1, hH, hQ.out.2.2⟩)
            clear hQ hH F2 K2 T2 hlt hs
            go_wp2
            go_ret
            exact ⟨⟨_, rfl⟩, hF.out⟩
        · rw [decide_eq_false hch]
          have hs := hide (fun k (k0 : 0 < k) (_ : k < n) (k2 : (k - 1) / 2 = i) => (show leP (gP qs j) (gP qs k) from by
            rcases hkid.out k k0 k2 with rfl | rfl
            · exact leP.refl _
            · exact leP.of_not hch))
          clear hch
          obtain ⟨b0, b1⟩ := F1.cell
          have hml2 := metLess fb _ w1 b0
          have CL2 := cLessT B g c qs j i w1 T1 Sq (by have := hjn; have := hnl.out; omega) hil
          go_wp2_with fail
          refine CL2.mono ?_
          rintro e w2 ⟨rfl, hb2⟩
          have F2 := F1.below hb2
          have K2 := K1.trans (Kt.below fb _ hb2)
          have T2 := T1.below hb2
          clear CL2 F1 K1 T1 hb2 hml2 b0 b1
          obtain ⟨b0, b1⟩ := F2.cell
          by_cases hlt : cmpT (qs.getD j PT.zero).t (qs.getD i PT.zero).t < 0
          · rw [decide_eq_true hlt]
            have CS := cSwapT B g c qs i j w2 T2 Sq hil (by have := hjn; have := hnl.out; omega)
            have hms := metSwap fb _ w2 b0
            have hU := hide (hQ.out.2.1.step hnl.out hjn hj0.out hjp.out (leP.of_lt hlt) hs.out)
            have hM := hide (fun u => (mem_swap hil (show j < qs.length by have := hjn; have := hnl.out; omega) u).trans (hQ.out.1 u))
            have hR := hide (fun k (hk : n ≤ k) => (swap_o (ps := qs) (i := i) (j := j) (k := k) (by have := hjn; have := hjp.out; have := hj0.out; omega) (by have := hjn; omega)).trans (hQ.out.2.2 k hk))
            clear hQ hlt hs
            go_wp2_with fail
            refine CS.mono ?_
            rintro e w3 ⟨rfl, T3, hg⟩
            obtain ⟨F3, K3⟩ := F2.swapped T3 (swapPT_len _ _ _) hg
            have K4 := K2.trans K3
            clear CS K2 K3 T2 T3 hg F2 hms b0 b1
            go_wp2
            go_roundw
            case rel => exact ⟨j, swapPT qs i j, rfl, by rw [swapPT_len]; have := hjn; have := hnl.out; omega, F3, K4, hide (by rw [swapPT_len]; exact hlen.out), hide ⟨hM.out, hU.out, hR.out⟩⟩
            case measure => have := hjn; have := hjp.out; have := hj0.out; simp [intOf]; omega
          · rw [decide_eq_false hlt]
            have hH := hQ.out.2.1.done (fun k k0 k1 k2 => (leP.of_not hlt).trans (hs.out k k0 k1 k2))
            have hF := hide (show Sifted w fb B (.slice (some ⟨g, 0, none⟩) qs.length c) ps (fun qs => HeapN qs n ∧ ∀ k, n ≤ k → gP qs k = gP ps k) w2 from ⟨qs, F2, K2, hlen.out, hQ.out.1, hH, hQ.out.2.2⟩)
            clear hQ hH F2 K2 T2 hlt hs
            go_wp2
            go_ret
            exact ⟨⟨_, rfl⟩, hF.out⟩
      · have hmn' : ¬ (m : Int) < (n : Int) := by omega
        have hs := hide (fun k (k0 : 0 < k) (k1 : k < n) (k2 : (k - 1) / 2 = i) => (show leP (gP qs j) (gP qs k) from by
          rcases hkid.out k k0 k2 with rfl | rfl
          · exact leP.refl _
          · omega))
        obtain ⟨b0, b1⟩ := F1.cell
        have hml2 := metLess fb _ wr b0
        have CL2 := cLessT B g c qs j i wr T1 Sq (by have := hjn; have := hnl.out; omega) hil
        go_wp2_with fail
        refine CL2.mono ?_
        rintro e w2 ⟨rfl, hb2⟩
        have F2 := F1.below hb2
        have K2 := K1.trans (Kt.below fb _ hb2)
        have T2 := T1.below hb2
        clear CL2 F1 K1 T1 hb2 hml2 b0 b1
        obtain ⟨b0, b1⟩ := F2.cell
        by_cases hlt : cmpT (qs.getD j PT.zero).t (qs.getD i PT.zero).t < 0
        · rw [decide_eq_true hlt]
          have CS := cSwapT B g c qs i j w2 T2 Sq hil (by have := hjn; have := hnl.out; omega)
          have hms := metSwap fb _ w2 b0
          have hU := hide (hQ.out.2.1.step hnl.out hjn hj0.out hjp.out (leP.of_lt hlt) hs.out)
          have hM := hide (fun u => (mem_swap hil (show j < qs.length by have := hjn; have := hnl.out; omega) u).trans (hQ.out.1 u))
          have hR := hide (fun k (hk : n ≤ k) => (swap_o (ps := qs) (i := i) (j := j) (k := k) (by have := hjn; have := hjp.out; have := hj0.out; omega) (by have := hjn; omega)).trans (hQ.out.2.2 k hk))
          clear hQ hlt hs
          go_wp2_with fail
          refine CS.mono ?_
          rintro e w3 ⟨rfl, T3, hg⟩
          obtain ⟨F3, K3⟩ := F2.swapped T3 (swapPT_len _ _ _) hg
          have K4 := K2.trans K3
          clear CS K2 K3 T2 T3 hg F2 hms b0 b1
          go_wp2
          go_roundw
          case rel => exact ⟨j, swapPT qs i j, rfl, by rw [swapPT_len]; have := hjn; have := hnl.out; omega, F3, K4, hide (by rw [swapPT_len]; exact hlen.out), hide ⟨hM.out, hU.out, hR.out⟩⟩
          case measure => have := hjn; have := hjp.out; have := hj0.out; simp [intOf]; omega
        · rw [decide_eq_false hlt]
          have hH := hQ.out.2.1.done (fun k k0 k1 k2 => (leP.of_not hlt).trans (hs.out k k0 k1 k2))
          have hF := hide (show Sifted w fb B (.slice (some ⟨g, 0, none⟩) qs.length c) ps (fun qs => HeapN qs n ∧ ∀ k, n ≤ k → gP qs k = gP ps k) w2 from ⟨qs, F2, K2, hlen.out, hQ.out.1, hH, hQ.out.2.2⟩)
          clear hQ hH F2 K2 T2 hlt hs
          go_wp2
          go_ret
          exact ⟨⟨_, rfl⟩, hF.out⟩
    · have hjn' : (n : Int) ≤ (j : Int) := by omega
      have hH := hQ.out.2.1.done (fun k k0 k1 k2 => by
        have := hkid.out k k0 k2
        have := hm.out
        omega)
      have hF := hide (show Sifted w fb B v ps (fun qs => HeapN qs n ∧ ∀ k, n ≤ k → gP qs k = gP ps k) wr from ⟨qs, F1, K1, hlen.out, hQ.out.1, hH, hQ.out.2.2⟩)
      clear hQ hH F1 K1
      go_wp2
      go_ret
      exact ⟨⟨_, rfl⟩, hF.out⟩
end Go.Proofs.Ytdjambejppanoaa
