/- heap.up and heap.down over the front. -/
import Derived.Test.YtdjambejppanoaaFD
namespace Go.Proofs.Ytdjambejppanoaa
open Go.RowKit
theorem Fr.swapped {w w1 : World} {fb B g n c : Nat} {ps qs : List PT} (F : Fr w fb B (.slice (some ⟨g, 0, none⟩) n c) ps) (T : Ts w1 B g c qs) (hl : qs.length = n) (hg : w.grownBy w1 (some g)) : Fr w1 fb B (.slice (some ⟨g, 0, none⟩) n c) qs ∧ Kt w w1 fb (.slice (some ⟨g, 0, none⟩) n c) (.slice (some ⟨g, 0, none⟩) n c) := by
  have h1 := own_from F.own (Nat.le_refl _) g rfl
  have h2 := F.lt
  subst hl
  exact ⟨⟨far_blk hg F.box (fun j hj => by simp at hj; omega), T.own, T.ways, F.lt, Nat.le_trans F.top hg.size⟩, Kt.row (v := .slice (some ⟨g, 0, none⟩) qs.length c) hg (fun k hk => .inl hk)⟩
/-- What up and down leave. -/
def Sifted (w : World) (fb B : Nat) (v : Value) (ps : List PT) (P : List PT → Prop) (w' : World) : Prop :=
  ∃ qs, Fr w' fb B v qs ∧ Kt w w' fb v v ∧ qs.length = ps.length ∧ (∀ u, u ∈ qs ↔ u ∈ ps) ∧ P qs
set_option maxRecDepth 20000 in
set_option maxHeartbeats 3200000 in
theorem cUp (fb B : Nat) (v : Value) (ps : List PT) (j : Nat) (w : World) (F : Fr w fb B v ps) (S : Sm ps) (hj : j < ps.length) (hU : UpI ps j) :
    Calls Try.prog 67 #[.iface 84 (.pointer (some ⟨fb, 0, none⟩)), .int .i64 (j : Int)] w fun e w' => e = .returned (.tuple #[]) ∧ Sifted w fb B v ps (fun qs => HeapN qs qs.length) w' := by
  go_enter Try.func67, Try.ntmps67
  go_wp2
  go_loopw [1] (fun jv wr => ∃ (j : Nat) (qs : List PT), jv = .int .i64 (j : Int) ∧ j < qs.length ∧ Fr wr fb B v qs ∧ Kt w wr fb v v ∧ qs.length = ps.length ∧ Hid ((∀ u, u ∈ qs ↔ u ∈ ps) ∧ UpI qs j)) (fun jv _ => (intOf jv).toNat)
  case atStart => exact ⟨j, ps, rfl, hj, F, Kt.refl _ _ _, rfl, hide ⟨fun u => Iff.rfl, hU⟩⟩
  case round =>
    clear F hj hU
    obtain ⟨j, qs, rfl, hj, F, K, hlen, hQ⟩ := hrel
    have Sq : Sm qs := ⟨by rw [hlen]; exact S.few, fun p hp => S.ways p ((hQ.out.1 p).1 hp)⟩
    have hn := Sq.few
    obtain ⟨b0, b1⟩ := F.cell
    cases j with
    | zero =>
      have hH := hide (hQ.out.2.done (.inl rfl))
      have hF : Sifted w fb B v ps (fun qs => HeapN qs qs.length) wr := ⟨qs, F, K, hlen, hQ.out.1, hH.out⟩
      replace hF := hide hF
      have h1 : ((((0 : Nat) : Int) - 1).tdiv 2) = 0 := by decide
      clear hH hQ F K
      go_wp2
      exact bodyPost_end (results_none rfl _ _ _) rfl ⟨rfl, hF.out⟩
    | succ j =>
      obtain ⟨i, hi⟩ : ∃ i, j / 2 = i := ⟨_, rfl⟩
      have hq1 : ((j : Int)).tdiv 2 = (i : Int) := by rw [Int.tdiv_eq_ediv_of_nonneg (by omega)]; omega
      have hq2 : ((i : Int) == (j : Int) + 1) = false := beq_eq_false_iff_ne.2 (by omega)
      have hpar : (j + 1 - 1) / 2 = i := by omega
      have hil : i < qs.length := by omega
      obtain ⟨g, c, rfl, T⟩ := F.form (by omega)
      have hml := metLess fb _ wr b0
      have CL := cLessT B g c qs (j + 1) i wr T Sq hj hil
      have ej : ((j + 1 : Nat) : Int) = (j : Int) + 1 := by omega
      rw [ej] at CL
      replace hlen := hide hlen
      replace ej := hide ej
      go_wp2_with fail
      refine CL.mono ?_
      rintro e w1 ⟨rfl, hb⟩
      have F1 := F.below hb
      have K1 := K.trans (Kt.below fb _ hb)
      have T1 := T.below hb
      clear CL F K T hb hml b0 b1
      obtain ⟨b0, b1⟩ := F1.cell
      by_cases hlt : cmpT (qs.getD (j + 1) PT.zero).t (qs.getD i PT.zero).t < 0
      · rw [decide_eq_true hlt]
        have CS := cSwapT B g c qs i (j + 1) w1 T1 Sq hil hj
        have hms := metSwap fb _ w1 b0
        have hU := hide (hQ.out.2.step hj (by omega) (by rw [hpar]; exact leP.of_lt hlt))
        rw [hpar] at hU
        have hM := hide (fun u => (mem_swap hil hj u).trans (hQ.out.1 u))
        clear hQ hlt
        go_wp2_with fail
        refine CS.mono ?_
        rintro e w2 ⟨rfl, T2, hg⟩
        obtain ⟨F2, K2⟩ := F1.swapped T2 (swapPT_len _ _ _) hg
        have K3 := K1.trans K2
        clear CS K1 K2 T1 T2 hg F1 hms b0 b1
        go_wp2
        go_roundw
        case rel => exact ⟨i, swapPT qs i (j + 1), rfl, by rw [swapPT_len]; exact hil, F2, K3, by rw [swapPT_len]; exact hlen.out, hide ⟨hM.out, hU.out⟩⟩
        case measure => simp [intOf]; omega
      · rw [decide_eq_false hlt]
        have hH := hQ.out.2.done (.inr (by rw [hpar]; exact leP.of_not hlt))
        have hF := hide (show Sifted w fb B (.slice (some ⟨g, 0, none⟩) qs.length c) ps (fun qs => HeapN qs qs.length) w1 from ⟨qs, F1, K1, hlen.out, hQ.out.1, hH⟩)
        clear hQ hH F1 K1 T1 hlt
        go_wp2
        exact bodyPost_end (results_none rfl _ _ _) rfl ⟨rfl, hF.out⟩
end Go.Proofs.Ytdjambejppanoaa
