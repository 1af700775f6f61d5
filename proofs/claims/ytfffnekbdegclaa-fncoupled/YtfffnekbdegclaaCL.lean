/- Shunted of the model. -/
import Derived.Test.YtfffnekbdegclaaCK
namespace Go.Proofs.Ytfffnekbdegclaa
open Go.RowKit

set_option maxRecDepth 20000 in
set_option maxHeartbeats 1600000 in
theorem cPartS0 (w : World) : Calls Try.prog 34 #[.slice none 0 0, .int .i64 ((0 : Nat) : Int)] w (AnsP w [] []) := by
  have CF := cFormS none 0 [] w (Or.inl rfl) (by unfold maxLen; simp)
  rw [show formB [] = true by decide, List.length_nil] at CF
  have CJ : ∀ w, Calls Try.prog 45 #[.slice none 0 0, .slice none 0 0] w (fun e w' => ∃ v, e = .returned v ∧ w'.ownsRow w.heap.size 34 4 v 0 (flatUs []) ∧ Below w.heap.size w w') := fun w => cJoin none none 0 0 [] [] w (Or.inl rfl) (Or.inl rfl) (by simp) (by simp)
  go_enter Try.func34, Try.ntmps34
  go_wp2_with fail
  refine CF.mono ?_
  rintro e w1 ⟨rfl, hb1⟩
  clear CF
  go_wp2_with fail
  refine (cIn 0 0 0 _).mono ?_
  rintro e w2 ⟨rfl, hw⟩
  subst hw
  rw [show inB 0 0 0 = true by decide]
  go_wp2_with fail
  go_region_held3 (fun _ => True) (exact trivial) (first
    | (go_at_call 45; with_reducible refine (CJ wa).mono ?_; rintro e wb ⟨v2, rfl, ho2, hbb⟩; have Bb := btrans Ba hbb; have ho3 := own_keep ho1 hbb)
    | (go_at_call 45; with_reducible refine (CJ _).mono ?_; rintro e wa ⟨v1, rfl, ho1, hba⟩; have Ba := undrew hba))
  have HB := btrans hb1 Bb
  have h0 : w2.heap.size ≤ wa.heap.size := Ba.size
  have hs := hb1.size
  have hv := own_blk_lt ho1
  obtain ⟨va1, vc1, rfl⟩ := own_form ho3
  obtain ⟨va2, vc2, rfl⟩ := own_form ho2
  clear CJ
  go_wp2
  go_ret2
  exact ⟨_, _, wa.heap.size, rfl, own_base ho3 hs, ho2, by omega, hv, HB⟩

theorem cPartA (v : Value) (q : Nat) (l : List UV) (w : World) (B : Nat) (ho : w.ownsRow B 34 4 v l.length (flatUs l)) (hf : formB l = true) (hq : q ≤ l.length) :
    Calls Try.prog 34 #[v, .int .i64 ((q : Nat) : Int)] w (AnsP w (l.take q) (l.drop q)) := by
  obtain ⟨va, vc, rfl, r1, r2, r3, r4⟩ := own_room ho
  obtain ⟨e1, e2⟩ := part_yes hf hq
  cases va with
  | none =>
    obtain rfl := r3 rfl
    have h0 : l.length = 0 := by omega
    obtain rfl : q = 0 := by omega
    obtain rfl : l = [] := List.length_eq_zero_iff.1 h0
    exact cPartS0 w
  | some x =>
    obtain ⟨g, o, sp⟩ := x
    obtain ⟨h1, h2⟩ := r4 _ rfl
    dsimp only at h1 h2
    subst h1 h2
    have C := cPartS g 0 vc l (q : Int) w (Us.own ho) r1 r2
    rw [e1, e2] at C
    exact C

set_option maxRecDepth 20000 in
set_option maxHeartbeats 3200000 in
theorem cShS (a : Option Addr) (cap : Nat) (c : Option Addr) (p : Nat) (l : List UV) (cs : List Int) (w : World) (he : Us w a l) (hz : Ints w c cs) (hl : l.length ≤ maxLen) (hl2 : cs.length ≤ 1048576) :
    Calls Try.prog 36 #[.slice a l.length cap, .slice c cs.length p] w (AnsU w (shL l cs)) := by
  have CF := cFormS a cap l w he hl
  unfold maxLen at hl
  go_enter Try.func36, Try.ntmps36
  go_wp2_with fail
  refine CF.mono ?_
  rintro e w1 ⟨rfl, hb1⟩
  clear CF
  cases hf : formB l
  · have E := hide (sh_no1 (cs := cs) hf)
    go_wp2
    go_ret
    show AnsU w (shL l cs) _ _
    rw [E.out]
    exact AnsU.no hb1
  have h30 := (formB_iff.1 hf).1
  by_cases h31 : 30 < cs.length
  · have E := hide (sh_no2 (l := l) h31)
    have hi : (30 : Int) < (cs.length : Int) := by omega
    clear h31
    go_wp2
    go_ret
    show AnsU w (shL l cs) _ _
    rw [E.out]
    exact AnsU.no hb1
  have hi : ¬ (30 : Int) < (cs.length : Int) := by omega
  have hz1 := hz.below hb1
  have HF := hide hf
  clear hf
  go_wp2
  go_loop [5] (fun i => ∃ k : Nat, k ≤ cs.length ∧ i = .int .i64 k ∧ (cs.take k).all (fun x => inB x 0 l.length) = true) (fun i => cs.length - (intOf i).toNat)
  case atStart => exact ⟨0, Nat.zero_le _, rfl, rfl⟩
  case round =>
    obtain ⟨k, hk, rfl, hg⟩ := hrel
    have hg := hide hg
    by_cases hlt : k < cs.length
    · rcases hz1 with h | ⟨b1, o1, rfl, q1⟩
      · simp [h] at hlt
      have p0 := q1 k hlt
      have e0 : cs.getD k 0 = cs[k] := by simp [List.getD, hlt]
      have Bad : Hid (inB (cs.getD k 0) 0 l.length = false → shL l cs = []) := hide (fun h => sh_no3 (all_bad (P := fun x => inB x 0 l.length) hlt (by rw [← e0]; exact h)))
      have Nx : Hid (inB (cs.getD k 0) 0 l.length = true → (cs.take (k + 1)).all (fun x => inB x 0 l.length) = true) := hide (fun h => all_step (P := fun x => inB x 0 l.length) hlt hg.out (by rw [← e0]; exact h))
      clear q1 e0
      generalize cs.getD k 0 = x at *
      go_wp2_with fail
      refine (cIn x 0 l.length _).mono ?_
      rintro e w2 ⟨rfl, hw⟩
      subst hw
      cases hi2 : inB x 0 l.length
      · have E := hide (Bad.out hi2)
        clear Bad Nx hg
        go_wp2
        go_ret
        show AnsU w (shL l cs) _ _
        rw [E.out]
        exact AnsU.no hb1
      · have E := hide (Nx.out hi2)
        clear Bad Nx hg
        go_wp2
        go_round
        case rel => exact ⟨k + 1, by omega, by go_num, E.out⟩
        case measure => simp [intOf]; omega
    · obtain rfl : k = cs.length := by omega
      rw [List.take_length] at hg
      have E := hide (sh_yes HF.out (by omega) hg.out)
      have CI := hide (fun (k : Nat) (hk : k < cs.length) => cut_in hg.out hk)
      have ST := hide (fun (k : Nat) (hk : k < cs.length) => shTo_step l hk)
      have FT := hide (fun (k : Nat) => shTo_form (cs.take k) HF.out)
      have CJ : Calls Try.prog 45 #[.slice a l.length cap, .slice none 0 0] w1 (fun e w' => ∃ v, e = .returned v ∧ w'.ownsRow w1.heap.size 34 4 v l.length (flatUs l) ∧ Below w1.heap.size w1 w') := by
        have C := cJoin a none cap 0 l [] w1 (he.below hb1) (Or.inl rfl) (by omega) (by simp)
        rw [List.append_nil] at C
        exact C
      have LN : Hid (∀ k, (shTo l (cs.take k)).length = l.length) := hide (fun k => shTo_len l _)
      clear hg
      go_wp2_with fail
      refine CJ.mono ?_
      rintro e w3 ⟨v, rfl, ho0, hb3⟩
      have HB3 := btrans hb1 hb3
      replace ho0 := own_base ho0 (B' := w.heap.size) hb1.size
      have hz3 := hz1.below hb3
      clear CJ he hz hz1 hb3
      go_wp2
      go_loopw [6, 7] (fun v i wr => ∃ k : Nat, k ≤ cs.length ∧ i = .int .i64 k ∧ wr.ownsRow w.heap.size 34 4 v l.length (flatUs (shTo l (cs.take k))) ∧ Below w3.heap.size w3 wr) (fun _ i _ => cs.length - (intOf i).toNat)
      case atStart => exact ⟨0, Nat.zero_le _, rfl, ho0, Below.refl _ _⟩
      case round =>
        obtain ⟨k, hk, rfl, ho, hb⟩ := hrel
        clear ho0
        by_cases hlt : k < cs.length
        · rcases hz3 with h | ⟨b1, o1, rfl, q1⟩
          · simp [h] at hlt
          have p0 := ble hb (q1 k hlt)
          obtain ⟨q, hq, hql⟩ := CI.out k hlt
          have S1 := hide (ST.out k hlt)
          rw [hq] at p0 S1
          have tq : ((q : Int)).toNat = q := by omega
          rw [tq] at S1
          have LZ := hide (LN.out k)
          have FZ := hide (FT.out k)
          clear hq q1 tq
          generalize shTo l (cs.take k) = Z at *
          generalize hS : shTo l (cs.take (k + 1)) = Z1 at *
          replace hS := hide hS
          have CP := cPartA u6 q Z wr w.heap.size (by rw [LZ.out]; exact ho) FZ.out (by rw [LZ.out]; exact hql)
          obtain ⟨va, vc, rfl⟩ := own_form ho
          have F1 := hide (turn_yes (form_take q FZ.out))
          have lt : (Z.take q).length = q := by have := LZ.out; simp; omega
          have ld : (Z.drop q).length = l.length - q := by have := LZ.out; simp; omega
          have hB3 := btrans HB3 hb
          go_wp2_with fail
          refine CP.mono ?_
          rintro e w4 ⟨v1, v2, B2, rfl, o1', o2', hB2, -, hb4⟩
          obtain ⟨va1, vc1, rfl⟩ := own_form o1'
          obtain ⟨va2, vc2, rfl⟩ := own_form o2'
          have CT : Calls Try.prog 35 #[.slice va1 (Z.take q).length vc1] w4 (fun e w' => ∃ v, e = .returned v ∧ w'.ownsRow w4.heap.size 34 4 v (turned (Z.take q)).length (flatUs (turned (Z.take q))) ∧ Below w4.heap.size w4 w') := by
            have C := cTurnS va1 vc1 (Z.take q) w4 (Us.own o1') (by rw [lt]; unfold maxLen; omega)
            rw [F1.out] at C
            exact C
          have U2 := Us.own o2'
          rw [lt] at CT
          rw [lt, ld]
          clear CP o1' o2'
          go_wp2_with fail
          refine CT.mono ?_
          rintro e w5 ⟨v3, rfl, o3, hb5⟩
          obtain ⟨va3, vc3, rfl⟩ := own_form o3
          have CJ : Calls Try.prog 45 #[.slice va2 (l.length - q) vc2, .slice va3 (turned (Z.take q)).length vc3] w5 (fun e w' => ∃ v, e = .returned v ∧ w'.ownsRow w.heap.size 34 4 v l.length (flatUs Z1) ∧ Below wr.heap.size wr w') := by
            have lt2 : (turned (Z.take q)).length = q := by rw [turned_len, lt]
            have C := cJoin va2 va3 vc2 vc3 (Z.drop q) (turned (Z.take q)) w5 (U2.below hb5) (Us.own o3) (by omega) (by omega)
            rw [ld] at C
            refine C.mono ?_
            rintro e w' ⟨v, rfl, hv, hb'⟩
            have e1 : Z.drop q ++ turned (Z.take q) = Z1 := S1.out.symm
            have e2 : Z1.length = l.length := by rw [← e1, List.length_append, ld, lt2]; omega
            rw [e1, e2] at hv
            exact ⟨v, rfl, own_base hv ((btrans (btrans hB3 hb4) hb5).size), btrans (btrans hb4 hb5) hb'⟩
          rw [turned_len, lt] at CJ ⊢
          clear CT o3 U2 lt ld LZ S1
          go_wp2_with fail
          refine CJ.mono ?_
          rintro e w6 ⟨v4, rfl, o4, hb6⟩
          obtain ⟨va4, vc4, rfl⟩ := own_form o4
          have HB6 := btrans hb hb6
          clear CJ
          go_wp2
          go_roundw
          case rel => exact ⟨k + 1, by omega, by go_num, by rw [hS.out]; exact o4, HB6⟩
          case measure => simp [intOf]; omega
        · obtain rfl : k = cs.length := by omega
          rw [List.take_length] at ho
          obtain ⟨va, vc, rfl⟩ := own_form ho
          have hLl := LN.out cs.length
          rw [List.take_length] at hLl
          have HL := hide hLl
          clear hz3 LN hLl
          go_wp2
          go_ret
          show AnsU w (shL l cs) _ _
          rw [E.out]
          exact ⟨_, rfl, by rw [HL.out]; exact ho, btrans HB3 hb⟩
end Go.Proofs.Ytfffnekbdegclaa
