/- Turn and Shunted of the program. -/
import Derived.Test.YtfffnekbdegclaaTU
import Derived.Test.YtfffnekbdegclaaB
namespace Go.Proofs.Ytfffnekbdegclaa
open Go.RowKit

set_option maxHeartbeats 800000 in
theorem cTurnI (a : Option Addr) (cap : Nat) (l : List UV) (w : World) (he : Us w a l) (hl : l.length ≤ maxLen) :
    Calls Try.prog 22 #[.slice a l.length cap] w (AnsU w (turnL l)) := by
  have CF := cFormI a cap l w he hl
  go_enter Try.func22, Try.ntmps22
  go_wp2_with fail
  refine CF.mono ?_
  rintro e w1 ⟨rfl, hb1⟩
  clear CF
  cases hf : formB l
  · have E := hide (turn_no hf)
    go_wp2
    go_ret
    show AnsU w (turnL l) _ _
    rw [E.out]
    exact AnsU.no hb1
  have h30 := (formB_iff.1 hf).1
  have E := hide (turn_yes hf)
  go_wp2_with fail
  refine (cTurnU a cap l w1 (he.below hb1) h30).mono ?_
  rintro e w2 ⟨v, rfl, ho, hb2⟩
  obtain ⟨va, vc, rfl⟩ := own_form ho
  go_wp2
  go_ret
  show AnsU w (turnL l) _ _
  rw [E.out]
  exact ⟨_, rfl, own_base ho hb1.size, btrans hb1 hb2⟩

set_option maxHeartbeats 800000 in
theorem cPlace (B : Nat) (a : Option Addr) (n cap : Nat) (x : Int) (w : World) (hX : w.cell? ⟨B, 0, none⟩ = some (.slice a n cap)) :
    Calls Try.prog 49 #[.int .i64 x, .pointer (some ⟨B, 0, none⟩)] w fun e w' => e = .returned (.bool (inB x 0 n)) ∧ w' = w := by
  go_enter Try.func49, Try.ntmps49
  go_wp2_with fail
  refine (cWithin x 0 n _).mono ?_
  rintro e w1 ⟨rfl, hw⟩
  subst hw
  go_wp2
  go_ret
  exact ⟨rfl, rfl⟩

set_option maxHeartbeats 1600000 in
theorem cAll (B : Nat) (a c : Option Addr) (n cap p : Nat) (cs : List Int) (w : World) (hX : w.cell? ⟨B, 0, none⟩ = some (.slice a n cap)) (hz : Ints w c cs) (hl : cs.length ≤ 1048576) :
    Calls Try.prog 50 #[.slice c cs.length p, .func (.func 49) #[] #[.pointer (some ⟨B, 0, none⟩)]] w fun e w' => e = .returned (.bool (cs.all fun x => inB x 0 n)) ∧ w' = w := by
  go_enter Try.func50, Try.ntmps50
  go_wp2
  go_loop [9] (fun i => ∃ k : Nat, k ≤ cs.length ∧ i = .int .i64 k ∧ (cs.take k).all (fun x => inB x 0 n) = true) (fun i => cs.length - (intOf i).toNat)
  case atStart => exact ⟨0, Nat.zero_le _, rfl, rfl⟩
  case round =>
    obtain ⟨k, hk, rfl, hg⟩ := hrel
    have hg := hide hg
    by_cases hlt : k < cs.length
    · rcases hz with h | ⟨b1, o1, rfl, q1⟩
      · simp [h] at hlt
      have p0 := q1 k hlt
      have e0 : cs.getD k 0 = cs[k] := by simp [List.getD, hlt]
      have Bad : Hid (inB (cs.getD k 0) 0 n = false → (cs.all fun x => inB x 0 n) = false) := hide (fun h => all_bad (P := fun x => inB x 0 n) hlt (by rw [← e0]; exact h))
      have Nx : Hid (inB (cs.getD k 0) 0 n = true → (cs.take (k + 1)).all (fun x => inB x 0 n) = true) := hide (fun h => all_step (P := fun x => inB x 0 n) hlt hg.out (by rw [← e0]; exact h))
      clear q1 e0
      generalize cs.getD k 0 = x at *
      go_wp2_with fail
      refine (cPlace B a n cap x _ hX).mono ?_
      rintro e w1 ⟨rfl, hw⟩
      subst hw
      cases hi : inB x 0 n
      · have E := hide (Bad.out hi)
        clear Bad Nx hg
        go_wp2
        go_ret
        exact ⟨ret_bool E.out.symm, rfl⟩
      · have E := hide (Nx.out hi)
        clear Bad Nx hg
        go_wp2
        go_round
        case rel => exact ⟨k + 1, by omega, by go_num, E.out⟩
        case measure => simp [intOf]; omega
    · obtain rfl : k = cs.length := by omega
      rw [List.take_length] at hg
      clear hz
      go_wp2
      go_ret
      exact ⟨ret_bool hg.out.symm, rfl⟩

theorem sh_no1 {l : List UV} {cs : List Int} (h : formB l = false) : shL l cs = [] := by simp [shL, shB, h]
theorem sh_no2 {l : List UV} {cs : List Int} (h : 30 < cs.length) : shL l cs = [] := by
  have : decide (cs.length ≤ 30) = false := by simp; omega
  simp [shL, shB, this]
theorem sh_no3 {l : List UV} {cs : List Int} (h : (cs.all fun x => inB x 0 l.length) = false) : shL l cs = [] := by simp only [shL, shB, h, Bool.and_false]; rfl
theorem sh_yes {l : List UV} {cs : List Int} (h1 : formB l = true) (h2 : cs.length ≤ 30) (h3 : (cs.all fun x => inB x 0 l.length) = true) : shL l cs = shTo l cs := by
  have : decide (cs.length ≤ 30) = true := by simp; omega
  simp only [shL, shB, h1, h3, this, Bool.and_self, if_true]
theorem cut_in {l : List UV} {cs : List Int} (h3 : (cs.all fun x => inB x 0 l.length) = true) {k : Nat} (hk : k < cs.length) : ∃ q : Nat, cs.getD k 0 = q ∧ q ≤ l.length := by
  have h := List.all_eq_true.1 h3 _ (List.getElem_mem hk)
  obtain ⟨i1, i2⟩ := inB_true h
  refine ⟨cs[k].toNat, ?_, by omega⟩
  simp [List.getD, hk]; omega
theorem nil_turned : turned [] = [] := rfl
theorem shunt1_nil (k : Nat) : shunt1 [] k = [] := by simp [shunt1, turned]

set_option maxRecDepth 20000 in
set_option maxHeartbeats 3200000 in
theorem cShI (b off cap : Nat) (c : Option Addr) (p : Nat) (l : List UV) (cs : List Int) (w : World) (he : Us w (some ⟨b, off, none⟩) l) (hz : Ints w c cs) (hl : l.length ≤ maxLen) (hl2 : cs.length ≤ 1048576) :
    Calls Try.prog 21 #[.slice (some ⟨b, off, none⟩) l.length cap, .slice c cs.length p] w (AnsU w (shL l cs)) := by
  have hb0 := balloc w (.cells #[.slice (some ⟨b, off, none⟩) l.length cap] 24)
  have A0 := one_block' w (.cells #[.slice (some ⟨b, off, none⟩) l.length cap] 24)
  have CF := cFormI (some ⟨b, off, none⟩) cap l _ (he.below hb0) hl
  unfold maxLen at hl
  go_enter Try.func21, Try.ntmps21
  go_wp2_with fail
  refine CF.mono ?_
  rintro e w1 ⟨rfl, hb1⟩
  have HB := btrans hb0 hb1
  have A1 := blk_keep hb1 A0
  clear CF hb0 hb1 A0
  have x0 : w1.cell? ⟨w.heap.size, 0, none⟩ = some (.slice (some ⟨b, off, none⟩) l.length cap) := blk_cell A1 0
  cases hf : formB l
  · have E := hide (sh_no1 (cs := cs) hf)
    go_wp2
    go_ret
    show AnsU w (shL l cs) _ _
    rw [E.out]
    exact AnsU.no HB
  have h30 := (formB_iff.1 hf).1
  by_cases h31 : 30 < cs.length
  · have E := hide (sh_no2 (l := l) h31)
    have hi : (30 : Int) < (cs.length : Int) := by omega
    clear h31
    go_wp2
    go_ret
    show AnsU w (shL l cs) _ _
    rw [E.out]
    exact AnsU.no HB
  have hi : ¬ (30 : Int) < (cs.length : Int) := by omega
  have hz1 := hz.below HB
  have CA := cAll w.heap.size (some ⟨b, off, none⟩) c l.length cap p cs w1 x0 hz1 hl2
  go_wp2_with fail
  refine CA.mono ?_
  rintro e w2 ⟨rfl, hw⟩
  subst hw
  clear CA
  cases hA : cs.all fun x => inB x 0 l.length
  · have E := hide (sh_no3 hA)
    go_wp2
    go_ret
    show AnsU w (shL l cs) _ _
    rw [E.out]
    exact AnsU.no HB
  have E := hide (sh_yes hf (by omega) hA)
  have CI := hide (fun (k : Nat) (hk : k < cs.length) => cut_in hA hk)
  have ST := hide (fun (k : Nat) (hk : k < cs.length) => shTo_step l hk)
  have he1 := he.below HB
  have CL := cClone (some ⟨b, off, none⟩) cap l w2 he1 (fun h => by cases h) (fun x h => by cases h; rfl) (by omega)
  clear hA hf
  go_wp2_with fail
  refine CL.mono ?_
  rintro e w3 ⟨v, rfl, ho0, hb3⟩
  have HB3 := btrans HB hb3
  replace ho0 := own_base ho0 (B' := w.heap.size) HB.size
  have hz3 := hz1.below hb3
  clear CL he he1 hz hz1 hb3 A1 x0 HB
  have LN : Hid (∀ k, (shTo l (cs.take k)).length = l.length) := hide (fun k => shTo_len l _)
  go_wp2
  go_loopw [6, 28] (fun v i wr => ∃ k : Nat, k ≤ cs.length ∧ i = .int .i64 k ∧ wr.ownsRow w.heap.size 34 4 v l.length (flatUs (shTo l (cs.take k))) ∧ Below w3.heap.size w3 wr) (fun _ i _ => cs.length - (intOf i).toNat)
  case atStart => exact ⟨0, Nat.zero_le _, rfl, ho0, Below.refl _ _⟩
  case round =>
    obtain ⟨k, hk, rfl, ho, hb⟩ := hrel
    clear ho0
    by_cases hlt : k < cs.length
    · rcases hz3 with h | ⟨b1, o1, rfl, q1⟩
      · simp [h] at hlt
      have p0 := ble hb (q1 k hlt)
      obtain ⟨q, hq, hql⟩ := CI.out k hlt
      have S1 := hide (ST.out k hlt)
      rw [hq] at p0 S1
      have tq : ((q : Int)).toNat = q := by omega
      rw [tq] at S1
      have LZ := hide (LN.out k)
      clear hq q1 tq
      generalize shTo l (cs.take k) = Z at *
      generalize hS : shTo l (cs.take (k + 1)) = Z1 at *
      replace hS := hide hS
      obtain ⟨va, vc, rfl, r1, r2, r3, r4⟩ := own_room ho
      have UZ : Us wr va Z := Us.own ho
      generalize hn : l.length = n at *
      clear hn
      by_cases hn0 : n = 0
      · obtain rfl : Z = [] := List.length_eq_zero_iff.1 (LZ.out.trans hn0)
        obtain rfl : q = 0 := by omega
        subst hn0
        rw [shunt1_nil] at S1
        have CT : ∀ w, Us w va [] → Calls Try.prog 51 #[.slice va 0 vc] w (fun e w' => ∃ v, e = .returned v ∧ w'.ownsRow w.heap.size 34 4 v 0 (flatUs []) ∧ Below w.heap.size w w') := fun w h => cTurnU va vc [] w h (by simp)
        have U0 : ∀ w, Us w va [] := fun w => Or.inl rfl
        have CC : ∀ (wa : World) (va2 : Option Addr) (vc2 : Nat), Below wr.heap.size wr wa → wa.ownsRow wr.drew.heap.size 34 4 (.slice va2 0 vc2) 0 (flatUs []) → Calls Try.prog 44 #[.slice (some ⟨wa.heap.size, 0, none⟩) 2 2] (wa.alloc (.cells #[.slice va 0 vc, .slice va2 0 vc2] 24)) (fun e w' => ∃ v, e = .returned v ∧ w'.ownsRow w.heap.size 34 4 v 0 (flatUs []) ∧ Below wr.heap.size wr w') := fun wa va2 vc2 Ba ho2 => by
          have A := one_block' wa (.cells #[.slice va 0 vc, .slice va2 0 vc2] 24)
          have hba := balloc wa (.cells #[.slice va 0 vc, .slice va2 0 vc2] 24)
          refine (cConcat wa.heap.size vc vc2 va va2 [] [] _ (Or.inl rfl) (Or.inl rfl) (by simp) (by simp) (blk_cell A 0) (blk_cell A 1)).mono ?_
          rintro e w' ⟨v, rfl, hv, hb'⟩
          exact ⟨v, rfl, own_base hv ((btrans (btrans (btrans HB3 hb) Ba) hba).size), btrans (btrans Ba hba) hb'⟩
        have i1 : (0 : Int) ≤ (vc : Int) := by omega
        cases va with
        | none =>
          obtain rfl := r3 rfl
          go_wp2_with fail
          go_region_held3 (fun _ => True) (exact trivial) (first
            | (go_at_call 44; with_reducible refine (CC wa va2 vc2 Ba ho2).mono ?_; rintro e wb ⟨v3, rfl, ho3, hb3⟩)
            | (go_at_call 51; with_reducible refine (CT _ (U0 _)).mono ?_; rintro e wa ⟨v2, rfl, ho2, hba⟩; have Ba := undrew hba; obtain ⟨va2, vc2, rfl⟩ := own_form ho2))
          have ho4 : wb.ownsRow w.heap.size 34 4 v3 0 (flatUs Z1) := by rw [S1.out]; exact ho3
          have hB4 := btrans hb hb3
          obtain ⟨va3, vc3, rfl⟩ := own_form ho4
          clear CT CC
          go_wp2
          go_roundw
          case rel => exact ⟨k + 1, by omega, by go_num, by rw [hS.out]; exact ho4, hB4⟩
          case measure => simp [intOf]; omega
        | some xa =>
          obtain ⟨ga, oa, sa⟩ := xa
          obtain ⟨e1, e2⟩ := r4 _ rfl
          dsimp only at e1 e2
          subst e1 e2
          go_wp2_with fail
          go_region_held3 (fun _ => True) (exact trivial) (first
            | (go_at_call 44; with_reducible refine (CC wa va2 vc2 Ba ho2).mono ?_; rintro e wb ⟨v3, rfl, ho3, hb3⟩)
            | (go_at_call 51; with_reducible refine (CT _ (U0 _)).mono ?_; rintro e wa ⟨v2, rfl, ho2, hba⟩; have Ba := undrew hba; obtain ⟨va2, vc2, rfl⟩ := own_form ho2))
          have ho4 : wb.ownsRow w.heap.size 34 4 v3 0 (flatUs Z1) := by rw [S1.out]; exact ho3
          have hB4 := btrans hb hb3
          obtain ⟨va3, vc3, rfl⟩ := own_form ho4
          clear CT CC
          go_wp2
          go_roundw
          case rel => exact ⟨k + 1, by omega, by go_num, by rw [hS.out]; exact ho4, hB4⟩
          case measure => simp [intOf]; omega
      rcases UZ with h | ⟨b2, o2, rfl, q2⟩
      · exact absurd (LZ.out.symm.trans (by rw [h]; rfl)) hn0
      have FZ := FlatAt.of_us q2
      obtain ⟨-, e2⟩ := r4 _ rfl
      dsimp only at e2
      subst e2
      clear q2 r3 r4
      have lt : (Z.take q).length = q := by have := LZ.out; simp; omega
      have ld : (Z.drop q).length = n - q := by have := LZ.out; simp; omega
      have CT : ∀ w, Us w (some ⟨b2, 0, none⟩) (Z.take q) → Calls Try.prog 51 #[.slice (some ⟨b2, 0, none⟩) q vc] w (fun e w' => ∃ v, e = .returned v ∧ w'.ownsRow w.heap.size 34 4 v q (flatUs (turned (Z.take q))) ∧ Below w.heap.size w w') := fun w h => by
        have := cTurnU (some ⟨b2, 0, none⟩) vc (Z.take q) w h (by omega)
        rw [lt] at this
        refine this.mono ?_
        rintro e w' ⟨v, rfl, h1, h2⟩
        rw [turned_len, lt] at h1
        exact ⟨v, rfl, h1, h2⟩
      have U0 : ∀ w, Below wr.heap.size wr w → Us w (some ⟨b2, 0, none⟩) (Z.take q) := fun w h => (FZ.below h).us.take q
      have Ud : Us wr.drew (some ⟨b2, 0, none⟩) (Z.take q) := U0 _ (bdraw (Below.refl _ _) 1)
      have i1 : (q : Int) ≤ (n : Int) := by omega
      have i2 : (n : Int) ≤ (vc : Int) := by omega
      have i3 : (q : Int) ≤ (vc : Int) := by omega
      have i4 : (0 : Int) ≤ (q : Int) := by omega
      have i5 : (0 : Int) ≤ (vc : Int) := by omega
      have CC : ∀ (a1 : Option Addr) (p1 : Nat) (wa : World) (va2 : Option Addr) (vc2 : Nat), Us wr a1 (Z.drop q) → Below wr.heap.size wr wa → wa.ownsRow wr.drew.heap.size 34 4 (.slice va2 q vc2) q (flatUs (turned (Z.take q))) → Calls Try.prog 44 #[.slice (some ⟨wa.heap.size, 0, none⟩) 2 2] (wa.alloc (.cells #[.slice a1 (n - q) p1, .slice va2 q vc2] 24)) (fun e w' => ∃ v, e = .returned v ∧ w'.ownsRow w.heap.size 34 4 v n (flatUs Z1) ∧ Below wr.heap.size wr w') := fun a1 p1 wa va2 vc2 hu Ba ho2 => by
        have A := one_block' wa (.cells #[.slice a1 (n - q) p1, .slice va2 q vc2] 24)
        have hba := balloc wa (.cells #[.slice a1 (n - q) p1, .slice va2 q vc2] 24)
        have lt2 : (turned (Z.take q)).length = q := by rw [turned_len, lt]
        have C := cConcat wa.heap.size p1 vc2 a1 va2 (Z.drop q) (turned (Z.take q)) _ (hu.below (btrans Ba hba)) ((Us.own ho2).below hba) (by omega) (by omega) (by rw [ld]; exact blk_cell A 0) (by rw [lt2]; exact blk_cell A 1)
        refine C.mono ?_
        rintro e w' ⟨v, rfl, hv, hb'⟩
        have e1 : Z.drop q ++ turned (Z.take q) = Z1 := S1.out.symm
        have e2 : Z1.length = n := by rw [← e1, List.length_append, ld, lt2]; omega
        rw [e1, e2] at hv
        exact ⟨v, rfl, own_base hv ((btrans (btrans (btrans HB3 hb) Ba) hba).size), btrans (btrans Ba hba) hb'⟩
      have lenZ := LZ
      clear lt ld LZ S1
      by_cases hc : vc = q
      · obtain rfl : q = n := by omega
        subst hc
        have CC2 := fun wa va2 vc2 => CC (some ⟨b2, 0, none⟩) 0 wa va2 vc2 (by rw [List.drop_eq_nil_of_le (by have := lenZ.out; omega)]; exact Or.inl rfl)
        rw [Nat.sub_self] at CC2
        clear CC
        go_wp2_with fail
        go_region_held3 (fun _ => True) (exact trivial) (first
          | (go_at_call 44; with_reducible refine (CC2 wa va2 vc2 Ba ho2).mono ?_; rintro e wb ⟨v3, rfl, ho3, hb3⟩)
          | (go_at_call 51; with_reducible refine (CT _ Ud).mono ?_; rintro e wa ⟨v2, rfl, ho2, hba⟩; have Ba := undrew hba; obtain ⟨va2, vc2, rfl⟩ := own_form ho2))
        have ho4 := ho3
        have hB4 := btrans hb hb3
        obtain ⟨va3, vc3, rfl⟩ := own_form ho4
        clear CT CC2
        go_wp2
        go_roundw
        case rel => exact ⟨k + 1, by omega, by go_num, by rw [hS.out]; exact ho4, hB4⟩
        case measure => simp [intOf]; omega
      · have hcn : ¬ ((vc : Int) = (q : Int)) := by omega
        have CC2 := fun wa va2 vc2 => CC (some ⟨b2, 0 + q * 4, none⟩) (vc - q) wa va2 vc2 (FZ.drop q).us
        rw [Nat.zero_add] at CC2
        clear CC
        go_wp2_with fail
        go_region_held3 (fun _ => True) (exact trivial) (first
          | (go_at_call 44; with_reducible refine (CC2 wa va2 vc2 Ba ho2).mono ?_; rintro e wb ⟨v3, rfl, ho3, hb3⟩)
          | (go_at_call 51; with_reducible refine (CT _ Ud).mono ?_; rintro e wa ⟨v2, rfl, ho2, hba⟩; have Ba := undrew hba; obtain ⟨va2, vc2, rfl⟩ := own_form ho2))
        have ho4 := ho3
        have hB4 := btrans hb hb3
        obtain ⟨va3, vc3, rfl⟩ := own_form ho4
        clear CT CC2
        go_wp2
        go_roundw
        case rel => exact ⟨k + 1, by omega, by go_num, by rw [hS.out]; exact ho4, hB4⟩
        case measure => simp [intOf]; omega
    · obtain rfl : k = cs.length := by omega
      rw [List.take_length] at ho
      obtain ⟨va, vc, rfl⟩ := own_form ho
      have hLl := LN.out cs.length
      rw [List.take_length] at hLl
      have HL := hide hLl
      clear hz3 LN hLl
      go_wp2
      go_ret
      show AnsU w (shL l cs) _ _
      rw [E.out]
      exact ⟨_, rfl, by rw [HL.out]; exact ho, btrans HB3 hb⟩
end Go.Proofs.Ytfffnekbdegclaa
