/- The walk of FnFares. -/
import Derived.Test.YtepdnaahhkkdeaaDR
import Derived.Test.YtepdnaahhkkdeaaCD
import Derived.Deep.RegionHeld3
namespace Go.Proofs.Ytepdnaahhkkdeaa
open Go.RowKit
theorem jmp_mono {b s r : Int} {js : List Int} (h : Tf b s js r) (i m : Nat) : jmp js i m ≤ jmp js i (m + 1) := by
  have := h.j (i + m)
  simp only [jmp]
  omega
theorem fare_mono {b s r x y : Int} {js : List Int} (h : tfB b s js r = true) (hx : 0 ≤ x) (hxy : x ≤ y) (hy : y + 1 < 20) : fareV b s js r x y ≤ fareV b s js r x (y + 1) := by
  have T := Tf.of h
  have zx : zonB x = true := inB_yes (by omega) (by omega)
  have zy : zonB y = true := inB_yes (by omega) (by omega)
  have zy1 : zonB (y + 1) = true := inB_yes (by omega) (by omega)
  rw [fareV_ok h zx zy, fareV_ok h zx zy1]
  obtain ⟨lo, hi, rfl, rfl⟩ : ∃ lo hi : Nat, x = lo ∧ y = hi := ⟨x.toNat, y.toNat, by omega, by omega⟩
  rw [show (min (lo : Int) (hi : Int)).toNat = lo by omega, show (max (lo : Int) (hi : Int)).toNat = hi by omega, show (min (lo : Int) ((hi : Int) + 1)).toNat = lo by omega, show (max (lo : Int) ((hi : Int) + 1)).toNat = hi + 1 by omega]
  have a := raw_in T (lo := lo) (hi := hi) (by omega) (by omega)
  have r0 := T.r0
  refine dn_mono T.r0 (by omega) ?_
  have e1 : raw b s js lo hi ≤ raw b s js lo (hi + 1) := by
    unfold raw
    have j1 := jmp_mono T lo (hi - lo)
    rw [show hi + 1 - lo = hi - lo + 1 by omega]
    have s1 : s * ((hi : Int) - lo) ≤ s * (((hi + 1 : Nat) : Int) - lo) := Int.mul_le_mul_of_nonneg_left (by omega) T.s0
    omega
  omega
theorem fareV_mul {b s r x y : Int} {js : List Int} (h : tfB b s js r = true) (zx : zonB x = true) (zy : zonB y = true) : (fareV b s js r x y).tmod r = 0 := by
  rw [fareV_ok h zx zy]; exact dn_mul _ _
theorem cbest_one {r fare m : Int} {cs : List CardV} {c : CardV} (hc : c ∈ cs) : cbest r fare m cs ≤ cbest r fare m [c] := by
  simp only [cbest]
  have h1 := cbest_le r fare m cs
  split
  · rename_i h
    have := cbest_mem (r := r) (fare := fare) hc h
    omega
  · exact h1
theorem cards_one {cs : List CardV} {c : CardV} (h : cardsB cs = true) (hc : c ∈ cs) : cardsB [c] = true := by
  simp only [cardsB, Bool.and_eq_true, List.all_eq_true, decide_eq_true_eq] at h ⊢
  exact ⟨by simp, fun x hx => by rw [List.mem_singleton.1 hx]; exact h.2 c hc⟩
theorem cards_part {w : World} {B g n c : Nat} {cs : List CardV} (h : w.ownsRow B 61 4 (.slice (some ⟨g, 0, none⟩) n c) n (flatCards cs)) {i : Nat} (hi : i < cs.length) : Cards w (some ⟨g, i * 4, none⟩) [cs[i]] := by
  rcases Cards.of_owns h with h0 | ⟨b, off, he, hc⟩
  · simp [h0] at hi
  · simp only [Option.some.injEq, Addr.mk.injEq, and_true] at he
    obtain ⟨rfl, rfl⟩ := he
    refine .inr ⟨g, i * 4, rfl, fun j hj => ?_⟩
    have hj0 : j = 0 := by simp at hj; omega
    subst hj0
    have := hc i hi
    have e0 : cs.getD i CardV.zero = cs[i] := by simp [List.getD, hi]
    rw [e0] at this
    simpa using this
theorem back_zero {r paid : Int} : dn r (backV paid 0) = 0 := by simp [backV, dn]
theorem back_all {r paid : Int} (h : paid.tmod r = 0) : dn r (backV paid 72) = paid := by
  have : backV paid 72 = paid := by simp [backV]
  rw [this]; exact dn_id h

set_option maxRecDepth 100000 in
set_option maxHeartbeats 6400000 in
theorem walkFares (a : Option Addr) (cap : Nat) (bs : List Int) (w : World) (hz : Bytes w a bs) (hm : bs.length ≤ maxLen) :
    Calls Try.prog 10 #[.slice a bs.length cap] w fun e w' => e = .returned (.bool true) ∧ Below w.heap.size w w' := by
  by_cases hbig : 1048576 < bs.length
  · have hd : decide (1048576 < bs.length) = true := by simp [hbig]
    go_enter Try.func10, Try.ntmps10
    go_wp2_with fail
    refine (cbig a cap bs.length _ hm).mono ?_
    rintro e w1 ⟨rfl, hw⟩
    subst w1
    rw [hd]
    go_wp2
    go_ret
    exact ⟨rfl, Below.refl _ _⟩
  have hd : decide (1048576 < bs.length) = false := by simp; omega
  have hl : bs.length ≤ 1048576 := by omega
  have at3 := atZ_in hz 3
  have at4 := atZ_in hz 4
  have at5 := atZ_in hz 5
  go_enter Try.func10, Try.ntmps10
  go_wp2_with fail
  refine (cbig a cap bs.length _ hm).mono ?_
  rintro e w1 ⟨rfl, hw⟩
  subst w1
  rw [hd]
  clear hd hbig hm
  go_wp2_with fail
  refine (cDrawF cap a bs _ hz hl).mono ?_
  rintro e w1 ⟨b, s, r, m, js, zs, cs, vj, vc, vz, rfl, htf, hcd, -, hmi, J, O, Z, HB⟩
  obtain ⟨ja, jc, rfl⟩ := own_form J
  obtain ⟨ca, cc, rfl⟩ := own_form O
  obtain ⟨za, zc, rfl⟩ := own_form Z
  have hT := Tf.of htf
  have r0 := hT.r0
  have r1 := hT.r1
  have hjl : js.length ≤ 1048576 := by have := hT.n; omega
  have hcl := cards_len hcd
  have hbx := balloc w1 (.cells #[.int .i64 b, .int .i64 s, .slice ja js.length jc, .int .i64 r] 27)
  have X := Bx4.new w1 (.int .i64 b) (.int .i64 s) (.slice ja js.length jc) (.int .i64 r) 27
  have HW := btrans HB hbx
  have JI := (Ints.own (own_keep J hbx) rfl)
  have OC := own_keep O hbx
  have hzB := hz.below HW
  clear Z J O hbx HB hT
  replace htf := hide htf
  replace hcd := hide hcd
  replace hmi := hide hmi
  go_wp2_with fail
  generalize (w1.alloc (.cells #[.int .i64 b, .int .i64 s, .slice ja js.length jc, .int .i64 r] 27)) = wB at *
  generalize w1.heap.size = tb at *
  refine (cat a cap bs 3 _ hzB hl (by omega)).mono ?_
  rintro e w2 ⟨rfl, hw⟩
  subst w2
  go_wp2_with fail
  refine (cat a cap bs 4 _ hzB hl (by omega)).mono ?_
  rintro e w2 ⟨rfl, hw⟩
  subst w2
  have CAT : ∀ w', Below wB.heap.size wB w' → Calls Try.prog 40 #[.slice a bs.length cap, .int .i64 5] w' fun e w2 => e = .returned (.int .i64 (atZ bs 5)) ∧ w2 = w' := fun w' h => cat a cap bs 5 w' (hzB.below h) hl (by omega)
  generalize atZ bs 3 = z3 at *
  generalize atZ bs 4 = z4 at *
  generalize atZ bs 5 = z5 at *
  obtain ⟨q1, q2, q3⟩ := rem_in (x := z3) (n := 20) at3.1 (by omega) (by omega)
  obtain ⟨q4, q5, q6⟩ := rem_in (x := z4) (n := 20) at4.1 (by omega) (by omega)
  obtain ⟨x0, x1, x2, x3⟩ := id X
  go_wp2_with fail
  generalize z3 % 20 = A at *
  generalize z4 % 20 = B at *
  clear q1 q4 at3 at4
  have zA : zonB A = true := inB_yes (by omega) (by omega)
  have zB : zonB B = true := inB_yes (by omega) (by omega)
  have hfi := fareV_in htf.out zA zB
  have hfm := fareV_mul htf.out zA zB
  have hfs := hide (fareV_symm b s js r A B)
  have hmono := hide (fun h1 h2 => fare_mono (y := B) htf.out q2 h1 h2)
  have CF := fun x y w' (h : Below wB.heap.size wB w') => cFareI b s r x y js ja jc w' (JI.below h) hjl
  have CFS := fun w' (h : Below wB.heap.size wB w') => cFareS b s r A B js ja jc w' (JI.below h) hjl
  have BB := Below.refl wB.heap.size wB
  refine (CF A B _ BB).mono ?_
  rintro e w2 ⟨rfl, hb⟩
  replace BB := btrans BB hb
  clear hb x0 x1 x2 x3
  have CFB := CF B A
  rw [← hfs.out] at CFB
  have CF1 := CF A (B + 1)
  generalize fareV b s js r A B = f at *
  generalize fareV b s js r A (B + 1) = f2 at *
  have fw : payB f = true := inB_yes (by omega) (by omega)
  have hn0 : ¬ f < 0 := by omega
  obtain ⟨x0, x1, x2, x3⟩ := X.c BB
  go_wp2_with fail
  refine (CFB _ BB).mono ?_
  rintro e w3 ⟨rfl, hb⟩
  replace BB := btrans BB hb
  clear hb x0 x1 x2 x3
  have em : f.tmod r = f % r := Int.tmod_eq_emod_of_nonneg (by omega)
  have em0 : f % r = 0 := by rw [← em]; exact hfm
  have hr0 : r ≠ 0 := by omega
  have hr1 : r ≠ -1 := by omega
  obtain ⟨x0, x1, x2, x3⟩ := X.c BB
  go_wp2_with fail
  refine (CFS _ BB).mono ?_
  rintro e w4 ⟨rfl, hb⟩
  replace BB := btrans BB hb
  clear hb x0 x1 x2 x3 CFS CFB CF
  go_upto_region 8 with fail
  go_cut [74] from 58 (fun cv wc => cv = .bool false ∧ Below wB.heap.size wB wc)
  case first =>
    obtain ⟨x0, x1, x2, x3⟩ := X.c BB
    by_cases c1 : A ≤ B
    · by_cases c2 : B + 1 < 20
      · have hge := hmono.out c1 c2
        have hge' : ¬ f2 < f := by omega
        have vB : IntKind.i64.wrap (B + 1) = B + 1 := wrap_in _ (by omega) (by omega)
        go_wp2_with fail
        refine (CF1 _ BB).mono ?_
        rintro e w5 ⟨rfl, hb⟩
        replace BB := btrans BB hb
        go_wp2_with fail
        go_meet
        exact ⟨by simp; omega, BB⟩
      · go_wp2_with fail
        go_meet
        exact ⟨rfl, BB⟩
    · go_wp2_with fail
      go_meet
      exact ⟨rfl, BB⟩
  case rest =>
  clear BB
  obtain ⟨rfl, BB⟩ := hcut
  clear hmono CF1
  have CC := fun w' (h : Below wB.heap.size wB w') => cCardedI b s r f m js ja jc ca cc cs w' (JI.below h) hjl ((Cards.own OC).below h) (by omega)
  have CN := fun w' (h : Below wB.heap.size wB w') => cCardedI b s r f m js ja jc none 0 [] w' (JI.below h) hjl (.inl rfl) (by simp)
  have CK := fun w' (h : Below wB.heap.size wB w') => cCardsI ca cc cs w' ((Cards.own OC).below h) (by omega)
  have hai := cardedV_in htf.out hcd.out fw hmi.out
  have hNil : cardedV b s js r f [] m = f := by rw [cardedV_ok htf.out (by rfl) fw hmi.out]; rfl
  have hone := hide (fun i (hi : i < cs.length) => show cardedV b s js r f cs m ≤ cardedV b s js r f [cs[i]] m ∧ cardedV b s js r f [cs[i]] m ≤ f from ⟨by
    rw [cardedV_ok htf.out hcd.out fw hmi.out, cardedV_ok htf.out (cards_one hcd.out (List.getElem_mem hi)) fw hmi.out]
    exact cbest_one (List.getElem_mem hi), (cardedV_in htf.out (cards_one hcd.out (List.getElem_mem hi)) fw hmi.out).2⟩)
  rw [hNil] at CN
  rw [hcd.out] at CK
  clear hNil
  obtain ⟨x0, x1, x2, x3⟩ := X.c BB
  go_wp2_with fail
  refine (CC _ BB).mono ?_
  rintro e w5 ⟨rfl, hb⟩
  replace BB := btrans BB hb
  clear hb x0 x1 x2 x3 CC
  generalize cardedV b s js r f cs m = all at *
  have ha1 : ¬ f < all := by omega
  have ha2 : ¬ all < 0 := by omega
  obtain ⟨x0, x1, x2, x3⟩ := X.c BB
  go_wp2_with fail
  refine (CN _ BB).mono ?_
  rintro e w6 ⟨rfl, hb⟩
  replace BB := btrans BB hb
  clear hb x0 x1 x2 x3 CN
  go_wp2_with fail
  refine (CK _ BB).mono ?_
  rintro e w7 ⟨rfl, hb⟩
  replace BB := btrans BB hb
  clear hb CK
  go_wp2
  go_loopw [11, 12] (fun ii _ wr => ∃ i : Nat, i ≤ cs.length ∧ ii = .int .i64 i ∧ Below wB.heap.size wB wr) (fun ii _ _ => cs.length - (intOf ii).toNat)
  case atStart => exact ⟨0, Nat.zero_le _, rfl, BB⟩
  case round =>
    clear BB
    obtain ⟨i, hin, rfl, BB⟩ := hrel
    by_cases hlt : i < cs.length
    · have h1 := hone.out i hlt
      rcases OC.2 with ⟨_, h0⟩ | ⟨g, cap', cur, hv, hgB, hh, hcap, hcm, _⟩
      · omega
      simp only [Value.slice.injEq] at hv
      obtain ⟨rfl, -, rfl⟩ := hv
      have CO := fun (w' : World) (h : Below wB.heap.size wB w') (k : Nat) => cCardedI b s r f m js ja jc (some ⟨g, i * 4, none⟩) k [cs[i]] w' (JI.below h) hjl ((cards_part OC hlt).below h) (by simp)
      simp only [List.length_cons, List.length_nil, Nat.zero_add] at CO
      generalize cardedV b s js r f [cs[i]] m = one at *
      have hc1 : ¬ one < all := by omega
      have hc2 : ¬ f < one := by omega
      have hi1 : (0 : Int) ≤ i := by omega
      have hi2 : (i : Int) + 1 ≤ cs.length := by omega
      have hi3 : (i : Int) + 1 ≤ cc := by omega
      have hi4 : (i : Int) ≤ (i : Int) + 1 := by omega
      have hi5 : cc ≠ i := by omega
      have vi : IntKind.i64.wrap ((i : Int) + 1) = (i : Int) + 1 := wrap_in _ (by omega) (by omega)
      obtain ⟨x0, x1, x2, x3⟩ := X.c BB
      have hD := BB.drew
      clear h1
      go_wp2_with fail
      go_region_held3 (fun w' => w'.cell? ⟨tb, 0, none⟩ = some (.int .i64 b) ∧ w'.cell? ⟨tb, 1, none⟩ = some (.int .i64 s) ∧ w'.cell? ⟨tb, 2, none⟩ = some (.slice ja js.length jc) ∧ w'.cell? ⟨tb, 3, none⟩ = some (.int .i64 r)) (go_keep) (first
        | (go_at_call 25; with_reducible refine (CO _ hD _).mono ?_; rintro e wq ⟨rfl, hbq⟩; have Bq := btrans hD hbq; clear hbq; obtain ⟨v0, v1, v2, v3⟩ := X.c Bq))
      clear CO hone
      go_wp2
      go_roundw
      case rel => exact ⟨i + 1, by omega, by go_num, Bq⟩
      case measure => simp [intOf]; omega
    · obtain rfl : i = cs.length := by omega
      clear hone
      have CR := fun h w' (hb : Below wB.heap.size wB w') => cRefundI b s r f h js ja jc w' (JI.below hb) hjl
      have hb5 := back_in (paid := f) (h := z5) (by omega)
      have hR5 : refundV b s js r f z5 = dn r (backV f z5) := refundV_ok htf.out fw
      have hR72 : refundV b s js r f 72 = f := by rw [refundV_ok htf.out fw]; exact back_all hfm
      have hR0 : refundV b s js r f 0 = 0 := by rw [refundV_ok htf.out fw]; exact back_zero
      have hdi := dn_in (r := r) (x := backV f z5) r0 hb5.1
      have hdm := dn_mul r (backV f z5)
      have CR5 := CR z5
      have CR72 := CR 72
      have CR0 := CR 0
      rw [hR5] at CR5
      rw [hR72] at CR72
      rw [hR0] at CR0
      clear CR hR5 hR72 hR0
      obtain ⟨hb51, hb52⟩ := hb5
      generalize backV f z5 = k5 at *
      obtain ⟨-, -, -, hd0, hd1, -⟩ := hdi
      generalize dn r k5 = back at *
      have hdm2 : back % r = 0 := by rw [← Int.tmod_eq_emod_of_nonneg hd0]; exact hdm
      have hle : back ≤ f := by omega
      obtain ⟨x0, x1, x2, x3⟩ := X.c BB
      have hD := BB.drew
      go_wp2_with fail
      go_region_held3 (fun w' => w'.cell? ⟨tb, 0, none⟩ = some (.int .i64 b) ∧ w'.cell? ⟨tb, 1, none⟩ = some (.int .i64 s) ∧ w'.cell? ⟨tb, 2, none⟩ = some (.slice ja js.length jc) ∧ w'.cell? ⟨tb, 3, none⟩ = some (.int .i64 r)) (go_keep) (first
        | (go_at_call 37; with_reducible refine (CR5 _ hD).mono ?_; rintro e wq ⟨rfl, hbq⟩; have Bq := btrans hD hbq; clear hbq; obtain ⟨v0, v1, v2, v3⟩ := X.c Bq)
        | (go_at_call 40; with_reducible refine (CAT _ hD).mono ?_; rintro e wr2 ⟨rfl, hwr⟩; subst wr2))
      clear hD BB CR5 x0 x1 x2 x3
      go_wp2_with fail
      refine (CR72 _ Bq).mono ?_
      rintro e wx ⟨rfl, hb⟩
      replace Bq := btrans Bq hb
      clear hb v0 v1 v2 v3 CR72
      obtain ⟨x0, x1, x2, x3⟩ := X.c Bq
      go_wp2_with fail
      refine (CR0 _ Bq).mono ?_
      rintro e wy ⟨rfl, hb⟩
      replace Bq := btrans Bq hb
      go_wp2
      go_ret
      exact ⟨rfl, btrans HW Bq⟩
end Go.Proofs.Ytepdnaahhkkdeaa
