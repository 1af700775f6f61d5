/- The walk of FnSpread. -/
import Derived.Test.YtgnlcehpajbnoaaDT
import Derived.Test.YtgnlcehpajbnoaaDM
import Derived.Test.YtgnlcehpajbnoaaCM
import Derived.Deep.RegionHeld3
import Derived.BigQuiet
namespace Go.Proofs.Ytgnlcehpajbnoaa
open Go.RowKit

set_option maxHeartbeats 800000 in
theorem cSameInts (a1 a2 : Option Addr) (c1 c2 : Nat) (xs : List Int) (w : World) (h1 : Ints w a1 xs) (h2 : Ints w a2 xs) (hl : xs.length ≤ 1048576) :
    Calls Try.prog 24 #[.slice a1 xs.length c1, .slice a2 xs.length c2] w fun e w' => e = .returned (.bool true) ∧ Below w.heap.size w w' := by
  go_enter Try.func24, Try.ntmps24
  go_wp2
  go_loopw [5] (fun i wr => ∃ k : Nat, k ≤ xs.length ∧ i = .int .i64 k ∧ Below w.heap.size w wr) (fun i _ => xs.length - (intOf i).toNat)
  case atStart => exact ⟨0, Nat.zero_le _, rfl, Below.refl _ _⟩
  case round =>
    obtain ⟨k, hk, rfl, hb⟩ := hrel
    by_cases hlt : k < xs.length
    · rcases h1 with h | ⟨b1, o1, rfl, q1⟩
      · simp [h] at hlt
      rcases h2 with h | ⟨b2, o2, rfl, q2⟩
      · simp [h] at hlt
      have p1 := ble hb (q1 k hlt)
      have p2 := ble hb (q2 k hlt)
      clear q1 q2
      generalize xs.getD k 0 = y at *
      go_wp2
      go_quiet (fail)
      go_wp2
      go_roundw
      case rel => exact ⟨k + 1, by omega, by go_num, bdraw hb _⟩
      case measure => simp [intOf]; omega
    · obtain rfl : k = xs.length := by omega
      clear h1 h2
      go_wp2
      go_ret
      exact ⟨rfl, hb⟩

theorem has_drop {zs : List Int} {x : Int} {k : Nat} (hk : k < zs.length) : decide (x ∈ zs.drop k) = (decide (zs[k] = x) || decide (x ∈ zs.drop (k + 1))) := by
  have e : zs.drop k = zs[k] :: zs.drop (k + 1) := List.drop_eq_getElem_cons hk
  rw [e, Bool.eq_iff_iff]
  simp only [decide_eq_true_eq, Bool.or_eq_true, List.mem_cons]
  exact ⟨fun h => h.elim (fun h => .inl h.symm) .inr, fun h => h.elim (fun h => .inl h.symm) .inr⟩

set_option maxHeartbeats 800000 in
theorem cWithinL (a : Option Addr) (cap : Nat) (zs : List Int) (x : Int) (w : World) (hz : Ints w a zs) (hl : zs.length ≤ 1048576) :
    Calls Try.prog 20 #[.slice a zs.length cap, .int .i64 x] w fun e w' => e = .returned (.bool (decide (x ∈ zs))) ∧ w' = w := by
  generalize hr : decide (x ∈ zs) = res
  have hr0 : Hid (decide (x ∈ zs.drop 0) = res) := hr
  clear hr
  go_enter Try.func20, Try.ntmps20
  go_wp2
  go_loop [5] (fun i => ∃ k : Nat, k ≤ zs.length ∧ i = .int .i64 k ∧ Hid (decide (x ∈ zs.drop k) = res)) (fun i => zs.length - (intOf i).toNat)
  case atStart => exact ⟨0, Nat.zero_le _, rfl, hr0⟩
  case round =>
    obtain ⟨k, hk, rfl, hres⟩ := hrel
    clear hr0
    by_cases hlt : k < zs.length
    · rcases hz with h | ⟨b, off, rfl, hc⟩
      · simp [h] at hlt
      have q0 := hc k hlt
      have e0 : zs.getD k 0 = zs[k] := by simp [List.getD, hlt]
      rw [e0] at q0
      have hd := hide ((has_drop (x := x) hlt).symm.trans hres.out)
      generalize zs[k] = y at *
      clear hc e0 hres
      by_cases hy : y = x
      · have hf := hide (show res = true by rw [← hd.out]; simp [hy])
        clear hd
        subst hy
        go_wp2
        go_ret
        exact ⟨ret_bool hf.out.symm, rfl⟩
      · have hf := hide (show decide (x ∈ zs.drop (k + 1)) = res by rw [← hd.out]; simp [hy])
        clear hd
        go_wp2
        go_round
        case rel => exact ⟨k + 1, by omega, by go_num, hf⟩
        case measure => simp [intOf]; omega
    · obtain rfl : k = zs.length := by omega
      have hf := hide (show res = false by rw [← hres.out, List.drop_length]; simp)
      clear hz
      go_wp2
      go_ret
      exact ⟨ret_bool hf.out.symm, rfl⟩

/-- All seats so far are the first one. -/
def sameUp (L : List Int) (k : Nat) : Bool := decide (∀ i, i < k → L.getD i 0 = L.getD 0 0)
theorem sameUp_zero (L : List Int) : sameUp L 0 = true := by simp [sameUp]
theorem sameUp_yes {L : List Int} {k : Nat} (h : L.getD k 0 = L.getD 0 0) : sameUp L (k + 1) = sameUp L k := by
  unfold sameUp
  rw [decide_eq_decide]
  refine ⟨fun g i hi => g i (by omega), fun g i hi => ?_⟩
  by_cases e : i = k
  · rw [e]; exact h
  · exact g i (by omega)
theorem sameUp_no {L : List Int} {k : Nat} (h : L.getD k 0 ≠ L.getD 0 0) : sameUp L (k + 1) = false := by
  unfold sameUp
  exact decide_eq_false fun g => h (g k (by omega))

set_option maxRecDepth 100000 in
set_option maxHeartbeats 6400000 in
theorem walkSpread (a : Option Addr) (cap : Nat) (bs : List Int) (w : World) (hz : Bytes w a bs) (hm : bs.length ≤ maxLen) :
    Calls Try.prog 4 #[.slice a bs.length cap] w fun e w' => e = .returned (.bool true) ∧ Below w.heap.size w w' := by
  by_cases hbig : 1048576 < bs.length
  · have hd : decide (1048576 < bs.length) = true := by simp [hbig]
    go_enter Try.func4, Try.ntmps4
    go_wp2_with fail
    refine (cbig a cap bs.length _ hm).mono ?_
    rintro e w1 ⟨rfl, hw⟩
    subst w1
    rw [hd]
    go_wp2
    go_ret
    exact ⟨rfl, Below.refl _ _⟩
  have hd : decide (1048576 < bs.length) = false := by simp; omega
  have hl : bs.length ≤ 1048576 := by omega
  have at3 := atZ_in hz 3
  have at4 := atZ_in hz 4
  go_enter Try.func4, Try.ntmps4
  go_wp2_with fail
  refine (cbig a cap bs.length _ hm).mono ?_
  rintro e w1 ⟨rfl, hw⟩
  subst w1
  rw [hd]
  clear hd hbig hm
  go_wp2_with fail
  refine (cDrawT cap a bs _ hz hl).mono ?_
  rintro e w1 ⟨S, P, hs, v, l, v2, rfl, hT, -, O, -, HB⟩
  obtain ⟨ha, hcp, rfl⟩ := own_form O
  have hbx := balloc w1 (.cells #[.int .i64 S, .int .i64 P, .slice ha hs.length hcp] 26)
  have T0 := heap_alloc_new w1 (.cells #[.int .i64 S, .int .i64 P, .slice ha hs.length hcp] 26)
  have HW := btrans HB hbx
  have BI := Bks.own (own_keep O hbx)
  have hzB := hz.below HW
  obtain ⟨S1, S2, P1, P2, hlen, -⟩ := id hT
  have hhl : hs.length ≤ 1048576 := by omega
  replace hT := hide hT
  clear O hbx HB
  go_wp2_with fail
  generalize (w1.alloc (.cells #[.int .i64 S, .int .i64 P, .slice ha hs.length hcp] 26)) = wB at *
  generalize w1.heap.size = tb at *
  have CAT3 : ∀ w', Below wB.heap.size wB w' → Calls Try.prog 22 #[.slice a bs.length cap, .int .i64 3] w' fun e w2 => e = .returned (.int .i64 (atZ bs 3)) ∧ w2 = w' := fun w' h => cat a cap bs 3 w' (hzB.below h) hl (by omega)
  have CAT4 : ∀ w', Below wB.heap.size wB w' → Calls Try.prog 22 #[.slice a bs.length cap, .int .i64 4] w' fun e w2 => e = .returned (.int .i64 (atZ bs 4)) ∧ w2 = w' := fun w' h => cat a cap bs 4 w' (hzB.below h) hl (by omega)
  have CF : ∀ (p q : Int) (w' : World), Below wB.heap.size wB w' → Calls Try.prog 16 #[.agg #[.int .i64 S, .int .i64 P, .slice ha hs.length hcp], .int .i64 p, .int .i64 q] w' fun e w2 => ∃ (va : Option Addr) (vc : Nat), e = .returned (.slice va (freeL S P hs p q).length vc) ∧ Ints w2 va (freeL S P hs p q) ∧ Below w'.heap.size w' w2 := by
    intro p q w' h
    refine (cFreeI S P ha hcp hs p q w' (BI.below h) hhl).mono ?_
    rintro e w2 ⟨v, rfl, o, hb⟩
    obtain ⟨va, vc, rfl⟩ := own_form o
    exact ⟨va, vc, rfl, Ints.own o rfl, hb⟩
  generalize atZ bs 3 = z3 at *
  generalize atZ bs 4 = z4 at *
  obtain ⟨q1, q2, q3⟩ := rem_in (x := z3) (n := P) at3.1 (by omega) (by omega)
  have hP0 : P ≠ 0 := by omega
  obtain ⟨⟨t0, t1, t2⟩, -⟩ := blk3 T0
  have hD := (Below.refl wB.heap.size wB).drew
  go_region_held3 (fun w' => w'.cell? ⟨tb, 0, none⟩ = some (.int .i64 S) ∧ w'.cell? ⟨tb, 1, none⟩ = some (.int .i64 P) ∧ w'.cell? ⟨tb, 2, none⟩ = some (.slice ha hs.length hcp)) (go_keep) (first
    | (go_at_call 22; with_reducible refine (CAT3 _ hD).mono ?_; rintro e w2 ⟨rfl, hw⟩; subst w2))
  have htm : z3.tmod P = z3 % P := Int.tmod_eq_emod_of_nonneg at3.1
  rw [← htm] at q2 q3
  clear q1 htm
  generalize z3.tmod P = on at *
  obtain ⟨M, hM⟩ : ∃ M, M = P - on := ⟨_, rfl⟩
  obtain ⟨q4, q5, q6⟩ := rem_in (x := z4) (n := M) at4.1 (by omega) (by omega)
  have hP1 : M ≠ 0 := by omega
  have vP : IntKind.i64.wrap (P - on) = M := by rw [hM]; exact wrap_in _ (by omega) (by omega)
  replace hM := hide hM
  have hDD := hD.drew
  go_wp2_with fail
  go_region_held3 (fun w' => w'.cell? ⟨tb, 0, none⟩ = some (.int .i64 S) ∧ w'.cell? ⟨tb, 1, none⟩ = some (.int .i64 P) ∧ w'.cell? ⟨tb, 2, none⟩ = some (.slice ha hs.length hcp)) (go_keep) (first
    | (go_at_call 22; with_reducible refine (CAT4 _ hDD).mono ?_; rintro e w2 ⟨rfl, hw⟩; subst w2))
  have htm : z4.tmod M = z4 % M := Int.tmod_eq_emod_of_nonneg at4.1
  rw [← htm] at q5 q6
  have vo : IntKind.i64.wrap (on + 1) = on + 1 := wrap_in _ (by omega) (by omega)
  have hoff : IntKind.i64.wrap (IntKind.i64.wrap (on + 1) + z4.tmod M) = on + 1 + z4.tmod M := by rw [vo]; have := hM.out; exact wrap_in _ (by omega) (by omega)
  have o1 : on < IntKind.i64.wrap (IntKind.i64.wrap (on + 1) + z4.tmod M) := by rw [hoff]; omega
  have o2 : IntKind.i64.wrap (IntKind.i64.wrap (on + 1) + z4.tmod M) ≤ P := by rw [hoff]; have := hM.out; omega
  clear hoff htm q4 hzB CAT3 CAT4
  generalize IntKind.i64.wrap (IntKind.i64.wrap (on + 1) + z4.tmod M) = off at *
  clear t0 t1 t2 q5 q6 vP vo hP1
  have HS2 := hide (spr hT.out q2 o1 o2)
  have hSL := spreadV_len S P hs on off
  obtain ⟨⟨t0, t1, t2⟩, -⟩ := blk3 (blk_keep hDD T0)
  generalize wB.drew.drew = W at *
  go_wp2_with fail
  refine (cSpreadI S P ha hcp hs on off _ (BI.below hDD) hhl).mono ?_
  rintro e w2 ⟨v, rfl, O2, hb⟩
  obtain ⟨la, lc, rfl⟩ := own_form O2
  have BB := btrans hDD hb
  clear t0 t1 t2 hb hDD hD
  obtain ⟨⟨t0, t1, t2⟩, -⟩ := blk3 (blk_keep BB T0)
  go_wp2_with fail
  refine (cSpreadS S P ha hcp hs on off _ (BI.below BB) hhl).mono ?_
  rintro e w3 ⟨v, rfl, O3, hb⟩
  obtain ⟨ka, kc, rfl⟩ := own_form O3
  replace O2 := own_keep O2 hb
  replace BB := btrans BB hb
  clear t0 t1 t2 hb
  go_wp2_with fail
  refine (cSameInts la ka lc kc _ _ (Ints.own O2 rfl) (Ints.own O3 rfl) hSL).mono ?_
  rintro e w4 ⟨rfl, hb⟩
  replace O2 := own_keep O2 hb
  replace BB := btrans BB hb
  clear hb O3
  have IL := Ints.own O2 rfl
  clear O2
  generalize spreadV S P hs on off = L at *
  by_cases hL0 : L.length = 0
  · obtain ⟨p0, p1, p2, p3⟩ := HS2.out.non hL0
    have hLn := List.length_eq_zero_iff.1 hL0
    subst hLn
    replace p3 := hide p3
    clear IL HS2 hSL hL0
    go_wp2
    go_loopw [8] (fun ii wr => ∃ q : Int, ii = .int .i64 q ∧ on ≤ q ∧ q ≤ p0 ∧ Below wB.heap.size wB wr) (fun ii _ => (off - intOf ii).toNat)
    case atStart => exact ⟨on, rfl, Int.le_refl _, p1, BB⟩
    case round =>
      clear BB
      obtain ⟨q, rfl, q7, q8, BB⟩ := hrel
      have hqo : q < off := by omega
      obtain ⟨⟨t0, t1, t2⟩, -⟩ := blk3 (blk_keep BB T0)
      have CQ := CF q (q + 1) _ BB
      have hF : Hid (q = p0 → (freeL S P hs q (q + 1)).length = 0) := hide (fun e => by rw [e]; exact p3.out)
      generalize freeL S P hs q (q + 1) = F at *
      clear CF BI p3 T0
      go_wp2_with fail
      refine CQ.mono ?_
      rintro e w5 ⟨va, vc, rfl, -, hb5⟩
      replace BB := btrans BB hb5
      clear CQ hb5 t0 t1 t2
      by_cases hF0 : F.length = 0
      · have hFn := List.length_eq_zero_iff.1 hF0
        subst hFn
        go_wp2
        go_ret
        exact ⟨rfl, btrans HW BB⟩
      · have hF1 : ((F.length : Int) == 0) = false := by rw [beq_eq_false_iff_ne]; omega
        have h9 : q ≠ p0 := fun e => hF0 (hF.out e)
        have hq9 : q < p0 := by omega
        clear hF
        go_wp2
        go_roundw
        case rel => exact ⟨q + 1, by go_num, by omega, by omega, BB⟩
        case measure => simp [intOf]; omega
  · have hln := HS2.out.len hL0
    rcases IL with h | ⟨lg, lo, rfl, hc⟩
    · exact absurd (by rw [h]; rfl) hL0
    have hLd : ((L.length : Int) == 0) = false := by rw [beq_eq_false_iff_ne]; omega
    have hLe : ((L.length : Int) != off - on) = false := by rw [bne_eq_false_iff_eq]; exact hln
    have hLm : L.length ≤ 11 := by omega
    have hT4 := blk_keep BB T0
    replace hc := hide hc
    replace hln := hide hln
    replace hL0 := hide hL0
    go_wp2
    go_loopw [9, 10] (fun sm ii wr => ∃ k : Nat, k ≤ L.length ∧ ii = .int .i64 k ∧ sm = .bool (sameUp L k) ∧ Below w4.heap.size w4 wr) (fun _ ii _ => L.length - (intOf ii).toNat)
    case atStart => exact ⟨0, Nat.zero_le _, rfl, by rw [sameUp_zero], Below.refl _ _⟩
    case round =>
      obtain ⟨k, hk, rfl, rfl, hbr⟩ := hrel
      obtain ⟨⟨t0, t1, t2⟩, -⟩ := blk3 (blk_keep hbr hT4)
      by_cases hlt : k < L.length
      · have ck := ble hbr (hc.out k hlt)
        have c0 := ble hbr (hc.out 0 (by omega))
        have hmem := HS2.out.free k hlt
        have hYN : Hid ((L.getD k 0 = L.getD 0 0 → sameUp L (k + 1) = sameUp L k) ∧ (L.getD k 0 ≠ L.getD 0 0 → sameUp L (k + 1) = false)) := hide ⟨sameUp_yes, sameUp_no⟩
        have hFl := freeL_len S P hs (on + k) (on + k + 1)
        have hbd := btrans BB hbr.drew
        have CK := CF (on + k) (on + k + 1) _ hbd
        generalize freeL S P hs (on + k) (on + k + 1) = F at *
        generalize L.getD k 0 = x at *
        generalize L.getD 0 0 = x0 at *
        have CW : ∀ (va : Option Addr) (vc : Nat) (w' : World), Ints w' va F → Calls Try.prog 20 #[.slice va F.length vc, .int .i64 x] w' fun e w2 => e = .returned (.bool true) ∧ w2 = w' := by
          intro va vc w' h
          refine (cWithinL va vc F x w' h hFl).mono ?_
          rintro e w2 ⟨rfl, rfl⟩
          exact ⟨by rw [decide_eq_true hmem], rfl⟩
        have k0 : (0 : Int) ≤ k := by omega
        have k1 : (k : Int) < L.length := by omega
        have k2 : (0 : Int) < L.length := by omega
        have v1 : IntKind.i64.wrap (on + k) = on + k := wrap_in _ (by have := hln.out; omega) (by have := hln.out; omega)
        have v2 : IntKind.i64.wrap (on + k + 1) = on + k + 1 := wrap_in _ (by have := hln.out; omega) (by have := hln.out; omega)
        have hrd := hbr.drew
        have c0d : wr.drew.cell? ⟨lg, lo, none⟩ = some (.int .i64 x0) := c0
        have ckd : wr.drew.cell? ⟨lg, lo + k, none⟩ = some (.int .i64 x) := ck
        clear hmem CF BI
        generalize sameUp L k = sm at *
        go_wp2_with fail
        go_region_held3 (fun w' => w'.cell? ⟨tb, 0, none⟩ = some (.int .i64 S) ∧ w'.cell? ⟨tb, 1, none⟩ = some (.int .i64 P) ∧ w'.cell? ⟨tb, 2, none⟩ = some (.slice ha hs.length hcp) ∧ w'.cell? ⟨lg, lo + k, none⟩ = some (.int .i64 x)) (go_keep) (first
          | (go_at_call 20; with_reducible refine (CW _ _ _ IF).mono ?_; rintro e w7 ⟨rfl, hw⟩; subst w7)
          | (go_at_call 16; with_reducible refine CK.mono ?_; rintro e w6 ⟨va, vc, rfl, IF, hb6⟩; have b6 := btrans hrd hb6; obtain ⟨⟨y0, y1, y2⟩, -⟩ := blk3 (blk_keep b6 hT4); have d0 := ble hb6 c0d; have dk := ble hb6 ckd))
        clear CK CW IF hbd hrd t0 t1 t2 y0 y1 y2 c0 ck c0d ckd
        by_cases hx : x = x0
        · have hy := hYN.out.1 hx
          subst hx
          clear hYN
          go_wp2_with fail
          go_quiet (fail)
          go_wp2
          go_roundw
          case rel => exact ⟨k + 1, by omega, by go_num, by rw [hy], bdraw b6 _⟩
          case measure => simp [intOf]; omega
        · have hy := hYN.out.2 hx
          clear hYN
          go_wp2_with fail
          go_quiet (fail)
          go_wp2
          go_roundw
          case rel => exact ⟨k + 1, by omega, by go_num, by rw [hy], bdraw b6 _⟩
          case measure => simp [intOf]; omega
      · obtain rfl : k = L.length := by omega
        have hone := HS2.out.one hL0.out
        have hbe := btrans BB hbr
        have CO := CF on off _ hbe
        have hsm : Hid (sameUp L L.length = decide (0 < (freeL S P hs on off).length)) := hide (by unfold sameUp; rw [decide_eq_decide]; exact hone)
        generalize freeL S P hs on off = G at *
        clear CF BI hone
        by_cases hG : 0 < G.length
        · have hs1 : sameUp L L.length = true := by rw [hsm.out]; exact decide_eq_true hG
          have hG2 : (0 : Int) < G.length := by omega
          rw [hs1]
          clear hs1 hsm
          go_wp2_with fail
          refine CO.mono ?_
          rintro e w8 ⟨va, vc, rfl, -, hb8⟩
          go_wp2
          go_ret
          exact ⟨rfl, btrans HW (btrans hbe hb8)⟩
        · have hs1 : sameUp L L.length = false := by rw [hsm.out]; exact decide_eq_false hG
          have hGn := List.length_eq_zero_iff.1 (show G.length = 0 by omega)
          subst hGn
          rw [hs1]
          clear hs1 hsm
          go_wp2_with fail
          refine CO.mono ?_
          rintro e w8 ⟨va, vc, rfl, -, hb8⟩
          go_wp2
          go_ret
          exact ⟨rfl, btrans HW (btrans hbe hb8)⟩

end Go.Proofs.Ytgnlcehpajbnoaa
