/- The walk of FnEnough. -/
import Derived.Test.YteklmeekapegpaaME
namespace Go.Proofs.Yteklmeekapegpaa
open Go.RowKit

set_option maxHeartbeats 800000 in
theorem cWithinL (a : Option Addr) (cap : Nat) (zs : List Int) (x : Int) (w : World) (hz : Ints w a zs) (hl : zs.length ≤ 1048576) :
    Calls Try.prog 17 #[.slice a zs.length cap, .int .i64 x] w fun e w' => e = .returned (.bool (decide (x ∈ zs))) ∧ w' = w := by
  generalize hr : decide (x ∈ zs) = res
  have hr0 : Hid (decide (x ∈ zs.drop 0) = res) := hr
  clear hr
  go_enter Try.func17, Try.ntmps17
  go_wp2
  go_loop [5] (fun i => ∃ k : Nat, k ≤ zs.length ∧ i = .int .i64 k ∧ Hid (decide (x ∈ zs.drop k) = res)) (fun i => zs.length - (intOf i).toNat)
  case atStart => exact ⟨0, Nat.zero_le _, rfl, hr0⟩
  case round =>
    obtain ⟨k, hk, rfl, hres⟩ := hrel
    clear hr0
    by_cases hlt : k < zs.length
    · rcases hz with h | ⟨b, off, rfl, hc⟩
      · simp [h] at hlt
      have q0 := hc k hlt
      have e0 : zs.getD k 0 = zs[k] := by simp [List.getD, hlt]
      rw [e0] at q0
      have hd := hide ((has_drop (x := x) hlt).symm.trans hres.out)
      generalize zs[k] = y at *
      clear hc e0 hres
      by_cases hy : y = x
      · have hf := hide (show res = true by rw [← hd.out]; simp [hy])
        clear hd
        subst hy
        go_wp2
        go_ret
        exact ⟨ret_bool hf.out.symm, rfl⟩
      · have hf := hide (show decide (x ∈ zs.drop (k + 1)) = res by rw [← hd.out]; simp [hy])
        clear hd
        go_wp2
        go_round
        case rel => exact ⟨k + 1, by omega, by go_num, hf⟩
        case measure => simp [intOf]; omega
    · obtain rfl : k = zs.length := by omega
      have hf := hide (show res = false by rw [← hres.out, List.drop_length]; simp)
      clear hz
      go_wp2
      go_ret
      exact ⟨ret_bool hf.out.symm, rfl⟩

theorem list_of {zs : List Int} {ss : List StayV} {g : Int} {ls : List Int} (h : IsList zs ss g ls) (hok : assignOk zs ss g = true) : ls.length = ss.length ∧ IsAssign zs ss g (fun k => ls.getD k 0) := by
  rcases h with ⟨h1, _⟩ | ⟨_, h2⟩
  · rw [hok] at h1; cases h1
  · exact h2
theorem short_none {ss : List StayV} {ls : List Int} {r : Int} (h : ShortAns ss ls r) (h0 : ∀ i, i < ss.length → 0 ≤ ls.getD i 0) : r = -1 := by
  rcases h with ⟨_, h⟩ | ⟨_, ⟨h, _⟩ | ⟨i, hi, _, h, _⟩⟩
  · exact h
  · exact h
  · have := h0 i hi; omega
theorem short_some {ss : List StayV} {ls : List Int} {r : Int} (h : ShortAns ss ls r) (hl : ls.length = ss.length) (h0 : ∃ i, i < ss.length ∧ ls.getD i 0 = -1) : 0 ≤ r := by
  obtain ⟨i, hi, e⟩ := h0
  rcases h with ⟨h, _⟩ | ⟨_, ⟨_, h⟩ | ⟨i', hi', h, _⟩⟩
  · rw [h] at hl; simp at hl; omega
  · have := h i hi; omega
  · omega
theorem mem_getD {ls : List Int} {x : Int} : x ∈ ls ↔ ∃ i, i < ls.length ∧ ls.getD i 0 = x := by
  constructor
  · intro h
    obtain ⟨i, hi, e⟩ := List.mem_iff_getElem.1 h
    exact ⟨i, hi, by simpa [List.getD, hi] using e⟩
  · rintro ⟨i, hi, e⟩
    rw [← e]
    simp [List.getD, hi]
theorem ok_bays {zs : List Int} {ss : List StayV} {g : Int} (h : baysB zs = true) (hS : staysB ss = true) (hG : gapB g = true) : assignOk zs ss g = true := by simp [assignOk, h, hS, hG]
theorem drop_rep (p : Nat) : (List.replicate p (1000 : Int)).drop 1 = List.replicate (p - 1) 1000 := by simp

set_option maxRecDepth 20000 in
set_option maxHeartbeats 6400000 in
theorem walkEnough (a : Option Addr) (cap : Nat) (bs : List Int) (w : World) (hz : Bytes w a bs) (hm : bs.length ≤ maxLen) :
    Calls Try.prog 3 #[.slice a bs.length cap] w fun e w' => e = .returned (.bool true) ∧ Below w.heap.size w w' := by
  obtain ⟨i0, hi, hi0, hi1, hi2⟩ := info_parts infoInts
  go_enter Try.func3, Try.ntmps3
  go_wp2_with fail
  refine (cbig a cap bs.length _ hm).mono ?_
  rintro e w1 ⟨rfl, hw⟩
  subst w1
  by_cases hbig : 1048576 < bs.length
  · have hd : decide (1048576 < bs.length) = true := decide_eq_true hbig
    rw [hd]
    go_wp2
    go_ret
    exact ⟨rfl, Below.refl _ _⟩
  have hd : decide (1048576 < bs.length) = false := decide_eq_false hbig
  rw [hd]
  clear hd
  go_wp2_with fail
  refine (cDrawRight cap a bs _ hz (by omega)).mono ?_
  rintro e w1 hD
  obtain ⟨u, v, zs0, ss, g, rfl, hok, -, O, hb⟩ := hD
  obtain ⟨ua, uc, rfl⟩ : ∃ x y, v = .slice x ss.length y := own_form O
  simp only [assignOk, Bool.and_eq_true] at hok
  obtain ⟨-, hS, hG⟩ := hok
  have hg1 := (inB_true hG).1
  have hF := hide (fine_of hS)
  have h60 := stays_len hS
  have hy : Stays w1 ua ss := Stays.own O
  have hPV := hide (peakV_ok hS hG)
  have hl5 : Hid (∀ i, i < ss.length → lenA ss i ≤ 1000) := hide (fun i h => len_1000 hS h)
  have hOkB := hide (fun zs (h : baysB zs = true) => ok_bays h hS hG)
  replace hS := hide hS
  replace hG := hide hG
  clear O
  have hp0 := hide (peak_zero (ss := ss) hg1 hF.out)
  have hp60 := peakTo_le ss g ss.length ss.length
  go_wp2_with fail
  refine (cPeakI ua uc ss g _ hy (by omega)).mono ?_
  rintro e w2 ⟨rfl, hb2⟩
  rw [hPV.out]
  replace hb := btrans hb hb2
  replace hy := hy.below hb2
  clear hb2
  go_wp2_with fail
  refine (cPeakS ua uc ss g _ hy (by omega)).mono ?_
  rintro e w3 ⟨rfl, hb2⟩
  rw [hPV.out]
  replace hb := btrans hb hb2
  replace hy := hy.below hb2
  clear hb2
  have hEn := hide (fun (A : Nat → Int) (zs : List Int) h1 h2 h3 => enough (ss := ss) (g := g) (A := A) (zs := zs) hg1 hF.out h1 h2 h3)
  have hFew := hide (fun (A : Nat → Int) (zs : List Int) h1 h2 => too_few (ss := ss) (g := g) (A := A) (zs := zs) h1 h2)
  generalize peakTo ss g ss.length ss.length = p at *
  have C5 := fun V (hV : Stays V ua ss) => cAssignI (some ⟨V.heap.size, 0, none⟩) 1 [5] ua uc ss g (V.alloc (.cells #[.int .i64 5] 3)) (.inr ⟨V.heap.size, 0, rfl, fun i h => by
    obtain rfl : i = 0 := by simp at h; omega
    simp [List.getD]⟩) (by simp) (hV.below (balloc V _)) (by omega)
  have hL5 : Hid (∀ ls, IsList [5] ss g ls → ls.length = ss.length) := hide (fun ls h => (list_of h (hOkB.out _ (by decide))).1)
  have hO0 := fun V : World => World.ownsRow_made (base := V.heap.size) (e := 3) (size := 1) V #[] 0 (Nat.le_refl _) (by unfold maxLen; omega) rfl
  have hq : ((p : Int) == 0) = ((ss.length : Int) == 0) := by
    rw [Bool.eq_iff_iff]; simp only [beq_iff_eq]; have := hp0.out; omega
  have hO1 := hO0 w3
  have hb1 := btrans hb (balloc w3 (.cells #[] 3))
  have hy1 := hy.below (balloc w3 (.cells #[] 3))
  clear hO0
  by_cases hn : p = 0
  · have hn1 : ((p : Int) == 0) = true := by simp [hn]
    have hn2 : ((ss.length : Int) == 0) = true := by rw [← hq]; exact hn1
    have hn3 : ¬ ((0 : Int) < (p : Int)) := by omega
    clear hq
    replace hn := hide hn
    go_wp2
    go_loopw [7, 8] (fun v i wr => v = .slice (some ⟨w3.heap.size, 0, none⟩) 0 0 ∧ i = .int .i64 0 ∧ Stays wr ua ss ∧ Below w.heap.size w wr) (fun _ _ _ => 0)
    case atStart => exact ⟨rfl, rfl, hy1, hb1⟩
    case round =>
      obtain ⟨rfl, rfl, hyr, hbr⟩ := hrel
      have C6 := C5 wr hyr
      clear C5 hy hb hy1 hb1 hO1
      go_wp2_with fail
      refine C6.mono ?_
      rintro e w4 ⟨ls, hL, ⟨v, rfl, ho⟩, hb2⟩
      obtain ⟨va, vc, rfl⟩ := own_form ho
      have hll := hide (hL5.out ls hL)
      have hle : ((ls.length : Int) == (ss.length : Int)) = true := by rw [hll.out]; simp
      have hb3 := btrans (btrans hbr (balloc _ (.cells #[.int .i64 5] 3))) hb2
      clear hL ho C6
      go_wp2
      go_ret
      exact ⟨rfl, hb3⟩
  · have hn1 : ((p : Int) == 0) = false := by simp; omega
    have hn2 : ((ss.length : Int) == 0) = false := by rw [← hq]; exact hn1
    have hp1 : 1 ≤ p := by omega
    have hp60' : p ≤ 60 := by omega
    clear hq
    go_wp2
    go_loopw [7, 8] (fun v i wr => ∃ k : Nat, k ≤ p ∧ k ≤ 12 ∧ i = .int .i64 k ∧ wr.ownsRow w3.heap.size 3 1 v (List.replicate k (1000 : Int)).length ((List.replicate k (1000 : Int)).map (Value.int .i64)) ∧ Below w3.heap.size w3 wr) (fun _ i _ => 12 - (intOf i).toNat)
    case atStart => exact ⟨0, Nat.zero_le _, Nat.zero_le _, rfl, by simpa using hO1, balloc w3 _⟩
    case round =>
      obtain ⟨k, hk, hk12, rfl, ho, hbr⟩ := hrel
      clear hO1 hb1 hy1
      obtain ⟨va, vc, rfl⟩ := own_form ho
      by_cases hlt : k < p ∧ k < 12
      · have hlt1 : (k : Int) < (p : Int) := by omega
        have hlt2 : (k : Int) < 12 := by omega
        have ho2 := own_keep ho (balloc wr (.cells #[.int .i64 1000] 3))
        have hb2 := btrans hbr (balloc wr (.cells #[.int .i64 1000] 3))
        have hrl : (List.replicate k (1000 : Int)).length ≤ 60 := by simp; omega
        have hrs : Hid (List.replicate (k + 1) (1000 : Int) = List.replicate k (1000 : Int) ++ [1000]) := hide (List.replicate_succ' ..)
        generalize List.replicate k (1000 : Int) = R at *
        go_wp2_with (at_builtin; refine wpList_append_own _ rfl _ _ 24 rfl w3.heap.size 3 i0 _ 1 8 Try.underlying24 hi hi0 hi1 hi2 rfl (by decide) _ _ _ rfl ho2 ⟨wr.heap.size, 0, none⟩ 1 1 [.int .i64 1000] rfl rfl ?c1 ?c2 ?c3 ?c4 ?c5 ?_)
        case c1 => exact World.news_of_block (heap_alloc_new wr _)
        case c2 => simp [Value.oneCell']
        case c3 => unfold maxLen; omega
        case c4 => omega
        case c5 => have := hbr.size; simp; omega
        intro v2 w5 hown hgrow _
        have hb5 := hb2.grown hgrow hb2.size (own_from ho (Nat.le_refl _))
        have hown2 : w5.ownsRow w3.heap.size 3 1 v2 (List.replicate (k + 1) (1000 : Int)).length ((List.replicate (k + 1) (1000 : Int)).map (Value.int .i64)) := by
          rw [hrs.out]; simpa using hown
        clear hgrow hown ho2 hb2 ho
        go_wp2
        go_roundw
        case rel => exact ⟨k + 1, by omega, by omega, by go_num, hown2, hb5⟩
        case measure => simp [intOf]; omega
      · have hyr := hy.below hbr
        have hbw := btrans hb hbr
        by_cases hp12 : 12 < p
        · obtain rfl : k = 12 := by omega
          have hp12' : (12 : Int) < (p : Int) := by omega
          have hlt1 : ((12 : Nat) : Int) < (p : Int) := by omega
          have C6 := C5 wr hyr
          clear C5 hy hb ho hbr
          go_wp2_with fail
          refine C6.mono ?_
          rintro e w4 ⟨ls, hL, ⟨v, rfl, ho⟩, hb2⟩
          obtain ⟨va2, vc2, rfl⟩ := own_form ho
          have hll := hide (hL5.out ls hL)
          have hle : ((ls.length : Int) == (ss.length : Int)) = true := by rw [hll.out]; simp
          have hb3 := btrans (btrans hbw (balloc _ (.cells #[.int .i64 5] 3))) hb2
          clear hL ho C6
          go_wp2
          go_ret
          exact ⟨rfl, hb3⟩
        · obtain rfl : k = p := by omega
          have hp12' : ¬ ((12 : Int) < (k : Int)) := by omega
          have hlt1 : ¬ ((k : Int) < (k : Int)) := by omega
          clear C5 hL5
          have hk12' : k ≤ 12 := by omega
          have hOk1 := hide (hOkB.out _ (bays_rep hp1 hk12'))
          have hIn : Ints wr va (List.replicate k (1000 : Int)) := Ints.own ho rfl
          have hAll : Hid (∀ ls, IsList (List.replicate k (1000 : Int)) ss g ls → ls.length = ss.length ∧ (∀ i, i < ss.length → 0 ≤ ls.getD i 0) ∧ AOk (List.replicate k (1000 : Int)) ss g ls) := hide (fun ls h => by
            obtain ⟨h1, h2⟩ := list_of h hOk1.out
            refine ⟨h1, hEn.out _ _ (by simp) (fun i hi b hb => ?_) h2, IsAssign.ok hOk1.out h1 h2⟩
            rw [List.length_replicate] at hb
            rw [rep_get hb]; exact hl5.out i hi)
          have hNone : Hid (2 ≤ k → ∀ ls, IsList (List.replicate (k - 1) (1000 : Int)) ss g ls → ls.length = ss.length ∧ ∃ i, i < ss.length ∧ ls.getD i 0 = -1) := hide (fun h2 ls h => by
            obtain ⟨h3, h4⟩ := list_of h (hOkB.out _ (bays_rep (by omega) (by omega)))
            exact ⟨h3, hFew.out _ _ (by simp; omega) h4⟩)
          have CA := fun V (h : Below wr.heap.size wr V) => cAssignI va vc (List.replicate k (1000 : Int)) ua uc ss g V (hIn.below h) (by simp; omega) (hyr.below h) (by omega)
          have CK := fun V (h : Below wr.heap.size wr V) (l : Option Addr) (c : Nat) (ls : List Int) (hx : Ints V l ls) => cAssignOkI va vc (List.replicate k (1000 : Int)) ua uc ss g l c ls V (hIn.below h) (by simp; omega) (hyr.below h) (by omega) hx
          have CS := fun V (h : Below wr.heap.size wr V) => cShortI va vc (List.replicate k (1000 : Int)) ua uc ss g V (hIn.below h) (by simp; omega) (hyr.below h) (by omega)
          simp only [List.length_replicate] at CA CK CS ho ⊢
          clear hEn hFew hOkB hl5 hp0
          go_wp2_with fail
          refine (CA _ (Below.refl _ _)).mono ?_
          rintro e w4 ⟨ls, hL, ⟨v, rfl, hol⟩, hb2⟩
          obtain ⟨la, lc, rfl⟩ := own_form hol
          obtain ⟨hll, hpos, hAk⟩ := hAll.out ls hL
          have hle : ((ls.length : Int) != (ss.length : Int)) = false := by simp [hll]
          have hlsm : ls.length ≤ 1048576 := by omega
          have hLi : Ints w4 la ls := Ints.own hol rfl
          have hno : decide ((-1 : Int) ∈ ls) = false := decide_eq_false (fun h => by
            obtain ⟨i, hi, e⟩ := mem_getD.1 h
            have := hpos i (by omega)
            omega)
          replace hll := hide hll
          replace hpos := hide hpos
          replace hAk := hide hAk
          replace hL := hide hL
          have CW := cWithinL la lc ls (-1) w4 hLi hlsm
          rw [hno] at CW
          clear hno
          go_wp2_with fail
          refine CW.mono ?_
          rintro e w5 ⟨rfl, hw⟩
          subst w5
          go_wp2_with fail
          refine (CK _ hb2 la lc ls hLi).mono ?_
          rintro e w5 ⟨⟨r, rfl, hr⟩, hb3⟩
          have hrt := hr.2 hAk.out
          subst hrt
          replace hb2 := btrans hb2 hb3
          clear hr hb3 CW CK hLi hol
          go_wp2_with fail
          refine (CS _ hb2).mono ?_
          rintro e w6 ⟨⟨ls2, r, hL2, hR2, rfl⟩, hb3⟩
          have hrm : r = -1 := by
            obtain rfl := IsList.unique hL2 hL.out
            exact short_none hR2 hpos.out
          subst hrm
          replace hb2 := btrans hb2 hb3
          clear hb3 hL2 hR2 CS CA
          by_cases hk1 : k = 1
          · have hk1' : ((k : Int) == 1) = true := by simp [hk1]
            have hbF := btrans hbw hb2
            replace hk1 := hide hk1
            go_wp2
            go_ret
            exact ⟨rfl, hbF⟩
          · have hk1' : ((k : Int) == 1) = false := by simp; omega
            have hk2 : 2 ≤ k := by omega
            obtain ⟨gv, hgv, hkc, hvm⟩ : ∃ gv, va = some ⟨gv, 0, none⟩ ∧ k ≤ vc ∧ vc ≤ maxLen := by
              rcases ho.2 with ⟨_, h0⟩ | ⟨gv, cap', cur, hv, _, _, h1, h2, _⟩
              · omega
              · simp only [Value.slice.injEq] at hv
                exact ⟨gv, hv.1, by rw [hv.2.2]; exact h1, by rw [hv.2.2]; exact h2⟩
            subst hgv
            unfold maxLen at hvm
            have hIn2 : Ints wr (some ⟨gv, 1, none⟩) (List.replicate (k - 1) (1000 : Int)) := by
              rcases Ints.part hIn 1 with h | ⟨b, off, h1, h2⟩
              · simp at h; omega
              · simp only [Option.some.injEq, Addr.mk.injEq] at h1
                obtain ⟨rfl, rfl, _⟩ := h1
                rw [drop_rep] at h2; exact h2
            have CA := fun V (h : Below wr.heap.size wr V) => cAssignI (some ⟨gv, 1, none⟩) (vc - 1) (List.replicate (k - 1) (1000 : Int)) ua uc ss g V (hIn2.below h) (by simp; omega) (hyr.below h) (by omega)
            have CS := fun V (h : Below wr.heap.size wr V) => cShortI (some ⟨gv, 1, none⟩) (vc - 1) (List.replicate (k - 1) (1000 : Int)) ua uc ss g V (hIn2.below h) (by simp; omega) (hyr.below h) (by omega)
            simp only [List.length_replicate] at CA CS
            have g1 : (0 : Int) ≤ 1 := by omega
            have g2 : (1 : Int) ≤ (k : Int) := by omega
            have g3 : (k : Int) ≤ (vc : Int) := by omega
            have g4 : vc ≠ 1 := by omega
            clear ho hIn hIn2
            go_wp2_with fail
            refine (CA _ hb2).mono ?_
            rintro e w7 ⟨ls3, hL3, ⟨v, rfl, hol⟩, hb3⟩
            obtain ⟨la3, lc3, rfl⟩ := own_form hol
            obtain ⟨hl3, hsome⟩ := hNone.out hk2 ls3 hL3
            have hlsm3 : ls3.length ≤ 1048576 := by omega
            have hyes : decide ((-1 : Int) ∈ ls3) = true := decide_eq_true (mem_getD.2 (by
              obtain ⟨i, hi, e⟩ := hsome
              exact ⟨i, by omega, e⟩))
            have CW := cWithinL la3 lc3 ls3 (-1) w7 (Ints.own hol rfl) hlsm3
            rw [hyes] at CW
            replace hl3 := hide hl3
            replace hsome := hide hsome
            replace hL3 := hide hL3
            replace hb2 := btrans hb2 hb3
            clear hb3 hyes hol CA
            go_wp2_with fail
            refine CW.mono ?_
            rintro e w8 ⟨rfl, hw⟩
            subst w8
            go_wp2_with fail
            refine (CS _ hb2).mono ?_
            rintro e w8 ⟨⟨ls4, r, hL4, hR4, rfl⟩, hb3⟩
            have hr0 : (0 : Int) ≤ r := by
              obtain rfl := IsList.unique hL4 hL3.out
              exact short_some hR4 hl3.out hsome.out
            have hbG := btrans hbw (btrans hb2 hb3)
            clear hL4 hR4 CS CW
            go_wp2
            go_ret
            exact ⟨rfl, hbG⟩
end Go.Proofs.Yteklmeekapegpaa
