/- The model's SinglesOk. -/
import Derived.Test.YtggdejceobagcaaE
namespace Go.Proofs.Ytggdejceobagcaa
open Go.RowKit

set_option maxHeartbeats 400000 in
theorem cSinglesS (a b : Option Addr) (ca cb : Nat) (ls : List Int) (ts : List SingleV) (w : World) (hz : Ints w a ls) (hl : ls.length ≤ 1048576) (ht : Singles w b ts) (hm : ts.length ≤ 1048576) :
    Calls Try.prog 24 #[.slice a ls.length ca, .slice b ts.length cb] w fun e w' => e = .returned (.bool (singlesOk ls ts)) ∧ Below w.heap.size w w' := by
  cases h1 : lineOk ls
  · have hf := hide (show singlesOk ls ts = false by simp [singlesOk, h1])
    go_enter Try.func24, Try.ntmps24
    go_wp2_with fail
    refine (cLineS a ca ls _ hz hl).mono ?_
    rintro e w1 ⟨rfl, hw⟩
    subst w1
    rw [h1]
    clear h1
    go_wp2
    go_ret
    exact ⟨ret_bool hf.out.symm, Below.refl _ _⟩
  by_cases h2 : 4 < ts.length
  · have hf := hide (show singlesOk ls ts = false by simp only [singlesOk]; rw [show decide (ts.length ≤ 4) = false by simp; omega]; simp)
    have h2' : (4 : Int) < (ts.length : Int) := by omega
    go_enter Try.func24, Try.ntmps24
    go_wp2_with fail
    refine (cLineS a ca ls _ hz hl).mono ?_
    rintro e w1 ⟨rfl, hw⟩
    subst w1
    rw [h1]
    clear h1
    go_wp2
    go_ret
    exact ⟨ret_bool hf.out.symm, Below.refl _ _⟩
  have h2' : ¬ ((4 : Int) < (ts.length : Int)) := by omega
  obtain ⟨hl1, hl2, hl3⟩ := lineOk_parts h1
  have hf := hide (show singlesOk ls ts = ts.all (trainOk ls ts) by simp only [singlesOk, h1, Bool.true_and]; rw [decide_eq_true (by omega), Bool.true_and])
  generalize singlesOk ls ts = res at *
  have hr0 : Hid ((ts.drop 0).all (trainOk ls ts) = res) := hf.out.symm
  clear hf
  go_enter Try.func24, Try.ntmps24
  go_wp2_with fail
  refine (cLineS a ca ls _ hz hl).mono ?_
  rintro e w1 ⟨rfl, hw⟩
  subst w1
  rw [h1]
  clear h1 hl1
  go_wp2
  go_loopw [6] (fun i wr => ∃ k : Nat, k ≤ ts.length ∧ i = .int .i64 k ∧ Hid ((ts.drop k).all (trainOk ls ts) = res) ∧ Below w.heap.size w wr) (fun i _ => ts.length - (intOf i).toNat)
  case atStart => exact ⟨0, Nat.zero_le _, rfl, hr0, Below.refl _ _⟩
  case round =>
    obtain ⟨k, hk, rfl, hres, hb⟩ := hrel
    clear hr0
    by_cases hlt : k < ts.length
    · have CA := fun x w' (h : Below w.heap.size w w') => cAtS b cb ts x w' (ht.below h) hm
      have CF := fun x w' (h : Below w.heap.size w w') h0 h1 => cFitsS a ca ls x w' (hz.below h) hl h0 h1
      rcases ht with h | ⟨nb, off, rfl, hcl⟩
      · simp [h] at hlt
      obtain ⟨q0, q1⟩ := hcl k hlt
      replace q0 := ble hb q0
      replace q1 := ble hb q1
      rw [getD_lt hlt] at q0 q1
      have hd := hide ((all_drop (P := trainOk ls ts) hlt).symm.trans hres.out)
      generalize ts[k] = E at *
      obtain ⟨s, d⟩ := E
      dsimp only at *
      have E1 : Hid (trainOk ls ts ⟨s, d⟩ = (inB s 0 (2 * (ls.length : Int) - 2) && inB d 0 (2 * (ls.length : Int) - 2) && decide (d.tmod 2 = 0) && decide ((atN ts s : Int) ≤ fits ls s))) := rfl
      have CI := fun x w' => cIn x 0 (2 * (ls.length : Int) - 2) w'
      have hb1 := btrans hb (balloc wr (.cells #[.int .i64 s, .int .i64 d] 31))
      clear hcl hres
      cases g1 : inB s 0 (2 * (ls.length : Int) - 2)
      · have hr := hide (show res = false by rw [← hd.out, E1.out, g1]; rfl)
        have C1 := CI s
        rw [g1] at C1
        clear g1 hd E1 CA CF
        go_wp2
        go_quiet (first | (go_at_call 52; with_reducible refine Calls.quiet_of_same (C1 _)))
        go_wp2
        go_ret
        exact ⟨ret_bool hr.out.symm, bdraw hb1 _⟩
      have C1 := CI s
      rw [g1] at C1
      cases g2 : inB d 0 (2 * (ls.length : Int) - 2)
      · have hr := hide (show res = false by rw [← hd.out, E1.out, g1, g2]; rfl)
        have C2 := CI d
        rw [g2] at C2
        clear g1 g2 hd E1 CA CF
        go_wp2
        go_quiet (first | (go_at_call 52; with_reducible refine Calls.quiet_of_same (C1 _)) | (go_at_call 52; with_reducible refine Calls.quiet_of_same (C2 _)))
        go_wp2
        go_ret
        exact ⟨ret_bool hr.out.symm, bdraw hb1 _⟩
      have C2 := CI d
      rw [g2] at C2
      obtain ⟨s0, s1⟩ := inB_true g1
      obtain ⟨d0, d1⟩ := inB_true g2
      have e3 : d.tmod 2 = d % 2 := Int.tmod_eq_emod_of_nonneg d0
      by_cases g3 : d % 2 = 0
      rotate_left
      · have hr := hide (show res = false by rw [← hd.out, E1.out, g1, g2, e3]; simp [g3])
        have hg : d.tmod 2 = 1 := by rw [e3]; omega
        clear g1 g2 g3 hd E1 CA CF e3
        go_wp2
        go_quiet (first | (go_at_call 52; with_reducible refine Calls.quiet_of_same (C1 _)) | (go_at_call 52; with_reducible refine Calls.quiet_of_same (C2 _)))
        go_wp2
        go_ret
        exact ⟨ret_bool hr.out.symm, bdraw hb1 _⟩
      have hE := hide (show trainOk ls ts ⟨s, d⟩ = decide ((atN ts s : Int) ≤ fits ls s) by rw [E1.out, g1, g2, e3]; simp [g3])
      replace CA := CA s
      replace CF := CF s
      generalize ((atN ts s : Nat) : Int) = C at *
      generalize fits ls s = F at *
      have hg : d.tmod 2 = 0 := by rw [e3]; omega
      clear g1 g2 g3 E1 e3
      go_wp2
      go_quiet (first | (go_at_call 52; with_reducible refine Calls.quiet_of_same (C1 _)) | (go_at_call 52; with_reducible refine Calls.quiet_of_same (C2 _)) | (go_at_call 54; refine Calls.quiet_of_same (CA _ (bdraw hb1 _))) | (go_at_call 55; refine Calls.quiet_of_same (CF _ (bdraw hb1 _) s0 s1)))
      by_cases hq : F < C
      · have hr := hide (show res = false by rw [← hd.out, hE.out]; simp; omega)
        clear hd hE
        go_wp2
        go_ret
        exact ⟨ret_bool hr.out.symm, bdraw hb1 _⟩
      · have hr := hide (show (ts.drop (k + 1)).all (trainOk ls ts) = res by rw [← hd.out, hE.out, decide_eq_true (by omega)]; rfl)
        clear hd hE
        go_wp2
        go_roundw
        case rel => exact ⟨k + 1, by omega, by go_num, hr, bdraw hb1 _⟩
        case measure => simp [intOf]; omega
    · obtain rfl : k = ts.length := by omega
      have hr := hide (show res = true by rw [← hres.out, List.drop_length]; rfl)
      clear ht
      go_wp2
      go_ret
      exact ⟨ret_bool hr.out.symm, hb⟩
end Go.Proofs.Ytggdejceobagcaa
