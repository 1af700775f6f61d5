/- ReadTime: the program's text. -/
import Derived.Test.YthlmaljgnhakfaaDoorRT2
namespace Go.Proofs.YthlmaljgnhakfaaDoor
open Go.RowKit

set_option maxHeartbeats 1600000 in
theorem cRTimeI (l : List UInt8) (w : World) (ht : Tab w) (he : Errs w) (hl : l.length ≤ 1048576) : Calls Tryd.prog 48 #[S l] w fun e w' => e = .returned (.int .i64 (readB l)) ∧ Below w.heap.size w w' := by
  obtain ⟨hc1, hc2⟩ := cut_len l hl
  go_enter Tryd.func48, Tryd.ntmps48
  go_wp2_with (go_at_call 63; refine (cCut l _ hl).mono ?_; rintro e w' ⟨rfl, q, rfl⟩)
  have HB0 : Below w.heap.size w (w.drewN q) := Go.Joins.below_draws _ _ _
  refine (cAtoi (cutL l).1 _ (he.below HB0) hc1).mono ?_
  rintro e w2 ⟨hcase, hb2⟩
  have HB2 := btrans HB0 hb2
  clear hb2 HB0
  rcases hcase with ⟨h, hok, rfl⟩ | ⟨hno, v, N, rfl⟩
  · have K1 := hide hok
    have K0 := hide (cut_ne l h hok)
    clear hok
    by_cases hr : 0 ≤ h ∧ h ≤ 1666
    · obtain ⟨hr0, hr1⟩ := hr
      go_wp2_with fail
      refine (cAtoi (cutL l).2.1 _ (he.below HB2) hc2).mono ?_
      rintro e w3 ⟨hcase, hb3⟩
      have HB3 := btrans HB2 hb3
      clear hb3 HB2
      rcases hcase with ⟨m, hok, rfl⟩ | ⟨hno, v, N, rfl⟩
      · have K2 := hide hok
        clear hok
        by_cases hm : 0 ≤ m ∧ m < 60
        · obtain ⟨hm0, hm1⟩ := hm
          go_wp2_with fail
          refine (cTimeI _ _ (ht.below HB3)).mono ?_
          rintro e w4 ⟨rfl, hb4⟩
          have HB4 := btrans HB3 hb4
          clear hb4 HB3
          cases hs : tt (h * 60 + m) == l
          · have R := hide (no_same l h m K1.out K2.out (by simpa using hs))
            go_wp2
            go_ret
            exact ⟨ret_int R.out.symm, HB4⟩
          · have R := hide (readB_yes l _ K0.out (by simpa using hs))
            go_wp2
            go_ret
            exact ⟨ret_int R.out.symm, HB4⟩
        · have R := hide (no_minutes l fun v e => by rw [K2.out] at e; cases e; exact hm)
          by_cases hm0 : m < 0
          · clear hm
            go_wp2
            go_ret
            exact ⟨ret_int R.out.symm, HB3⟩
          · have hm1 : 60 ≤ m := by omega
            clear hm
            go_wp2
            go_ret
            exact ⟨ret_int R.out.symm, HB3⟩
      · have R := hide (no_minutes l fun v e => absurd e (hno v))
        clear hno
        go_wp2
        go_ret
        exact ⟨ret_int R.out.symm, HB3⟩
    · have R := hide (no_hours l fun v e => by rw [K1.out] at e; cases e; exact hr)
      by_cases hr0 : h < 0
      · clear hr
        go_wp2
        go_ret
        exact ⟨ret_int R.out.symm, HB2⟩
      · have hr1 : 1666 < h := by omega
        clear hr
        go_wp2
        go_ret
        exact ⟨ret_int R.out.symm, HB2⟩
  · have R := hide (no_hours l fun v e => absurd e (hno v))
    clear hno
    go_wp2
    go_ret
    exact ⟨ret_int R.out.symm, HB2⟩

theorem decH_bd (l : List UInt8) (h : l.length ≤ 4) : -1000000 ≤ decH l ∧ decH l ≤ 1000000 := by
  have hb : ∀ b : UInt8, b.toNat < 256 := fun b => b.toNat_lt
  match l, h with
  | [], _ => simp [decH]
  | [a], _ => have := hb a; simp only [decH, List.foldl]; omega
  | [a, b], _ => have := hb a; have := hb b; simp only [decH, List.foldl]; omega
  | [a, b, c], _ => have := hb a; have := hb b; have := hb c; simp only [decH, List.foldl]; omega
  | [a, b, c, d], _ => have := hb a; have := hb b; have := hb c; have := hb d; simp only [decH, List.foldl]; omega

theorem decH_snoc (l : List UInt8) (k : Nat) (h : k < l.length) : decH (l.take (k + 1)) = decH (l.take k) * 10 + (l[k].toNat : Int) - 48 := by
  rw [List.take_succ_eq_append_getElem h]
  simp only [decH, List.foldl_append, List.foldl]

theorem wrap_is (n : Int) : IntKind.i64.wrap n = wrap64 n := by simp [IntKind.wrap, wrap64, IntKind.bits, IntKind.signed]; split <;> omega
theorem fin_val (D : Int) (a b : UInt8) (M : Int) (h0 : -1000000 ≤ D) (h1 : D ≤ 1000000) (hM : D * 60 + ((a.toNat : Int) - 48) * 10 + (b.toNat : Int) - 48 = M) :
    wrap64 (wrap64 (wrap64 (D * 60 + wrap64 (wrap64 (wrap64 (a.toNat : Int) - 48) * 10)) + wrap64 (b.toNat : Int)) - 48) = M := by
  have ha : a.toNat < 256 := UInt8.toNat_lt _
  have hb : b.toNat < 256 := UInt8.toNat_lt _
  rw [IntWalk.wrap64_in (a.toNat : Int) (by omega), IntWalk.wrap64_in (b.toNat : Int) (by omega), IntWalk.wrap64_in ((a.toNat : Int) - 48) (by omega), IntWalk.wrap64_in (((a.toNat : Int) - 48) * 10) (by omega), IntWalk.wrap64_in (D * 60 + _) (by omega), IntWalk.wrap64_in (_ + (b.toNat : Int)) (by omega), IntWalk.wrap64_in _ (by omega)]
  exact hM
theorem step_val (d : Int) (b : UInt8) (h0 : -1000000 ≤ d) (h1 : d ≤ 1000000) : wrap64 (wrap64 (d * 10 + wrap64 (b.toNat : Int)) - 48) = d * 10 + (b.toNat : Int) - 48 := by
  have hb : b.toNat < 256 := UInt8.toNat_lt _
  rw [IntWalk.wrap64_in (b.toNat : Int) (by omega), IntWalk.wrap64_in (d * 10 + (b.toNat : Int)) (by omega), IntWalk.wrap64_in _ (by omega)]

set_option maxHeartbeats 1600000 in
theorem cRTimeS (l : List UInt8) (w : World) (hl : l.length ≤ 1048576) : Calls Tryd.prog 32 #[S l] w fun e w' => e = .returned (.int .i64 (readB l)) ∧ Below w.heap.size w w' := by
  have hsz : (⟨l.toArray⟩ : ByteArray).size = l.length := by simp [ByteArray.size]
  by_cases hr : 5 ≤ l.length ∧ l.length ≤ 7
  · have hin : inB (l.length : Int) 5 7 = true := by simp [inB]; omega
    obtain ⟨hr0, hr1⟩ := hr
    go_enter Tryd.func32, Tryd.ntmps32
    go_wp2_with (go_at_call 53; refine (cIn _ _ _ _).mono ?_; rintro e w' ⟨rfl, rfl⟩)
    go_loop [3, 4] (fun m i => ∃ k : Nat, k ≤ l.length - 3 ∧ i = .int .i64 k ∧ m = .int .i64 (decH (l.take k))) (fun _ i => l.length - 3 - (intOf i).toNat)
    case atStart => exact ⟨0, Nat.zero_le _, rfl, rfl⟩
    case round =>
      obtain ⟨k, hk, rfl, rfl⟩ := hrel
      obtain ⟨d0, d1⟩ := decH_bd (l.take k) (by simp; omega)
      by_cases hlt : k < l.length - 3
      · have HS := hide (decH_snoc l k (by omega))
        have hb1 : (l[k]'(by omega)).toNat < 256 := UInt8.toNat_lt _
        have hkl : k < l.length := by omega
        have hcond : ((k : Int) < (l.length : Int) - 3) := by omega
        go_wp2
        go_roundw
        case rel => exact ⟨k + 1, by omega, by go_num, by rw [HS.out]; exact congrArg (Value.int .i64) (step_val _ _ d0 d1)⟩
        case measure => simp [intOf]; omega
      · obtain rfl : k = l.length - 3 := by omega
        clear hlt hk
        have hcond : ¬ (((l.length - 3 : Nat) : Int) < (l.length : Int) - 3) := by omega
        generalize hd : decH (l.take (l.length - 3)) = D at *
        have HD := hide hd
        clear hd
        have hw2 : IntKind.i64.wrap ((l.length : Int) - 2) = ((l.length - 2 : Nat) : Int) := by rw [wrap_is, IntWalk.wrap64_in _ (by omega)]; omega
        have hw1 : IntKind.i64.wrap ((l.length : Int) - 1) = ((l.length - 1 : Nat) : Int) := by rw [wrap_is, IntWalk.wrap64_in _ (by omega)]; omega
        have hb2 : l.length - 2 < l.length := by omega
        have hb1 : l.length - 1 < l.length := by omega
        go_wp2
        go_quiet (fail)
        go_wp2_with fail
        rw [fin_val (M := decI l) (h0 := d0) (h1 := d1)]
        rotate_left
        · unfold decI
          rw [HD.out]
          have g2 : l.getD (l.length - 2) 0 = l[l.length - 2] := by simp [List.getD, hb2]
          have g1 : l.getD (l.length - 1) 0 = l[l.length - 1] := by simp [List.getD, hb1]
          rw [g2, g1]
          rfl
        have HBq : Below w'.heap.size w' (w'.drewN nq) := Go.Joins.below_draws _ _ _
        refine (cTimeS _ _).mono ?_
        rintro e w2 ⟨rfl, hb2⟩
        have HB := btrans HBq hb2
        cases hs : tt (decI l) == l
        · have R := hide (show readB l = -1 by unfold readB; rw [if_neg (fun h => by rw [h.2] at hs; simp at hs)])
          go_wp2
          go_ret
          exact ⟨ret_int R.out.symm, HB⟩
        · have R := hide (show readB l = decI l by unfold readB; rw [if_pos ⟨⟨hr0, hr1⟩, by simpa using hs⟩])
          go_wp2
          go_ret
          exact ⟨ret_int R.out.symm, HB⟩
  · have hin : inB (l.length : Int) 5 7 = false := by simp [inB]; omega
    have R := hide (show readB l = -1 by unfold readB; rw [if_neg (fun h => hr h.1)])
    clear hr
    go_enter Tryd.func32, Tryd.ntmps32
    go_wp2_with (go_at_call 53; refine (cIn _ _ _ _).mono ?_; rintro e w' ⟨rfl, rfl⟩)
    go_ret
    exact ⟨ret_int R.out.symm, Below.refl _ _⟩

end Go.Proofs.YthlmaljgnhakfaaDoor
