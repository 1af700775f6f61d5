/- ReadTime: the program's text. -/
import Derived.Test.YthlmaljgnhakfaaGreatDoorRT2
namespace Go.Proofs.YthlmaljgnhakfaaGreatDoor
open Go.RowKit

set_option maxHeartbeats 1600000 in
theorem cRTimeI (l : List UInt8) (w : World) (ht : Tab w) (he : Errs w) (hl : l.length ≤ 1048576) : Calls Tryz.prog 37 #[S l] w fun e w' => e = .returned (.int .i64 (readB l)) ∧ Below w.heap.size w w' := by
  obtain ⟨hc1, hc2⟩ := cut_len l hl
  go_enter Tryz.func37, Tryz.ntmps37
  go_wp2_with (go_at_call 51; refine (cCut l _ hl).mono ?_; rintro e w' ⟨rfl, q, rfl⟩)
  have HB0 : Below w.heap.size w (w.drewN q) := Go.Joins.below_draws _ _ _
  refine (cAtoi (cutL l).1 _ (he.below HB0) hc1).mono ?_
  rintro e w2 ⟨hcase, hb2⟩
  have HB2 := btrans HB0 hb2
  clear hb2 HB0
  rcases hcase with ⟨h, hok, rfl⟩ | ⟨hno, v, N, rfl⟩
  · have K1 := hide hok
    have K0 := hide (cut_ne l h hok)
    clear hok
    by_cases hr : 0 ≤ h ∧ h ≤ 1666
    · obtain ⟨hr0, hr1⟩ := hr
      go_wp2_with fail
      refine (cAtoi (cutL l).2.1 _ (he.below HB2) hc2).mono ?_
      rintro e w3 ⟨hcase, hb3⟩
      have HB3 := btrans HB2 hb3
      clear hb3 HB2
      rcases hcase with ⟨m, hok, rfl⟩ | ⟨hno, v, N, rfl⟩
      · have K2 := hide hok
        clear hok
        by_cases hm : 0 ≤ m ∧ m < 60
        · obtain ⟨hm0, hm1⟩ := hm
          go_wp2_with fail
          refine (cTimeI _ _ (ht.below HB3)).mono ?_
          rintro e w4 ⟨rfl, hb4⟩
          have HB4 := btrans HB3 hb4
          clear hb4 HB3
          cases hs : tt (h * 60 + m) == l
          · have R := hide (no_same l h m K1.out K2.out (by simpa using hs))
            go_wp2
            go_ret
            exact ⟨ret_int R.out.symm, HB4⟩
          · have R := hide (readB_yes l _ K0.out (by simpa using hs))
            go_wp2
            go_ret
            exact ⟨ret_int R.out.symm, HB4⟩
        · have R := hide (no_minutes l fun v e => by rw [K2.out] at e; cases e; exact hm)
          by_cases hm0 : m < 0
          · clear hm
            go_wp2
            go_ret
            exact ⟨ret_int R.out.symm, HB3⟩
          · have hm1 : 60 ≤ m := by omega
            clear hm
            go_wp2
            go_ret
            exact ⟨ret_int R.out.symm, HB3⟩
      · have R := hide (no_minutes l fun v e => absurd e (hno v))
        clear hno
        go_wp2
        go_ret
        exact ⟨ret_int R.out.symm, HB3⟩
    · have R := hide (no_hours l fun v e => by rw [K1.out] at e; cases e; exact hr)
      by_cases hr0 : h < 0
      · clear hr
        go_wp2
        go_ret
        exact ⟨ret_int R.out.symm, HB2⟩
      · have hr1 : 1666 < h := by omega
        clear hr
        go_wp2
        go_ret
        exact ⟨ret_int R.out.symm, HB2⟩
  · have R := hide (no_hours l fun v e => absurd e (hno v))
    clear hno
    go_wp2
    go_ret
    exact ⟨ret_int R.out.symm, HB2⟩

theorem decH_bd (l : List UInt8) (h : l.length ≤ 4) : -1000000 ≤ decH l ∧ decH l ≤ 1000000 := by
  have hb : ∀ b : UInt8, b.toNat < 256 := fun b => b.toNat_lt
  match l, h with
  | [], _ => simp [decH]
  | [a], _ => have := hb a; simp only [decH, List.foldl]; omega
  | [a, b], _ => have := hb a; have := hb b; simp only [decH, List.foldl]; omega
  | [a, b, c], _ => have := hb a; have := hb b; have := hb c; simp only [decH, List.foldl]; omega
  | [a, b, c, d], _ => have := hb a; have := hb b; have := hb c; have := hb d; simp only [decH, List.foldl]; omega

theorem decH_snoc (l : List UInt8) (k : Nat) (h : k < l.length) : decH (l.take (k + 1)) = decH (l.take k) * 10 + (l[k].toNat : Int) - 48 := by
  rw [List.take_succ_eq_append_getElem h]
  simp only [decH, List.foldl_append, List.foldl]

theorem wrap_is (n : Int) : IntKind.i64.wrap n = wrap64 n := by simp [IntKind.wrap, wrap64, IntKind.bits, IntKind.signed]; split <;> omega
theorem fin_val (D : Int) (a b : UInt8) (M : Int) (h0 : -1000000 ≤ D) (h1 : D ≤ 1000000) (hM : D * 60 + ((a.toNat : Int) - 48) * 10 + (b.toNat : Int) - 48 = M) :
    wrap64 (wrap64 (wrap64 (D * 60 + wrap64 (wrap64 (wrap64 (a.toNat : Int) - 48) * 10)) + wrap64 (b.toNat : Int)) - 48) = M := by
  have ha : a.toNat < 256 := UInt8.toNat_lt _
  have hb : b.toNat < 256 := UInt8.toNat_lt _
  rw [IntWalk.wrap64_in (a.toNat : Int) (by omega), IntWalk.wrap64_in (b.toNat : Int) (by omega), IntWalk.wrap64_in ((a.toNat : Int) - 48) (by omega), IntWalk.wrap64_in (((a.toNat : Int) - 48) * 10) (by omega), IntWalk.wrap64_in (D * 60 + _) (by omega), IntWalk.wrap64_in (_ + (b.toNat : Int)) (by omega), IntWalk.wrap64_in _ (by omega)]
  exact hM
theorem step_val (d : Int) (b : UInt8) (h0 : -1000000 ≤ d) (h1 : d ≤ 1000000) : wrap64 (wrap64 (d * 10 + wrap64 (b.toNat : Int)) - 48) = d * 10 + (b.toNat : Int) - 48 := by
  have hb : b.toNat < 256 := UInt8.toNat_lt _
  rw [IntWalk.wrap64_in (b.toNat : Int) (by omega), IntWalk.wrap64_in (d * 10 + (b.toNat : Int)) (by omega), IntWalk.wrap64_in _ (by omega)]

end Go.Proofs.YthlmaljgnhakfaaGreatDoor
