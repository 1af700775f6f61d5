/- The walk of the law on blocks. -/
import Derived.Test.YtcfapadcgboalaaDoorWSG
import Derived.Test.YtcfapadcgboalaaDoorH
namespace Go.Proofs.YtcfapadcgboalaaDoor
open Go.RowKit

set_option maxHeartbeats 800000 in
theorem cFreeC (a : Option Addr) (cap : Nat) (bs : List Bool) (i : Int) (w : World) (hz : Bools w a bs) (hl : bs.length ≤ 1048576) (hcap : bs.length ≤ cap) :
    Calls Tryd.prog 15 #[.slice a bs.length cap, .int .i64 i] w fun e w' => e = .returned (.int .i64 (freeFrom bs i)) ∧ w' = w := by
  by_cases hn : 100 < bs.length
  · have R := hide (freeFrom_no (freeOk_long (i := i) hn))
    generalize freeFrom bs i = r at *
    go_enter Tryd.func15, Tryd.ntmps15
    go_wp2
    go_ret
    exact ⟨ret_int R.out.symm, rfl⟩
  cases h1 : inB i 0 ((bs.length : Int) - 1)
  · have R := hide (freeFrom_no (freeOk_out h1))
    generalize freeFrom bs i = r at *
    go_enter Tryd.func15, Tryd.ntmps15
    go_wp2_with fail
    refine (cWithin _ _ _ _).mono ?_
    rintro e w1 ⟨rfl, hw⟩
    subst w1
    rw [h1]
    go_wp2
    go_ret
    exact ⟨ret_int R.out.symm, rfl⟩
  obtain ⟨h2, h3⟩ := inB_true h1
  obtain ⟨q, rfl⟩ := Int.eq_ofNat_of_zero_le h2
  have hq : q < bs.length := by omega
  have R := hide (freeFrom_yes (i := q) (by omega) hq)
  have RI := fun (a : Option Addr) (w : World) (h : Bools w a (bs.drop q)) => cIndex a (bs.length - q) (cap - q) (bs.drop q) w h (by simp) (by omega)
  rw [free_drop bs q 0, Nat.add_zero] at RI
  generalize freeFrom bs (q : Int) = r at *
  have hfr := free_le bs q (by omega)
  generalize free bs q = f at *
  rcases hz.part q with hz0 | ⟨b, off, rfl, hzq⟩
  · rw [List.drop_eq_nil_iff] at hz0; omega
  have hq' : (q : Int) ≤ (bs.length : Int) := by omega
  have hq2 : cap ≠ q := by omega
  have hq3 : (0 : Int) ≤ (q : Int) := by omega
  by_cases hf : f = bs.length - q
  · rw [if_pos hf] at RI
    go_enter Tryd.func15, Tryd.ntmps15
    go_wp2_with fail
    refine (cWithin _ _ _ _).mono ?_
    rintro e w1 ⟨rfl, hw⟩
    subst w1
    rw [h1]
    go_wp2_with fail
    refine (RI _ _ hzq).mono ?_
    rintro e w1 ⟨rfl, hw⟩
    subst w1
    go_wp2
    go_ret
    exact ⟨ret_int (by rw [R.out]; omega), rfl⟩
  · rw [if_neg hf] at RI
    go_enter Tryd.func15, Tryd.ntmps15
    go_wp2_with fail
    refine (cWithin _ _ _ _).mono ?_
    rintro e w1 ⟨rfl, hw⟩
    subst w1
    rw [h1]
    go_wp2_with fail
    refine (RI _ _ hzq).mono ?_
    rintro e w1 ⟨rfl, hw⟩
    subst w1
    go_wp2
    go_ret
    exact ⟨ret_int (by rw [R.out]), rfl⟩

set_option maxHeartbeats 800000 in
theorem cSame (a1 a2 : Option Addr) (c1 c2 : Nat) (xs : List Bool) (w : World) (h1 : Bools w a1 xs) (h2 : Bools w a2 xs) (hl1 : xs.length ≤ maxLen) :
    Calls Tryd.prog 13 #[.slice a1 xs.length c1, .slice a2 xs.length c2] w fun e w' => e = .returned (.bool true) ∧ Below w.heap.size w w' := by
  unfold maxLen at hl1
  go_enter Tryd.func13, Tryd.ntmps13
  go_wp2
  go_loopw [5] (fun i wr => ∃ k : Nat, k ≤ xs.length ∧ i = .int .i64 k ∧ Below w.heap.size w wr) (fun i _ => xs.length - (intOf i).toNat)
  case atStart => exact ⟨0, Nat.zero_le _, rfl, Below.refl _ _⟩
  case round =>
    obtain ⟨k, hk, rfl, hb⟩ := hrel
    by_cases hlt : k < xs.length
    · rcases h1 with h1 | ⟨b1, o1, rfl, hc1⟩
      · simp [h1] at hlt
      rcases h2 with h2 | ⟨b2, o2, rfl, hc2⟩
      · simp [h2] at hlt
      have hk1 := ble hb (hc1 k hlt)
      have hk2 := ble hb (hc2 k hlt)
      clear hc1 hc2
      generalize xs.getD k false = z at *
      go_wp2
      go_quiet (fail)
      go_wp2
      go_roundw
      case rel => exact ⟨k + 1, by omega, by go_num, bdraw hb _⟩
      case measure => simp [intOf]; omega
    · go_wp2
      go_ret
      exact ⟨rfl, hb⟩

theorem asp_zero {bs : List Bool} {y : Int} (hy : 0 ≤ y) {i : Nat} (h : i < bs.length) (hb : bs[i] = false) : asp bs y i ≠ 0 ∧ free bs i ≠ 0 := by
  have e := free_yes h hb
  have := asp_in (bs := bs) (i := i + 1) hy
  rw [asp_yes h hb]
  omega
theorem asp_next {bs : List Bool} {y : Int} {i : Nat} (hy : 0 ≤ y) (h : i < bs.length) : asp bs y i ≤ asp bs y (i + 1) + 1 := by
  have := asp_in (bs := bs) (i := i + 1) hy
  cases hb : bs[i]
  · rw [asp_yes h hb]; omega
  · rw [asp_no h hb]; omega
theorem asp_three {bs : List Bool} {y : Int} {i : Nat} (h3 : asp bs y i = 3) (hf : free bs i < 3) : i + free bs i = bs.length := by
  unfold asp at h3
  by_cases c : i + free bs i = bs.length
  · exact c
  · rw [if_neg c] at h3; omega
theorem asps_all (bs : List Bool) {y : Int} (hy : 0 ≤ y) (n : Nat) : (asps bs y n).all spOk = true := by
  rw [List.all_eq_true]
  intro x hx
  unfold asps at hx
  rw [List.mem_map] at hx
  obtain ⟨i, _, rfl⟩ := hx
  have := asp_in (bs := bs) (y := y) (i := i) hy
  exact inB_yes this.1 this.2
theorem passed_self (xs : List Int) (h : xs.length ≤ 100) (ha : xs.all spOk = true) : passed xs xs = -1 := by
  rw [passed_yes rfl h ha ha]
  exact first_none (fun j _ => by unfold overP; simp)
end Go.Proofs.YtcfapadcgboalaaDoor
