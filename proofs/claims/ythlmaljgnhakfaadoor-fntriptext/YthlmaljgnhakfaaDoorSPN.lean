/- A number read by the model: what is printed is read as it was. -/
import Derived.Test.YthlmaljgnhakfaaDoorNM
namespace Go.Proofs.YthlmaljgnhakfaaDoor
open Go.RowKit
set_option maxRecDepth 100000 in
set_option maxHeartbeats 800000 in
theorem cNumL (x : Nat) (w : World) (hx : x ≤ 100000000) : Calls Tryd.prog 52 #[.int .i64 x] w fun e w' => e = .returned (S (Lib.decDigits x)) ∧ Below w.heap.size w w' := by
  by_cases h0 : x = 0
  · subst h0
    go_enter Tryd.func52, Tryd.ntmps52
    go_wp2
    go_ret
    exact ⟨by rw [Lib.decDigits_one (by omega)]; rfl, Below.refl _ _⟩
  have hx0 : ((x : Int) == 0) = false := by simp; omega
  have hneg : decide ((x : Int) < 0) = false := by simp
  have H0 := hide h0
  clear h0
  go_enter Tryd.func52, Tryd.ntmps52
  go_wp2
  go_loopw [0, 3, 5] (fun xx out _ wr => ∃ (n : Nat) (l : List UInt8), n ≤ x ∧ xx = .int .i64 n ∧ out = .string ⟨l.toArray⟩ ∧ (if n = 0 then l else Lib.decDigits n ++ l) = Lib.decDigits x ∧ l.length + n ≤ x + 20 ∧ Below w.heap.size w wr) (fun xx _ _ _ => (intOf xx).toNat)
  case atStart => exact ⟨x, [], Nat.le_refl _, rfl, rfl, by rw [if_neg H0.out]; simp, by simp, Below.refl _ _⟩
  case round =>
    obtain ⟨n, l, hn, rfl, rfl, hd, hlen, hb⟩ := hrel
    by_cases hn0 : n = 0
    · subst hn0
      have hne : (((0 : Nat) : Int) != 0) = false := by simp
      rw [if_pos rfl] at hd
      have HD := hide hd
      clear hd
      go_wp2
      go_ret
      exact ⟨by rw [← HD.out]; rfl, hb⟩
    · have hne : ((n : Int) != 0) = true := by simp; omega
      have HD := hide hd
      have HN := hide hn0
      clear hd hn0
      have hconv := conv_one wr n
      go_wp2
      go_roundw
      case rel => exact ⟨n / 10, UInt8.ofNat (48 + n % 10) :: l, by omega, by go_num, cons_str n l, (num_step n l).trans (by have h := HD.out; rw [if_neg HN.out] at h; exact h), by have := HN.out; simp; omega, hb.alloc hb.size _⟩
      case measure => have := HN.out; simp [intOf]; omega
theorem dec_four (n : Nat) (h : n < 10000) : (Lib.decDigits n).length ≤ 4 := by
  by_cases h1 : n < 10
  · rw [dec_low n h1]; simp
  rw [dec_app n h1]
  by_cases h2 : n / 10 < 10
  · rw [dec_low _ h2]; simp
  rw [dec_app _ h2]
  by_cases h3 : n / 10 / 10 < 10
  · rw [dec_low _ h3]; simp
  rw [dec_app _ h3]
  by_cases h4 : n / 10 / 10 / 10 < 10
  · rw [dec_low _ h4]; simp
  omega
theorem pow_step (k : Nat) (h : k < 8) : 10 ^ (k + 1) ≤ 100000000 := by
  have : 10 ^ (k + 1) ≤ 10 ^ 8 := Nat.pow_le_pow_right (by omega) (by omega)
  simpa using this
theorem valD_take {l : List UInt8} {k m : Nat} (hk : k < l.length) (hm : m = valD (l.take k)) : 10 * m + ((l[k]).toNat - 48) = valD (l.take (k + 1)) := by
  rw [List.take_succ_eq_append_getElem hk, valD_app, ← hm]
/-- What the model's number tells: where a number below 10000 is printed so, it is told. -/
def NuAns (l : List UInt8) (w : World) (e : Ending) (W : World) : Prop := ∃ r : Int, e = .returned (.int .i64 r) ∧ (∀ n : Nat, n < 10000 → Lib.decDigits n = l → r = n) ∧ Below w.heap.size w W
theorem NuAns.no {l : List UInt8} {w W : World} (h : ∀ n : Nat, n < 10000 → Lib.decDigits n ≠ l) (hb : Below w.heap.size w W) : NuAns l w (.returned (.int .i64 (-1))) W := ⟨-1, rfl, fun n hn e => absurd e (h n hn), hb⟩
set_option maxRecDepth 100000 in
set_option maxHeartbeats 3200000 in
theorem cNumb (l : List UInt8) (w : World) (hm : l.length ≤ 1048576) :
    Calls Tryd.prog 31 #[.string ⟨l.toArray⟩] w (NuAns l w) := by
  obtain ⟨t, ht⟩ : ∃ t : ByteArray, t = ⟨l.toArray⟩ := ⟨_, rfl⟩
  rw [← ht]
  have hsz : t.size = l.length := by rw [ht]; rfl
  have hix : Hid (∀ k (hk : k < l.length) h, t[k]'h = l[k]) := hide (fun k hk h => by subst ht; rw [indexR l k hk h]; simp [List.getD, hk])
  replace hsz := hide hsz
  replace ht := hide ht
  go_enter Tryd.func31, Tryd.ntmps31
  go_wp2
  go_loop [3, 4] (fun nv iv => ∃ (m k : Nat), k ≤ l.length ∧ k ≤ 8 ∧ iv = .int .i64 k ∧ nv = .int .i64 m ∧ Hid (m = valD (l.take k)) ∧ Hid (m < 10 ^ k)) (fun _ iv => 8 - (intOf iv).toNat)
  case atStart => exact ⟨0, 0, Nat.zero_le _, Nat.zero_le _, rfl, rfl, hide rfl, hide (by simp)⟩
  case round =>
    obtain ⟨m, k, hk, hk8, rfl, rfl, hV, hP⟩ := hrel
    have hm8 : m ≤ 100000000 := by
      have h1 := hP.out
      have h2 : 10 ^ k ≤ 10 ^ 8 := Nat.pow_le_pow_right (by omega) hk8
      have h3 : (10 : Nat) ^ 8 = 100000000 := by decide
      omega
    have hk0 : (0 : Int) ≤ (k : Int) := by omega
    by_cases hkl : k < l.length
    · have hkt : (k : Int) < (t.size : Int) := by have := hsz.out; omega
      by_cases hk88 : k < 8
      · have hk8' : (k : Int) < 8 := by omega
        have hx : ∀ h, t[k]'h = l[k] := fun h => hix.out k hkl h
        have hvs := hide (valD_take hkl hV.out)
        have hdg : Hid (∀ n : Nat, n < 10000 → Lib.decDigits n = l → 48 ≤ (l[k]).toNat ∧ (l[k]).toNat ≤ 57) := hide (fun n hn e => dec_digit n _ (by rw [e]; exact List.getElem_mem hkl))
        obtain ⟨c, hc⟩ : ∃ c, l[k] = c := ⟨_, rfl⟩
        rw [hc] at hx hvs hdg
        obtain ⟨C, hC⟩ : ∃ C, c.toNat = C := ⟨_, rfl⟩
        rw [hC] at hvs hdg
        have hC256 : C < 256 := by rw [← hC]; exact UInt8.toNat_lt c
        have hxi : Hid (∀ h, ((t[k]'h).toNat : Int) = (C : Int)) := hide (fun h => by rw [hx h, hC])
        by_cases h48 : C < 48
        · have hno : Hid (∀ n : Nat, n < 10000 → Lib.decDigits n ≠ l) := hide (fun n hn e => by have := hdg.out n hn e; omega)
          clear hV hP hix ht hvs hdg hc
          have hq : (C : Int) < 48 := by omega
          rw [← hC] at hq
          go_wp2
          go_ret
          exact NuAns.no hno.out (Below.refl _ _)
        by_cases h57 : 57 < C
        · have hno : Hid (∀ n : Nat, n < 10000 → Lib.decDigits n ≠ l) := hide (fun n hn e => by have := hdg.out n hn e; omega)
          clear hV hP hix ht hvs hdg hc
          have hq : ¬ ((C : Int) < 48) := by omega
          have hq2 : (57 : Int) < (C : Int) := by omega
          rw [← hC] at hq hq2
          go_wp2
          go_ret
          exact NuAns.no hno.out (Below.refl _ _)
        · obtain ⟨M, hM⟩ : ∃ M, 10 * m + (C - 48) = M := ⟨_, rfl⟩
          rw [hM] at hvs
          have hP2 : Hid (M < 10 ^ (k + 1)) := hide (by
            have := hP.out
            rw [Nat.pow_succ]; omega)
          have hq : ¬ ((c.toNat : Int) < 48) := by omega
          have hq2 : ¬ ((57 : Int) < (c.toNat : Int)) := by omega
          have e1 : IntKind.i64.wrap ((m : Int) * 10) = (m : Int) * 10 := wrap_in _ (by omega) (by omega)
          have e0 : IntKind.i64.wrap (c.toNat : Int) = (c.toNat : Int) := wrap_in _ (by omega) (by omega)
          have e2 : IntKind.i64.wrap ((m : Int) * 10 + (c.toNat : Int)) = (m : Int) * 10 + (c.toNat : Int) := wrap_in _ (by omega) (by omega)
          have e3 : IntKind.i64.wrap ((m : Int) * 10 + (c.toNat : Int) - 48) = (M : Int) := (wrap_in _ (by omega) (by omega)).trans (by omega)
          clear hV hP hix ht hdg hc hM hxi
          have hC' := hide hC
          clear hC
          go_wp2
          go_round
          case rel => exact ⟨M, k + 1, by omega, by omega, by go_num, rfl, hvs, hP2⟩
          case measure => simp [intOf]; omega
      · obtain rfl : k = 8 := by omega
        have hk8' : ¬ ((8 : Int) < 8) := by omega
        have h8 : (8 : Int) < (t.size : Int) := by have := hsz.out; omega
        have h0 : ((t.size : Int) == 0) = false := by rw [beq_eq_false_iff_ne]; omega
        have hno : Hid (∀ n : Nat, n < 10000 → Lib.decDigits n ≠ l) := hide (fun n hn e => by have := dec_four n hn; rw [e] at this; omega)
        clear hV hP hix ht
        go_wp2
        go_ret
        exact NuAns.no hno.out (Below.refl _ _)
    · obtain rfl : k = l.length := by omega
      have hkt : ¬ (((l.length : Nat) : Int) < (t.size : Int)) := by have := hsz.out; omega
      have hv : Hid (m = valD l) := hide (by have := hV.out; rwa [List.take_length] at this)
      by_cases h0 : l.length = 0
      · have h00 : ((t.size : Int) == 0) = true := by rw [beq_iff_eq]; have := hsz.out; omega
        have hno : Hid (∀ n : Nat, n < 10000 → Lib.decDigits n ≠ l) := hide (fun n hn e => by have := dec_ne n; rw [e] at this; exact this (List.length_eq_zero_iff.1 h0))
        replace h0 := hide h0
        clear hV hP hix ht hk0 hk8
        go_wp2
        go_ret
        exact NuAns.no hno.out (Below.refl _ _)
      · have h00 : ((t.size : Int) == 0) = false := by rw [beq_eq_false_iff_ne]; have := hsz.out; omega
        have h8 : ¬ ((8 : Int) < (t.size : Int)) := by have := hsz.out; omega
        have CN := cNumL m w hm8
        clear hV hP hix hk0 h0
        go_wp2_with fail
        refine CN.mono ?_
        rintro e w1 ⟨rfl, hb⟩
        by_cases he : Lib.decDigits m = l
        · have hr : Hid (NuAns l w (.returned (.int .i64 (m : Int))) w1) := hide ⟨m, rfl, fun n hn e => by rw [hv.out, ← e, val_dec], hb⟩
          have ht2 : (⟨(Lib.decDigits m).toArray⟩ : ByteArray) = t := by rw [he]; exact ht.out.symm
          unfold S
          rw [ht2]
          clear ht2 ht hv he CN
          go_wp2
          go_ret
          exact hr.out
        · have hr : Hid (NuAns l w (.returned (.int .i64 (-1))) w1) := hide (NuAns.no (fun n hn e => he (by rw [hv.out, ← e, val_dec])) hb)
          have ht2 : ((⟨(Lib.decDigits m).toArray⟩ : ByteArray).toList == t.toList) = false := by
            rw [beq_eq_false_iff_ne, ht.out, ByteArray.toList_eq, ByteArray.toList_eq]; simpa using he
          unfold S
          generalize (⟨(Lib.decDigits m).toArray⟩ : ByteArray) = u at *
          clear ht hv he CN
          go_wp2
          go_ret
          exact hr.out
end Go.Proofs.YthlmaljgnhakfaaDoor
