/- The model's small functions. -/
import Derived.Test.YtggdejceobagcaaC
namespace Go.Proofs.Ytggdejceobagcaa
open Go.RowKit

set_option maxHeartbeats 800000 in
theorem cAtS (b : Option Addr) (cb : Nat) (ts : List SingleV) (s : Int) (w : World) (ht : Singles w b ts) (hm : ts.length ≤ 1048576) :
    Calls Try.prog 54 #[.slice b ts.length cb, .int .i64 s] w fun e w' => e = .returned (.int .i64 (atN ts s)) ∧ w' = w := by
  go_enter Try.func54, Try.ntmps54
  go_wp2
  go_loop [5, 6] (fun n i => ∃ k : Nat, k ≤ ts.length ∧ i = .int .i64 k ∧ n = .int .i64 (atN (ts.take k) s)) (fun _ i => ts.length - (intOf i).toNat)
  case atStart => exact ⟨0, Nat.zero_le _, rfl, rfl⟩
  case round =>
    obtain ⟨k, hk, rfl, rfl⟩ := hrel
    have hle := Nat.le_trans (atN_le (ts.take k) s) (List.length_take_le _ _)
    by_cases hlt : k < ts.length
    · rcases ht with h | ⟨nb, off, rfl, hcl⟩
      · simp [h] at hlt
      obtain ⟨q0, q1⟩ := hcl k hlt
      rw [getD_lt hlt] at q0 q1
      have hat := hide (atN_take ts k hlt s)
      generalize ts[k] = E at *
      obtain ⟨x, d⟩ := E
      dsimp only at *
      generalize atN (ts.take k) s = n at *
      clear hcl q1
      by_cases he : x = s
      · have hf := hide (show ((n : Int) + 1) = (atN (ts.take (k + 1)) s : Int) by rw [hat.out, if_pos he]; omega)
        subst he
        go_wp2
        go_round
        case rel => exact ⟨k + 1, by omega, by go_num, by rw [← hf.out]⟩
        case measure => simp [intOf]; omega
      · have hf := hide (show (n : Int) = (atN (ts.take (k + 1)) s : Int) by rw [hat.out, if_neg he]; omega)
        go_wp2
        go_round
        case rel => exact ⟨k + 1, by omega, by go_num, by rw [← hf.out]⟩
        case measure => simp [intOf]; omega
    · obtain rfl : k = ts.length := by omega
      clear ht
      go_wp2
      go_ret
      exact ⟨rfl, rfl⟩

set_option maxHeartbeats 400000 in
theorem cFitsS (a : Option Addr) (cap : Nat) (ls : List Int) (x : Int) (w : World) (hz : Ints w a ls) (hl : ls.length ≤ 1048576) (h0 : 0 ≤ x) (h1 : x ≤ 2 * (ls.length : Int) - 2) :
    Calls Try.prog 55 #[.slice a ls.length cap, .int .i64 x] w fun e w' => e = .returned (.int .i64 (fits ls x)) ∧ w' = w := by
  obtain ⟨f1, f2, f3⟩ := fits_at h0 h1
  have e2 : x.tdiv 2 = x / 2 := Int.tdiv_eq_ediv_of_nonneg h0
  have e3 : x.tmod 2 = x % 2 := Int.tmod_eq_emod_of_nonneg h0
  by_cases h : x.tmod 2 = 0
  · have E := hide (fits_even (ls := ls) h)
    have hx : ¬ (x % 2 = 1) := by omega
    rcases hz with hz | ⟨b, off, rfl, hc⟩
    · simp [hz] at f3
    have hk := hc _ f3
    rw [e2] at hk f1 f2 f3 E
    generalize ls.getD (x / 2).toNat 0 = V at *
    clear hc h e2 e3
    go_enter Try.func55, Try.ntmps55
    go_wp2
    go_ret
    exact ⟨ret_int E.out.symm, rfl⟩
  · have E := hide (fits_odd (ls := ls) h)
    have hx : x % 2 = 1 := by omega
    clear h e2 e3
    go_enter Try.func55, Try.ntmps55
    go_wp2
    go_ret
    exact ⟨ret_int E.out.symm, rfl⟩

set_option maxHeartbeats 800000 in
theorem cLineS (a : Option Addr) (cap : Nat) (zs : List Int) (w : World) (hz : Ints w a zs) (hl : zs.length ≤ 1048576) :
    Calls Try.prog 56 #[.slice a zs.length cap] w fun e w' => e = .returned (.bool (lineOk zs)) ∧ w' = w := by
  have E : Hid (lineOk zs = (zs.all (fun x => inB x 1 4) && inB zs.length 2 5)) := rfl
  generalize lineOk zs = rr at *
  generalize hr : zs.all (fun x => inB x 1 4) = res at *
  have hr0 : Hid ((zs.drop 0).all (fun x => inB x 1 4) = res) := hr
  clear hr
  go_enter Try.func56, Try.ntmps56
  go_wp2
  go_loop [3] (fun i => ∃ k : Nat, k ≤ zs.length ∧ i = .int .i64 k ∧ Hid ((zs.drop k).all (fun x => inB x 1 4) = res)) (fun i => zs.length - (intOf i).toNat)
  case atStart => exact ⟨0, Nat.zero_le _, rfl, hr0⟩
  case round =>
    obtain ⟨k, hk, rfl, hres⟩ := hrel
    clear hr0
    by_cases hlt : k < zs.length
    · rcases hz with h | ⟨b, off, rfl, hc⟩
      · simp [h] at hlt
      have q0 := hc k hlt
      have e0 : zs.getD k 0 = zs[k] := by simp [List.getD, hlt]
      rw [e0] at q0
      have hd := hide ((all_drop (P := fun x => inB x 1 4) hlt).symm.trans hres.out)
      generalize zs[k] = y at *
      clear hc e0 hres
      go_wp2_with fail
      refine (cIn y 1 4 _).mono ?_
      rintro e w1 ⟨rfl, hw⟩
      subst w1
      cases hy : inB y 1 4
      · have hf := hide (show rr = false by rw [E.out, ← hd.out, hy]; rfl)
        clear hd hy
        go_wp2
        go_ret
        exact ⟨ret_bool hf.out.symm, rfl⟩
      · have hf := hide (show (zs.drop (k + 1)).all (fun x => inB x 1 4) = res by rw [← hd.out, hy]; rfl)
        clear hd hy
        go_wp2
        go_round
        case rel => exact ⟨k + 1, by omega, by go_num, hf⟩
        case measure => simp [intOf]; omega
    · obtain rfl : k = zs.length := by omega
      have hf := hide (show rr = inB zs.length 2 5 by rw [E.out, ← hres.out, List.drop_length]; rfl)
      clear hz
      go_wp2_with fail
      refine (cIn zs.length 2 5 _).mono ?_
      rintro e w1 ⟨rfl, hw⟩
      subst w1
      go_wp2
      go_ret
      exact ⟨ret_bool hf.out.symm, rfl⟩

end Go.Proofs.Ytggdejceobagcaa
