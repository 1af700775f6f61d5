/- The walk of FnTimes: what is printed reads as it was; with a nought more ahead, or as the next minute's, it is another or none. -/
import Derived.Test.YtmchdclieejohaaDoorE
namespace Go.Proofs.YtmchdclieejohaaDoor
open Go.RowKit

/-- The bytes of a slice that came in: behind its address lie the numbers zs, each a byte. -/
def Bytes (w : World) (a : Option Addr) (zs : List Int) : Prop :=
  zs = [] ∨ ∃ b off, a = some ⟨b, off, none⟩ ∧ ∀ i, i < zs.length → w.cell? ⟨b, off + i, none⟩ = some (.int .u8 (zs.getD i 0)) ∧ 0 ≤ zs.getD i 0 ∧ zs.getD i 0 ≤ 255

set_option maxHeartbeats 400000 in
theorem c7 (a : Option Addr) (cap : Nat) (zs : List Int) (i : Int) (w : World) (hz : Bytes w a zs) (hl : zs.length ≤ 1048576) (hi0 : 0 ≤ i) (hi1 : i ≤ 1000) :
    Calls Tryd.prog 7 #[.slice a zs.length cap, .int .i64 i] w fun e w' => ∃ r, e = .returned (.int .i64 r) ∧ 0 ≤ r ∧ r ≤ 255 ∧ w' = w := by
  obtain ⟨k, rfl⟩ := Int.eq_ofNat_of_zero_le hi0
  by_cases hlt : k < zs.length
  · rcases hz with hz | ⟨b, off, rfl, hc⟩
    · simp [hz] at hlt
    obtain ⟨hck, h0, h1⟩ := hc k hlt
    have e0 : zs.getD k 0 = zs[k] := by simp [List.getD, hlt]
    rw [e0] at hck h0 h1
    clear hc e0
    go_enter Tryd.func7, Tryd.ntmps7
    go_wp2
    go_ret
    exact ⟨_, rfl, by omega, by omega, rfl⟩
  · clear hz
    go_enter Tryd.func7, Tryd.ntmps7
    go_wp2
    go_ret
    exact ⟨_, rfl, by omega, by omega, rfl⟩

theorem next_ne (n : Nat) (hn : n + 1 ≤ 100000) : ttL (n + 1) ≠ ttL n := by
  intro e
  have h1 := decI_ttL (n + 1) hn
  have h2 := decI_ttL n (by omega)
  rw [e, h2] at h1
  omega

theorem nought (n : Nat) (hn : n ≤ 100000) : readB (48 :: ttL n) = -1 := by
  rcases readB_or (48 :: ttL n) with h | ⟨k, hk, e, _⟩
  · exact h
  · exfalso
    have h1 := decI_ttL k hk
    have h2 := decI_ttL n hn
    have hlen := ttL_len n hn
    rw [← e] at h1
    have h3 : decI (48 :: ttL n) = decI (ttL n) := by
      generalize ttL n = l at *
      obtain ⟨m, hm⟩ : ∃ m, l.length = m + 3 := ⟨l.length - 3, by omega⟩
      unfold decI
      have e1 : (48 :: l).take ((48 :: l).length - 3) = 48 :: l.take (l.length - 3) := by
        rw [List.length_cons, hm, show m + 3 + 1 - 3 = m + 1 by omega, List.take_succ_cons, show m + 3 - 3 = m by omega]
      have e2 : (48 :: l).getD ((48 :: l).length - 2) 0 = l.getD (l.length - 2) 0 := by
        rw [List.length_cons, hm, show m + 3 + 1 - 2 = (m + 1) + 1 by omega, show m + 3 - 2 = m + 1 by omega, List.getD_cons_succ]
      have e3 : (48 :: l).getD ((48 :: l).length - 1) 0 = l.getD (l.length - 1) 0 := by
        rw [List.length_cons, hm, show m + 3 + 1 - 1 = (m + 2) + 1 by omega, show m + 3 - 1 = m + 2 by omega, List.getD_cons_succ]
      rw [e1, e2, e3]
      rfl
    rw [h3, h2] at h1
    have hkn : k = n := by omega
    subst hkn
    have := congrArg List.length e
    simp at this

theorem tt_425 : tt 425 = [48, 55, 58, 48, 53] := by
  rw [show (425 : Int) = ((425 : Nat) : Int) from rfl, tt_nat 425 (by omega), ttL_form 425 (by omega)]
  decide
theorem tt_over : tt 100001 = [] := by unfold tt; rw [if_neg (by omega)]
theorem read_nil : readB [] = -1 := by unfold readB; rw [if_neg (by simp)]

theorem c8n (n : Nat) (hn : n ≤ 100000) (w : World) (ht : Tab w) : Calls Tryd.prog 8 #[.int .i64 n] w fun e w' => e = .returned (S (ttL n)) ∧ Below w.heap.size w w' := by
  refine (c8 (n : Int) w ht).mono ?_
  rintro e w' ⟨rfl, hb⟩
  exact ⟨by rw [tt_nat n hn], hb⟩
theorem c8i (x : Int) (n : Nat) (hx : x = n) (hn : n ≤ 100000) (w : World) (ht : Tab w) : Calls Tryd.prog 8 #[.int .i64 x] w fun e w' => e = .returned (S (ttL n)) ∧ Below w.heap.size w w' := by
  subst hx; exact c8n n hn w ht
theorem c9n (n : Nat) (hn : n ≤ 100000) (w : World) (ht : Tab w) (he : Errs w) : Calls Tryd.prog 9 #[S (ttL n)] w fun e w' => e = .returned (.int .i64 n) ∧ Below w.heap.size w w' := by
  have := ttL_len n hn
  refine (c9 (ttL n) w ht he (by omega)).mono ?_
  rintro e w' ⟨rfl, hb⟩
  exact ⟨by rw [readB_ttL n hn], hb⟩
theorem c9z (n : Nat) (hn : n ≤ 100000) (w : World) (ht : Tab w) (he : Errs w) : Calls Tryd.prog 9 #[S (48 :: ttL n)] w fun e w' => e = .returned (.int .i64 (-1)) ∧ Below w.heap.size w w' := by
  have := ttL_len n hn
  refine (c9 (48 :: ttL n) w ht he (by simp; omega)).mono ?_
  rintro e w' ⟨rfl, hb⟩
  exact ⟨by rw [nought n hn], hb⟩
theorem c9e (w : World) (ht : Tab w) (he : Errs w) : Calls Tryd.prog 9 #[.string ⟨#[]⟩] w fun e w' => e = .returned (.int .i64 (-1)) ∧ Below w.heap.size w w' := by
  refine (c9 [] w ht he (by simp)).mono ?_
  rintro e w' ⟨rfl, hb⟩
  exact ⟨by rw [read_nil], hb⟩
theorem c8o (w : World) (ht : Tab w) : Calls Tryd.prog 8 #[.int .i64 100001] w fun e w' => e = .returned (.string ⟨#[]⟩) ∧ Below w.heap.size w w' := by
  refine (c8 100001 w ht).mono ?_
  rintro e w' ⟨rfl, hb⟩
  exact ⟨by rw [tt_over], hb⟩
theorem c8f (w : World) (ht : Tab w) : Calls Tryd.prog 8 #[.int .i64 425] w fun e w' => e = .returned (.string ⟨#[48, 55, 58, 48, 53]⟩) ∧ Below w.heap.size w w' := by
  refine (c8 425 w ht).mono ?_
  rintro e w' ⟨rfl, hb⟩
  exact ⟨by rw [tt_425], hb⟩

set_option maxHeartbeats 400000 in
theorem c6 (a : Option Addr) (cap n : Nat) (w : World) (hn : n ≤ maxLen) : Calls Tryd.prog 6 #[.slice a n cap] w fun e w' => e = .returned (.bool (decide (1048576 < n))) ∧ w' = w := by
  unfold maxLen at hn
  go_enter Tryd.func6, Tryd.ntmps6
  go_wp2
  go_ret
  exact ⟨ret_bool (decide_eq_decide.2 (by omega)), rfl⟩

set_option maxHeartbeats 3200000 in
theorem walk3 (a : Option Addr) (cap : Nat) (zs : List Int) (w : World) (ht : Tab w) (he : Errs w) (hz : Bytes w a zs) (hl : zs.length ≤ maxLen) :
    Calls Tryd.prog 3 #[.slice a zs.length cap] w fun e w' => e = .returned (.bool true) ∧ Below w.heap.size w w' := by
  by_cases hbig : 1048576 < zs.length
  · have hb : decide (1048576 < zs.length) = true := by simpa using hbig
    go_enter Tryd.func3, Tryd.ntmps3
    go_wp2_with (go_at_call 6; refine (c6 _ _ _ _ hl).mono ?_; rintro e w' ⟨rfl, rfl⟩)
    go_ret
    exact ⟨rfl, Below.refl _ _⟩
  · have hb : decide (1048576 < zs.length) = false := by simpa using hbig
    have hl2 : zs.length ≤ 1048576 := by omega
    clear hbig
    go_enter Tryd.func3, Tryd.ntmps3
    go_wp2_with (go_at_call 6; refine (c6 _ _ _ _ hl).mono ?_; rintro e w' ⟨rfl, rfl⟩)
    refine (c7 a cap zs 0 _ hz hl2 (by omega) (by omega)).mono ?_
    rintro e w1 ⟨r0, rfl, h00, h01, rfl⟩
    go_wp2_with fail
    refine (c7 a cap zs 1 _ hz hl2 (by omega) (by omega)).mono ?_
    rintro e w1 ⟨r1, rfl, h10, h11, rfl⟩
    go_wp2_with fail
    obtain ⟨n, hn⟩ := Int.eq_ofNat_of_zero_le (show 0 ≤ r0 * 256 + r1 by omega)
    have hn1 : n ≤ 65535 := by omega
    rw [hn]
    clear hn h00 h01 h10 h11
    refine (c8n n (by omega) _ ht).mono ?_
    rintro e w2 ⟨rfl, hb2⟩
    have t2 := ht.below hb2
    have e2 := he.below hb2
    go_wp2_with fail
    refine (c9n n (by omega) _ t2 e2).mono ?_
    rintro e w3 ⟨rfl, hb3⟩
    have HB3 := btrans hb2 hb3
    clear hb2 hb3 t2 e2
    have hcat : (⟨#[48]⟩ : ByteArray) ++ ⟨(ttL n).toArray⟩ = ⟨(48 :: ttL n).toArray⟩ := str_append [48] (ttL n)
    have hlen := ttL_len n (by omega)
    go_wp2_with fail
    refine (c9z n (by omega) _ (ht.below HB3) (he.below HB3)).mono ?_
    rintro e w4 ⟨rfl, hb4⟩
    have HB4 := btrans HB3 hb4
    clear hb4 HB3 hcat
    have hnn : (((n + 1 : Nat) : Int) != (n : Int) + 1) = false := by simp
    have hne : (ttL (n + 1) == ttL n) = false := by simpa using next_ne n (by omega)
    go_wp2_with fail
    refine (c8i _ (n + 1) (by omega) (by omega) _ (ht.below HB4)).mono ?_
    rintro e w5 ⟨rfl, hb5⟩
    have HB5 := btrans HB4 hb5
    clear hb5 HB4
    go_wp2_with fail
    refine (c9n (n + 1) (by omega) _ (ht.below HB5) (he.below HB5)).mono ?_
    rintro e w6 ⟨rfl, hb6⟩
    have HB6 := btrans HB5 hb6
    clear hb6 HB5
    go_wp2_with fail
    refine (c8i _ (n + 1) (by omega) (by omega) _ (ht.below HB6)).mono ?_
    rintro e w7 ⟨rfl, hb7⟩
    have HB7 := btrans HB6 hb7
    clear hb7 HB6
    go_wp2_with fail
    refine (c8i _ 100000 (by omega) (by omega) _ (ht.below HB7)).mono ?_
    rintro e w8 ⟨rfl, hb8⟩
    have HB8 := btrans HB7 hb8
    clear hb8 HB7
    go_wp2_with fail
    refine (c9n 100000 (by omega) _ (ht.below HB8) (he.below HB8)).mono ?_
    rintro e w9 ⟨rfl, hb9⟩
    have HB9 := btrans HB8 hb9
    clear hb9 HB8
    go_wp2_with fail
    refine (c8o _ (ht.below HB9)).mono ?_
    rintro e w10 ⟨rfl, hb10⟩
    have HB10 := btrans HB9 hb10
    clear hb10 HB9
    go_wp2_with fail
    refine (c9e _ (ht.below HB10) (he.below HB10)).mono ?_
    rintro e w11 ⟨rfl, hb11⟩
    have HB11 := btrans HB10 hb11
    clear hb11 HB10
    go_wp2_with fail
    refine (c8f _ (ht.below HB11)).mono ?_
    rintro e w12 ⟨rfl, hb12⟩
    have HB12 := btrans HB11 hb12
    clear hb12 HB11
    go_wp2
    go_ret
    exact ⟨rfl, HB12⟩
end Go.Proofs.YtmchdclieejohaaDoor
