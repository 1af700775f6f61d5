/- Refund, of program and model. -/
import Derived.Test.YtepdnaahhkkdeaaCA
import Derived.BigQuiet
import Derived.Deep.RegionHeld3
namespace Go.Proofs.Ytepdnaahhkkdeaa
open Go.RowKit
theorem refundV_t {b s r paid h : Int} {js : List Int} (g : tfB b s js r = false) : refundV b s js r paid h = -1 := by simp [refundV, g]
theorem refundV_p {b s r paid h : Int} {js : List Int} (g : payB paid = false) : refundV b s js r paid h = -1 := by simp [refundV, g]
theorem refundV_ok {b s r paid h : Int} {js : List Int} (g : tfB b s js r = true) (g2 : payB paid = true) : refundV b s js r paid h = dn r (backV paid h) := by simp [refundV, g, g2]
theorem quart_in (h : Int) : 0 ≤ quart h ∧ quart h ≤ 4 := by unfold quart; split; omega; split; omega; split <;> omega

set_option maxHeartbeats 800000 in
theorem cQuart (h : Int) (w : World) : Calls Try.prog 60 #[.int .i64 h] w fun e w' => e = .returned (.int .i64 (quart h)) ∧ w' = w := by
  by_cases h1 : 72 ≤ h
  · have h2 : 24 ≤ h := by omega
    have h3 : 1 ≤ h := by omega
    have R := hide (show quart h = 4 by simp [quart, h1])
    go_enter Try.func60, Try.ntmps60
    go_wp2
    go_ret
    exact ⟨ret_int R.out.symm, rfl⟩
  by_cases h2 : 24 ≤ h
  · have h3 : 1 ≤ h := by omega
    have R := hide (show quart h = 3 by simp [quart, h1, h2])
    go_enter Try.func60, Try.ntmps60
    go_wp2
    go_ret
    exact ⟨ret_int R.out.symm, rfl⟩
  by_cases h3 : 1 ≤ h
  · have R := hide (show quart h = 2 by simp [quart, h1, h2, h3])
    go_enter Try.func60, Try.ntmps60
    go_wp2
    go_ret
    exact ⟨ret_int R.out.symm, rfl⟩
  · have R := hide (show quart h = 0 by simp [quart, h1, h2, h3])
    go_enter Try.func60, Try.ntmps60
    go_wp2
    go_ret
    exact ⟨ret_int R.out.symm, rfl⟩

set_option maxHeartbeats 3200000 in
theorem cRefundI (b s r paid h : Int) (js : List Int) (a : Option Addr) (c : Nat) (w : World) (hz : Ints w a js) (hl : js.length ≤ 1048576) :
    Calls Try.prog 37 #[.agg #[.int .i64 b, .int .i64 s, .slice a js.length c, .int .i64 r], .int .i64 paid, .int .i64 h] w fun e w' => e = .returned (.int .i64 (refundV b s js r paid h)) ∧ Below w.heap.size w w' := by
  have hW := balloc w (.cells #[.int .i64 b, .int .i64 s, .slice a js.length c, .int .i64 r] 27)
  have X := Bx4.new w (.int .i64 b) (.int .i64 s) (.slice a js.length c) (.int .i64 r) 27
  have C := cTfI b s r js a c _ (hz.below hW) hl
  cases h0 : tfB b s js r
  · have R := hide (refundV_t (paid := paid) (h := h) h0)
    rw [h0] at C
    go_enter Try.func37, Try.ntmps37
    go_wp2_with (go_at_call 15; refine C.mono ?_; rintro e w' ⟨rfl, hb⟩; have HB := btrans hW hb; obtain ⟨x0, x1, x2, x3⟩ := X.below hb; clear hb)
    go_ret
    exact ⟨ret_int R.out.symm, HB⟩
  rw [h0] at C
  cases h1 : payB paid
  · have R := hide (refundV_p (b := b) (s := s) (r := r) (js := js) (h := h) h1)
    go_enter Try.func37, Try.ntmps37
    go_wp2_with (first | (go_at_call 15; refine C.mono ?_; rintro e w' ⟨rfl, hb⟩; have HB := btrans hW hb; obtain ⟨x0, x1, x2, x3⟩ := X.below hb; clear hb) | (go_at_call 53; refine (cPay _ _).mono ?_; rintro e w' ⟨rfl, hw'⟩; subst w'))
    go_ret
    exact ⟨ret_int R.out.symm, HB⟩
  have T := Tf.of h0
  have R := hide (refundV_ok (h := h) h0 h1)
  have g1 := inB_true h1
  have rw0 := T.r0
  have rw1 := T.r1
  have bi := back_in (h := h) g1.1
  have be := back_eq (h := h) g1.1
  have qi := quart_in h
  have pi : 0 ≤ paid * quart h ∧ paid * quart h ≤ 40000000 := by
    refine ⟨Int.mul_nonneg g1.1 qi.1, ?_⟩
    have e1 : paid * quart h ≤ paid * 4 := Int.mul_le_mul_of_nonneg_left qi.2 g1.1
    omega
  have CQ := fun w => cQuart h w
  generalize quart h = q at *
  have te : (paid * q).tdiv 4 = paid * q / 4 := Int.tdiv_eq_ediv_of_nonneg pi.1
  rw [te] at be
  rw [← be] at R bi
  clear be
  have v1 : IntKind.i64.wrap (paid * q) = paid * q := wrap_in _ (by omega) (by omega)
  have v2 : IntKind.i64.wrap (paid * q / 4) = paid * q / 4 := wrap_in _ (by omega) (by omega)
  go_enter Try.func37, Try.ntmps37
  go_wp2_with fail
  refine C.mono ?_
  rintro e w1 ⟨rfl, hb⟩
  have HB := btrans hW hb
  have X1 := X.below hb
  clear hb C X hW h0
  go_wp2_with (go_at_call 53; refine (cPay _ _).mono ?_; rintro e w' ⟨rfl, hw'⟩; subst w')
  have CD := cDown b s r (paid * q / 4) js a c w1.drew rw0 rw1 (by omega) (by omega)
  obtain ⟨x0, x1, x2, x3⟩ := id X1
  go_region_held3 (fun w' => w'.cell? ⟨w.heap.size, 0, none⟩ = some (.int .i64 b) ∧ w'.cell? ⟨w.heap.size, 1, none⟩ = some (.int .i64 s) ∧ w'.cell? ⟨w.heap.size, 2, none⟩ = some (.slice a js.length c) ∧ w'.cell? ⟨w.heap.size, 3, none⟩ = some (.int .i64 r)) (go_keep) (first
    | (go_at_call 60; with_reducible refine (CQ _).mono ?_; rintro e wq ⟨rfl, hq⟩; subst wq)
    | (go_at_call 48; with_reducible refine CD.mono ?_; rintro e wp ⟨rfl, hbp⟩; have Bp := undrew hbp; clear hbp; obtain ⟨v0, v1, v2, v3⟩ := X1.c Bp))
  replace HB := btrans HB Bp
  go_wp2
  go_ret
  exact ⟨ret_int R.out.symm, HB⟩

set_option maxHeartbeats 3200000 in
theorem cRefundS (b s r paid h : Int) (js : List Int) (a : Option Addr) (c : Nat) (w : World) (hz : Ints w a js) (hl : js.length ≤ 1048576) :
    Calls Try.prog 36 #[.agg #[.int .i64 b, .int .i64 s, .slice a js.length c, .int .i64 r], .int .i64 paid, .int .i64 h] w fun e w' => e = .returned (.int .i64 (refundV b s js r paid h)) ∧ Below w.heap.size w w' := by
  have hW := balloc w (.cells #[.int .i64 b, .int .i64 s, .slice a js.length c, .int .i64 r] 27)
  have X := Bx4.new w (.int .i64 b) (.int .i64 s) (.slice a js.length c) (.int .i64 r) 27
  have C := cTfS b s r js a c _ (hz.below hW) hl
  cases h0 : tfB b s js r
  · have R := hide (refundV_t (paid := paid) (h := h) h0)
    rw [h0] at C
    go_enter Try.func36, Try.ntmps36
    go_wp2_with (go_at_call 13; refine C.mono ?_; rintro e w' ⟨rfl, hb⟩; have HB := btrans hW hb; obtain ⟨x0, x1, x2, x3⟩ := X.below hb; clear hb)
    go_ret
    exact ⟨ret_int R.out.symm, HB⟩
  rw [h0] at C
  cases h1 : inB paid 0 10000000
  · have R := hide (refundV_p (b := b) (s := s) (r := r) (js := js) (h := h) h1)
    go_enter Try.func36, Try.ntmps36
    go_wp2_with (first | (go_at_call 13; refine C.mono ?_; rintro e w' ⟨rfl, hb⟩; have HB := btrans hW hb; obtain ⟨x0, x1, x2, x3⟩ := X.below hb; clear hb) | (go_at_call 43; refine (cIn _ _ _ _).mono ?_; rintro e w' ⟨rfl, hw'⟩; subst w'))
    go_ret
    exact ⟨ret_int R.out.symm, HB⟩
  have T := Tf.of h0
  have R := hide (refundV_ok (h := h) h0 h1)
  have g1 := inB_true h1
  have rw0 := T.r0
  have rw1 := T.r1
  have bi := back_in (h := h) g1.1
  have hne : r ≠ 0 := by omega
  have hne1 : r ≠ -1 := by omega
  clear h0 T
  by_cases h1 : 72 ≤ h
  · have BV := hide (show backV paid h = paid by simp [backV, *]; try (rw [Int.tdiv_eq_ediv_of_nonneg (by omega)]))
    rw [BV.out] at R bi
    have di := dn_in (r := r) (x := paid) rw0 bi.1
    have em : (paid).tmod r = (paid) % r := Int.tmod_eq_emod_of_nonneg bi.1
    have DE := hide (show dn r (paid) = paid - (paid) % r by unfold dn; rw [em])
    rw [em] at di
    have v1 : IntKind.i64.wrap ((paid) % r) = (paid) % r := wrap_in _ (by omega) (by omega)
    have v2 : IntKind.i64.wrap (paid - (paid) % r) = paid - (paid) % r := wrap_in _ (by omega) (by omega)
    have v3 : IntKind.i64.wrap (paid * 3) = paid * 3 := wrap_in _ (by omega) (by omega)
    have v4 : IntKind.i64.wrap (paid * 3 / 4) = paid * 3 / 4 := wrap_in _ (by omega) (by omega)
    have v5 : IntKind.i64.wrap (paid / 2) = paid / 2 := wrap_in _ (by omega) (by omega)
    go_enter Try.func36, Try.ntmps36
    go_wp2_with (first | (go_at_call 13; refine C.mono ?_; rintro e w' ⟨rfl, hb⟩; have HB := btrans hW hb; obtain ⟨x0, x1, x2, x3⟩ := X.below hb; clear hb) | (go_at_call 43; refine (cIn _ _ _ _).mono ?_; rintro e w' ⟨rfl, hw'⟩; subst w'))
    go_ret
    exact ⟨ret_int (by rw [R.out, DE.out]), HB⟩
  by_cases h2 : 24 ≤ h
  · have BV := hide (show backV paid h = paid * 3 / 4 by simp [backV, *]; try (rw [Int.tdiv_eq_ediv_of_nonneg (by omega)]))
    rw [BV.out] at R bi
    have di := dn_in (r := r) (x := paid * 3 / 4) rw0 bi.1
    have em : (paid * 3 / 4).tmod r = (paid * 3 / 4) % r := Int.tmod_eq_emod_of_nonneg bi.1
    have DE := hide (show dn r (paid * 3 / 4) = paid * 3 / 4 - (paid * 3 / 4) % r by unfold dn; rw [em])
    rw [em] at di
    have v1 : IntKind.i64.wrap ((paid * 3 / 4) % r) = (paid * 3 / 4) % r := wrap_in _ (by omega) (by omega)
    have v2 : IntKind.i64.wrap (paid * 3 / 4 - (paid * 3 / 4) % r) = paid * 3 / 4 - (paid * 3 / 4) % r := wrap_in _ (by omega) (by omega)
    have v3 : IntKind.i64.wrap (paid * 3) = paid * 3 := wrap_in _ (by omega) (by omega)
    have v4 : IntKind.i64.wrap (paid * 3 / 4) = paid * 3 / 4 := wrap_in _ (by omega) (by omega)
    have v5 : IntKind.i64.wrap (paid / 2) = paid / 2 := wrap_in _ (by omega) (by omega)
    go_enter Try.func36, Try.ntmps36
    go_wp2_with (first | (go_at_call 13; refine C.mono ?_; rintro e w' ⟨rfl, hb⟩; have HB := btrans hW hb; obtain ⟨x0, x1, x2, x3⟩ := X.below hb; clear hb) | (go_at_call 43; refine (cIn _ _ _ _).mono ?_; rintro e w' ⟨rfl, hw'⟩; subst w'))
    go_ret
    exact ⟨ret_int (by rw [R.out, DE.out]), HB⟩
  by_cases h3 : 1 ≤ h
  · have BV := hide (show backV paid h = paid / 2 by simp [backV, *]; try (rw [Int.tdiv_eq_ediv_of_nonneg (by omega)]))
    rw [BV.out] at R bi
    have di := dn_in (r := r) (x := paid / 2) rw0 bi.1
    have em : (paid / 2).tmod r = (paid / 2) % r := Int.tmod_eq_emod_of_nonneg bi.1
    have DE := hide (show dn r (paid / 2) = paid / 2 - (paid / 2) % r by unfold dn; rw [em])
    rw [em] at di
    have v1 : IntKind.i64.wrap ((paid / 2) % r) = (paid / 2) % r := wrap_in _ (by omega) (by omega)
    have v2 : IntKind.i64.wrap (paid / 2 - (paid / 2) % r) = paid / 2 - (paid / 2) % r := wrap_in _ (by omega) (by omega)
    have v3 : IntKind.i64.wrap (paid * 3) = paid * 3 := wrap_in _ (by omega) (by omega)
    have v4 : IntKind.i64.wrap (paid * 3 / 4) = paid * 3 / 4 := wrap_in _ (by omega) (by omega)
    have v5 : IntKind.i64.wrap (paid / 2) = paid / 2 := wrap_in _ (by omega) (by omega)
    go_enter Try.func36, Try.ntmps36
    go_wp2_with (first | (go_at_call 13; refine C.mono ?_; rintro e w' ⟨rfl, hb⟩; have HB := btrans hW hb; obtain ⟨x0, x1, x2, x3⟩ := X.below hb; clear hb) | (go_at_call 43; refine (cIn _ _ _ _).mono ?_; rintro e w' ⟨rfl, hw'⟩; subst w'))
    go_ret
    exact ⟨ret_int (by rw [R.out, DE.out]), HB⟩
  · have BV := hide (show backV paid h = 0 by simp [backV, *])
    have R0 := hide (show refundV b s js r paid h = 0 by rw [R.out, BV.out]; simp [dn])
    clear R BV bi
    go_enter Try.func36, Try.ntmps36
    go_wp2_with (first | (go_at_call 13; refine C.mono ?_; rintro e w' ⟨rfl, hb⟩; have HB := btrans hW hb; obtain ⟨x0, x1, x2, x3⟩ := X.below hb; clear hb) | (go_at_call 43; refine (cIn _ _ _ _).mono ?_; rintro e w' ⟨rfl, hw'⟩; subst w'))
    go_ret
    exact ⟨ret_int (by rw [R0.out]; try simp), HB⟩
end Go.Proofs.Ytepdnaahhkkdeaa
