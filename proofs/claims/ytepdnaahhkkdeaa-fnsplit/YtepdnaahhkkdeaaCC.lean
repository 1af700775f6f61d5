/- Right cards, of program and model. -/
import Derived.Test.YtepdnaahhkkdeaaCA
import Derived.BigQuiet
namespace Go.Proofs.Ytepdnaahhkkdeaa
open Go.RowKit
theorem cd_p {c : CardV} (h : inB c.p 0 100 = false) : cardB c = false := by simp only [cardB, h, Bool.false_and]
theorem cd_l {c : CardV} (h : feeB c.l = false) : cardB c = false := by simp only [cardB, h, Bool.false_and, Bool.and_false]
theorem cd_f {c : CardV} (h : c.f < 0) : cardB c = false := by
  have : decide (0 ≤ c.f) = false := by simp; omega
  simp only [cardB, this, Bool.false_and, Bool.and_false]
theorem cd_ft {c : CardV} (h : c.t < c.f) : cardB c = false := by
  have : decide (c.f ≤ c.t) = false := by simp; omega
  simp only [cardB, this, Bool.false_and, Bool.and_false]
theorem cd_t {c : CardV} (h : 1439 < c.t) : cardB c = false := by
  have : decide (c.t ≤ 1439) = false := by simp; omega
  simp only [cardB, this, Bool.and_false]
theorem cd_all {c : CardV} (h0 : inB c.p 0 100 = true) (h1 : feeB c.l = true) (h2 : 0 ≤ c.f) (h3 : c.f ≤ c.t) (h4 : c.t ≤ 1439) : cardB c = true := by
  simp only [cardB, h0, h1, h2, h3, h4, decide_true, Bool.and_self]

set_option maxHeartbeats 1600000 in
theorem cCardOk (v : CardV) (w : World) : Calls Try.prog 51 #[v.val] w fun e w' => e = .returned (.bool (cardB v)) ∧ Below w.heap.size w w' := by
  obtain ⟨p, l, f, t⟩ := v
  unfold CardV.val
  have hW := balloc w (.cells #[.int .i64 p, .int .i64 l, .int .i64 f, .int .i64 t] 61)
  cases h0 : inB p 0 100
  · have R := hide (cd_p (c := ⟨p, l, f, t⟩) h0)
    go_enter Try.func51, Try.ntmps51
    go_wp2_with (go_at_call 45; refine (cWithin _ _ _ _).mono ?_; rintro e w' ⟨rfl, rfl⟩)
    go_ret
    exact ⟨ret_bool R.out.symm, hW⟩
  cases h1 : feeB l
  · have R := hide (cd_l (c := ⟨p, l, f, t⟩) h1)
    go_enter Try.func51, Try.ntmps51
    go_wp2_with (first | (go_at_call 44; refine (cFee _ _).mono ?_; rintro e w' ⟨rfl, rfl⟩) | (go_at_call 45; refine (cWithin _ _ _ _).mono ?_; rintro e w' ⟨rfl, rfl⟩))
    go_ret
    exact ⟨ret_bool R.out.symm, hW⟩
  by_cases h2 : f < 0
  · have R := hide (cd_f (c := ⟨p, l, f, t⟩) h2)
    go_enter Try.func51, Try.ntmps51
    go_wp2_with (first | (go_at_call 44; refine (cFee _ _).mono ?_; rintro e w' ⟨rfl, rfl⟩) | (go_at_call 45; refine (cWithin _ _ _ _).mono ?_; rintro e w' ⟨rfl, rfl⟩))
    go_ret
    exact ⟨ret_bool R.out.symm, hW⟩
  have h2' : 0 ≤ f := by omega
  by_cases h3 : t < f
  · have R := hide (cd_ft (c := ⟨p, l, f, t⟩) h3)
    go_enter Try.func51, Try.ntmps51
    go_wp2_with (first | (go_at_call 44; refine (cFee _ _).mono ?_; rintro e w' ⟨rfl, rfl⟩) | (go_at_call 45; refine (cWithin _ _ _ _).mono ?_; rintro e w' ⟨rfl, rfl⟩))
    go_ret
    exact ⟨ret_bool R.out.symm, hW⟩
  have h3' : f ≤ t := by omega
  by_cases h4 : 1439 < t
  · have R := hide (cd_t (c := ⟨p, l, f, t⟩) h4)
    go_enter Try.func51, Try.ntmps51
    go_wp2_with (first | (go_at_call 44; refine (cFee _ _).mono ?_; rintro e w' ⟨rfl, rfl⟩) | (go_at_call 45; refine (cWithin _ _ _ _).mono ?_; rintro e w' ⟨rfl, rfl⟩))
    go_ret
    exact ⟨ret_bool (by rw [R.out]; simp; omega), hW⟩
  have R := hide (cd_all (c := ⟨p, l, f, t⟩) h0 h1 h2' h3' (by show t ≤ 1439; omega))
  have h4' : t < 1440 := by omega
  go_enter Try.func51, Try.ntmps51
  go_wp2_with (first | (go_at_call 44; refine (cFee _ _).mono ?_; rintro e w' ⟨rfl, rfl⟩) | (go_at_call 45; refine (cWithin _ _ _ _).mono ?_; rintro e w' ⟨rfl, rfl⟩))
  go_ret
  exact ⟨ret_bool (by rw [R.out]), hW⟩

set_option maxHeartbeats 1600000 in
theorem cAllCards (a : Option Addr) (cap : Nat) (cs : List CardV) (w : World) (hL : Cards w a cs) (hl : cs.length ≤ 1048576) :
    Calls Try.prog 50 #[.slice a cs.length cap, .func (.func 51) #[] #[]] w fun e w' => e = .returned (.bool (cs.all cardB)) ∧ Below w.heap.size w w' := by
  generalize hr : cs.all cardB = res
  have hr0 : Hid ((cs.drop 0).all cardB = res) := hr
  clear hr
  go_enter Try.func50, Try.ntmps50
  go_wp2
  go_loopw [9] (fun i wr => ∃ k : Nat, k ≤ cs.length ∧ i = .int .i64 k ∧ Hid ((cs.drop k).all cardB = res) ∧ Below w.heap.size w wr) (fun i _ => cs.length - (intOf i).toNat)
  case atStart => exact ⟨0, Nat.zero_le _, rfl, hr0, Below.refl _ _⟩
  case round =>
    obtain ⟨k, hk, rfl, hres, hb⟩ := hrel
    clear hr0
    by_cases hlt : k < cs.length
    · rcases hL with h | ⟨bb, off, rfl, hc⟩
      · simp [h] at hlt
      obtain ⟨q0, q1, q2, q3⟩ := hc k hlt
      have p0 := ble hb q0
      have p1 := ble hb q1
      have p2 := ble hb q2
      have p3 := ble hb q3
      have hbs := cell_lt q0
      clear hc q0 q1 q2 q3
      have hd := hide ((all_drop (P := cardB) hlt).symm.trans hres.out)
      have e0 : cs.getD k CardV.zero = cs[k] := by simp [List.getD, hlt]
      rw [e0] at p0 p1 p2 p3
      generalize cs[k] = y at *
      clear e0 hres
      have HW := btrans hb (balloc wr (.cells #[.int .i64 y.p, .int .i64 y.l, .int .i64 y.f, .int .i64 y.t] 61))
      go_wp2_with fail
      refine (cCardOk y _).mono ?_
      rintro e w1 ⟨rfl, hb1⟩
      have HB := btrans HW hb1
      clear hb1
      cases hy : cardB y
      · have hf := hide (show res = false by rw [← hd.out, hy]; rfl)
        clear hd hy
        go_wp2
        go_ret
        exact ⟨ret_bool hf.out.symm, HB⟩
      · have hf := hide (show (cs.drop (k + 1)).all cardB = res by rw [← hd.out, hy]; rfl)
        clear hd hy
        go_wp2
        go_roundw
        case rel => exact ⟨k + 1, by omega, by go_num, hf, HB⟩
        case measure => simp [intOf]; omega
    · obtain rfl : k = cs.length := by omega
      have hf := hide (show res = true by rw [← hres.out, List.drop_length]; rfl)
      clear hL
      go_wp2
      go_ret
      exact ⟨ret_bool hf.out.symm, hb⟩

set_option maxHeartbeats 800000 in
theorem cCardsI (a : Option Addr) (cap : Nat) (cs : List CardV) (w : World) (hL : Cards w a cs) (hl : cs.length ≤ 1048576) :
    Calls Try.prog 22 #[.slice a cs.length cap] w fun e w' => e = .returned (.bool (cardsB cs)) ∧ Below w.heap.size w w' := by
  by_cases h : cs.length ≤ 6
  · have R := hide (show cardsB cs = cs.all cardB by simp [cardsB, h])
    go_enter Try.func22, Try.ntmps22
    go_wp2_with (go_at_call 50; refine (cAllCards a cap cs _ hL hl).mono ?_; rintro e w' ⟨rfl, HB⟩)
    go_ret
    exact ⟨ret_bool R.out.symm, HB⟩
  · have R := hide (show cardsB cs = false by simp [cardsB, h])
    have h' : 6 < cs.length := by omega
    go_enter Try.func22, Try.ntmps22
    go_wp2
    go_ret
    exact ⟨ret_bool R.out.symm, Below.refl _ _⟩

set_option maxHeartbeats 3200000 in
theorem cCardsS (a : Option Addr) (cap : Nat) (cs : List CardV) (w : World) (hL : Cards w a cs) (hl : cs.length ≤ 1048576) :
    Calls Try.prog 20 #[.slice a cs.length cap] w fun e w' => e = .returned (.bool (cardsB cs)) ∧ Below w.heap.size w w' := by
  go_enter Try.func20, Try.ntmps20
  go_wp2
  go_loopw [3, 4] (fun i _ wr => ∃ k : Nat, k ≤ cs.length ∧ i = .int .i64 k ∧ Hid ((cs.drop k).all cardB = cs.all cardB) ∧ Below w.heap.size w wr) (fun i _ _ => cs.length - (intOf i).toNat)
  case atStart => exact ⟨0, Nat.zero_le _, rfl, hide rfl, Below.refl _ _⟩
  case round =>
    obtain ⟨k, hk, rfl, hres, hb⟩ := hrel
    by_cases hlt : k < cs.length
    · rcases hL with h | ⟨bb, off, rfl, hc⟩
      · simp [h] at hlt
      obtain ⟨q0, q1, q2, q3⟩ := hc k hlt
      have p0 := ble hb q0
      have p1 := ble hb q1
      have p2 := ble hb q2
      have p3 := ble hb q3
      have hbs := cell_lt q0
      clear hc q0 q1 q2 q3
      have hd := hide ((all_drop (P := cardB) hlt).symm.trans hres.out)
      have e0 : cs.getD k CardV.zero = cs[k] := by simp [List.getD, hlt]
      rw [e0] at p0 p1 p2 p3
      generalize cs[k] = y at *
      clear e0 hres
      obtain ⟨yp, yl, yf, yt⟩ := y
      dsimp only at p0 p1 p2 p3
      have bad := fun h : cardB ⟨yp, yl, yf, yt⟩ = false => hide (show cardsB cs = false by simp only [cardsB]; rw [← hd.out, h]; simp)
      have good := fun h : cardB ⟨yp, yl, yf, yt⟩ = true => hide (show (cs.drop (k + 1)).all cardB = cs.all cardB by rw [← hd.out, h]; rfl)
      clear hd
      have F1 : Below w.heap.size w (wr.alloc (.cells #[.int .i64 yp, .int .i64 yl, .int .i64 yf, .int .i64 yt] 61)) := btrans hb (balloc _ _)
      cases h0 : inB yp 0 100
      · have R2 := bad (cd_p h0)
        clear bad hb good
        go_wp2_with (go_at_call 43; refine (cIn _ _ _ _).mono ?_; rintro e w' ⟨rfl, rfl⟩)
        go_ret
        exact ⟨ret_bool R2.out.symm, F1⟩
      cases h1 : inB yl 0 100000
      · have R2 := bad (cd_l h1)
        clear bad hb good
        go_wp2_with (go_at_call 43; refine (cIn _ _ _ _).mono ?_; rintro e w' ⟨rfl, rfl⟩)
        go_ret
        exact ⟨ret_bool R2.out.symm, F1⟩
      cases h2 : inB yt 0 1439
      · have R2 := bad (by rcases inB_ff h2 with h | h; (by_cases h5 : yf < 0; (exact cd_f h5); (exact cd_ft (by show yt < yf; omega))); (exact cd_t h))
        clear bad hb good
        go_wp2_with (go_at_call 43; refine (cIn _ _ _ _).mono ?_; rintro e w' ⟨rfl, rfl⟩)
        go_ret
        exact ⟨ret_bool R2.out.symm, F1⟩
      have g2 := inB_true h2
      cases h3 : inB yf 0 yt
      · have R2 := bad (by rcases inB_ff h3 with h | h; (exact cd_f h); (exact cd_ft h))
        clear bad hb good
        go_wp2_with (go_at_call 43; refine (cIn _ _ _ _).mono ?_; rintro e w' ⟨rfl, rfl⟩)
        go_ret
        exact ⟨ret_bool R2.out.symm, F1⟩
      have g3 := inB_true h3
      have G := good (cd_all h0 h1 g3.1 g3.2 g2.2)
      clear bad good hb
      go_wp2_with (go_at_call 43; refine (cIn _ _ _ _).mono ?_; rintro e w' ⟨rfl, rfl⟩)
      go_roundw
      case rel => exact ⟨k + 1, by omega, by go_num, G, F1⟩
      case measure => simp [intOf]; omega
    · obtain rfl : k = cs.length := by omega
      have hf := hide (show cs.all cardB = true by rw [← hres.out, List.drop_length]; rfl)
      clear hres hL
      have R := hide (show decide (cs.length ≤ 6) = cardsB cs by simp only [cardsB, hf.out, Bool.and_true])
      by_cases h6 : cs.length ≤ 6
      · have R2 := hide (show cardsB cs = true by rw [← R.out]; simpa using h6)
        go_wp2
        go_ret
        exact ⟨ret_bool (by rw [R2.out]; simp; omega), hb⟩
      · have R2 := hide (show cardsB cs = false by rw [← R.out]; simpa using h6)
        have h6' : 6 < cs.length := by omega
        go_wp2
        go_ret
        exact ⟨ret_bool (by rw [R2.out]; simp; omega), hb⟩
end Go.Proofs.Ytepdnaahhkkdeaa
