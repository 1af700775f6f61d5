/- Fare, of program and model. -/
import Derived.Test.YtepdnaahhkkdeaaCA
import Derived.BigQuiet
namespace Go.Proofs.Ytepdnaahhkkdeaa
open Go.RowKit
theorem mul_wrap {b s r : Int} {js : List Int} (h : Tf b s js r) {d : Int} (h0 : 0 ≤ d) (h1 : d ≤ 19) : IntKind.i64.wrap (s * d) = s * d := by
  have := step_in h h0 h1
  exact wrap_in _ (by omega) (by omega)
theorem raw_done {b s : Int} {js : List Int} {lo hi k : Nat} (h : lo + k = hi ∨ (js.length ≤ lo + k ∧ lo + k ≤ hi)) : b + s * ((hi : Int) - lo) + jmp js lo k = raw b s js lo hi := by
  unfold raw
  rcases h with h | h
  · rw [show hi - lo = k by omega]
  · rw [jmp_beyond h.1 (hi - lo) (by omega)]

set_option maxHeartbeats 3200000 in
theorem cFareI (b s r x y : Int) (js : List Int) (a : Option Addr) (c : Nat) (w : World) (hz : Ints w a js) (hl : js.length ≤ 1048576) :
    Calls Try.prog 18 #[.agg #[.int .i64 b, .int .i64 s, .slice a js.length c, .int .i64 r], .int .i64 x, .int .i64 y] w fun e w' => e = .returned (.int .i64 (fareV b s js r x y)) ∧ Below w.heap.size w w' := by
  have hW := balloc w (.cells #[.int .i64 b, .int .i64 s, .slice a js.length c, .int .i64 r] 27)
  have X := Bx4.new w (.int .i64 b) (.int .i64 s) (.slice a js.length c) (.int .i64 r) 27
  have C := cTfI b s r js a c _ (hz.below hW) hl
  cases h0 : tfB b s js r
  · have R := hide (fareV_t (x := x) (y := y) h0)
    rw [h0] at C
    go_enter Try.func18, Try.ntmps18
    go_wp2_with (go_at_call 15; refine C.mono ?_; rintro e w' ⟨rfl, hb⟩; have HB := btrans hW hb; obtain ⟨x0, x1, x2, x3⟩ := X.below hb; clear hb)
    go_ret
    exact ⟨ret_int R.out.symm, HB⟩
  rw [h0] at C
  cases h1 : zonB x
  · have R := hide (fareV_x (b := b) (s := s) (r := r) (js := js) (y := y) h1)
    go_enter Try.func18, Try.ntmps18
    go_wp2_with (first | (go_at_call 15; refine C.mono ?_; rintro e w' ⟨rfl, hb⟩; have HB := btrans hW hb; obtain ⟨x0, x1, x2, x3⟩ := X.below hb; clear hb) | (go_at_call 47; refine (cZon _ _).mono ?_; rintro e w' ⟨rfl, hw'⟩; subst w'))
    go_ret
    exact ⟨ret_int R.out.symm, HB⟩
  cases h2 : zonB y
  · have R := hide (fareV_y (b := b) (s := s) (r := r) (js := js) (x := x) h2)
    go_enter Try.func18, Try.ntmps18
    go_wp2_with (first | (go_at_call 15; refine C.mono ?_; rintro e w' ⟨rfl, hb⟩; have HB := btrans hW hb; obtain ⟨x0, x1, x2, x3⟩ := X.below hb; clear hb) | (go_at_call 47; refine (cZon _ _).mono ?_; rintro e w' ⟨rfl, hw'⟩; subst w'))
    go_ret
    exact ⟨ret_int R.out.symm, HB⟩
  have T := Tf.of h0
  have R := hide (fareV_ok h0 h1 h2)
  have g1 := inB_true h1
  have g2 := inB_true h2
  by_cases hxy : y < x
  · obtain ⟨lo, hi, rfl, rfl, hle, hh⟩ : ∃ lo hi : Nat, y = lo ∧ x = hi ∧ lo ≤ hi ∧ hi ≤ 19 := ⟨y.toNat, x.toNat, by omega, by omega, by omega, by omega⟩
    rw [show min (hi : Int) lo = lo by omega, show max (hi : Int) lo = hi by omega, Int.toNat_natCast, Int.toNat_natCast] at R
    have o1 : ¬ (hi : Int) < lo := by omega
    have o2 : ¬ (hi : Int) ≤ lo := by omega
    have o3 : (lo : Int) ≤ hi := by omega
    go_enter Try.func18, Try.ntmps18
    go_wp2_with fail
    refine C.mono ?_
    rintro e w1 ⟨rfl, hb⟩
    have HB := btrans hW hb
    obtain ⟨x0, x1, x2, x3⟩ := X.below hb
    clear hb C X hW h0
    have pw := step_in T (d := (hi : Int) - lo) (by omega) (by omega)
    have bw := T.b0
    have bw1 := T.b1
    have rw0 := T.r0
    have rw1 := T.r1
    have mw := mul_wrap T (d := (hi : Int) - lo) (by omega) (by omega)
    have nw := wrap_in (b + s * ((hi : Int) - lo)) (by omega) (by omega)
    go_wp2_with (go_at_call 47; refine (cZon _ _).mono ?_; rintro e w' ⟨rfl, hw'⟩; subst w')
    go_loop [9, 10] (fun u i => ∃ k : Nat, lo + k ≤ hi ∧ i = .int .i64 ((lo + k : Nat) : Int) ∧ u = .int .i64 (b + s * ((hi : Int) - lo) + jmp js lo k)) (fun _ i => hi - (intOf i).toNat)
    case atStart => exact ⟨0, by omega, by simp, by simp [jmp]⟩
    case round =>
      obtain ⟨k, hk, rfl, rfl⟩ := hrel
      have jk := jmp_in T lo k
      by_cases hlt : lo + k < hi ∧ lo + k < js.length
      · obtain ⟨hlt1, hlt2⟩ := hlt
        rcases hz with h | ⟨bb, off, rfl, hc⟩
        · simp [h] at hlt2
        have q0 := ble HB (hc (lo + k) hlt2)
        have qj := T.j (lo + k)
        have JS := hide (show jmp js lo (k + 1) = jmp js lo k + js.getD (lo + k) 0 from rfl)
        clear hc
        generalize js.getD (lo + k) 0 = jv at *
        generalize jmp js lo k = J at *
        generalize s * ((hi : Int) - lo) = P at *
        have v3 : IntKind.i64.wrap (b + P + J + jv) = b + P + J + jv := wrap_in _ (by omega) (by omega)
        go_wp2
        go_round
        case rel => exact ⟨k + 1, by omega, by go_num, by rw [JS.out, Int.add_assoc (b + P)]⟩
        case measure => simp [intOf]; omega
      · have RD := hide (raw_done (b := b) (s := s) (js := js) (lo := lo) (hi := hi) (k := k) (by omega))
        have ri := raw_in T hle hh
        have CD := cDown b s r (raw b s js lo hi + r - 1) js a c w1 rw0 rw1 (by omega) (by omega)
        have FR := hide (show dn r (raw b s js lo hi + r - 1) = fareR b s js r lo hi from rfl)
        rw [RD.out]
        generalize raw b s js lo hi = W at *
        have v3 : IntKind.i64.wrap (W + r) = W + r := wrap_in _ (by omega) (by omega)
        have v4 : IntKind.i64.wrap (W + r - 1) = W + r - 1 := wrap_in _ (by omega) (by omega)
        clear hz
        rw [Classical.not_and_iff_not_or_not] at hlt
        have fin : ∀ w2, Below w1.heap.size w1 w2 → Below w.heap.size w w2 := fun w2 h => btrans HB h
        rcases hlt with hlt | hlt
        · go_wp2_with (go_at_call 48; refine CD.mono ?_; rintro e w' ⟨rfl, hb2⟩; have HB2 := fin _ hb2)
          go_ret
          exact ⟨ret_int (by rw [R.out, ← FR.out]), HB2⟩
        · by_cases hlt2 : lo + k < hi
          · first
              | exact absurd hlt2 (by omega)
              | (go_wp2_with (go_at_call 48; refine CD.mono ?_; rintro e w' ⟨rfl, hb2⟩; have HB2 := fin _ hb2)
                 go_ret
                 exact ⟨ret_int (by rw [R.out, ← FR.out]), HB2⟩)
          · go_wp2_with (go_at_call 48; refine CD.mono ?_; rintro e w' ⟨rfl, hb2⟩; have HB2 := fin _ hb2)
            go_ret
            exact ⟨ret_int (by rw [R.out, ← FR.out]), HB2⟩

  by_cases hxe : x < y
  · obtain ⟨lo, hi, rfl, rfl, hle, hh⟩ : ∃ lo hi : Nat, x = lo ∧ y = hi ∧ lo ≤ hi ∧ hi ≤ 19 := ⟨x.toNat, y.toNat, by omega, by omega, by omega, by omega⟩
    rw [show min (lo : Int) hi = lo by omega, show max (lo : Int) hi = hi by omega, Int.toNat_natCast, Int.toNat_natCast] at R
    have o3 : (lo : Int) ≤ hi := by omega
    go_enter Try.func18, Try.ntmps18
    go_wp2_with fail
    refine C.mono ?_
    rintro e w1 ⟨rfl, hb⟩
    have HB := btrans hW hb
    obtain ⟨x0, x1, x2, x3⟩ := X.below hb
    clear hb C X hW h0
    have pw := step_in T (d := (hi : Int) - lo) (by omega) (by omega)
    have bw := T.b0
    have bw1 := T.b1
    have rw0 := T.r0
    have rw1 := T.r1
    have mw := mul_wrap T (d := (hi : Int) - lo) (by omega) (by omega)
    have nw := wrap_in (b + s * ((hi : Int) - lo)) (by omega) (by omega)
    go_wp2_with (go_at_call 47; refine (cZon _ _).mono ?_; rintro e w' ⟨rfl, hw'⟩; subst w')
    go_loop [9, 10] (fun u i => ∃ k : Nat, lo + k ≤ hi ∧ i = .int .i64 ((lo + k : Nat) : Int) ∧ u = .int .i64 (b + s * ((hi : Int) - lo) + jmp js lo k)) (fun _ i => hi - (intOf i).toNat)
    case atStart => exact ⟨0, by omega, by simp, by simp [jmp]⟩
    case round =>
      obtain ⟨k, hk, rfl, rfl⟩ := hrel
      have jk := jmp_in T lo k
      by_cases hlt : lo + k < hi ∧ lo + k < js.length
      · obtain ⟨hlt1, hlt2⟩ := hlt
        rcases hz with h | ⟨bb, off, rfl, hc⟩
        · simp [h] at hlt2
        have q0 := ble HB (hc (lo + k) hlt2)
        have qj := T.j (lo + k)
        have JS := hide (show jmp js lo (k + 1) = jmp js lo k + js.getD (lo + k) 0 from rfl)
        clear hc
        generalize js.getD (lo + k) 0 = jv at *
        generalize jmp js lo k = J at *
        generalize s * ((hi : Int) - lo) = P at *
        have v3 : IntKind.i64.wrap (b + P + J + jv) = b + P + J + jv := wrap_in _ (by omega) (by omega)
        go_wp2
        go_round
        case rel => exact ⟨k + 1, by omega, by go_num, by rw [JS.out, Int.add_assoc (b + P)]⟩
        case measure => simp [intOf]; omega
      · have RD := hide (raw_done (b := b) (s := s) (js := js) (lo := lo) (hi := hi) (k := k) (by omega))
        have ri := raw_in T hle hh
        have CD := cDown b s r (raw b s js lo hi + r - 1) js a c w1 rw0 rw1 (by omega) (by omega)
        have FR := hide (show dn r (raw b s js lo hi + r - 1) = fareR b s js r lo hi from rfl)
        rw [RD.out]
        generalize raw b s js lo hi = W at *
        have v3 : IntKind.i64.wrap (W + r) = W + r := wrap_in _ (by omega) (by omega)
        have v4 : IntKind.i64.wrap (W + r - 1) = W + r - 1 := wrap_in _ (by omega) (by omega)
        clear hz
        rw [Classical.not_and_iff_not_or_not] at hlt
        have fin : ∀ w2, Below w1.heap.size w1 w2 → Below w.heap.size w w2 := fun w2 h => btrans HB h
        rcases hlt with hlt | hlt
        · go_wp2_with (go_at_call 48; refine CD.mono ?_; rintro e w' ⟨rfl, hb2⟩; have HB2 := fin _ hb2)
          go_ret
          exact ⟨ret_int (by rw [R.out, ← FR.out]), HB2⟩
        · by_cases hlt2 : lo + k < hi
          · first
              | exact absurd hlt2 (by omega)
              | (go_wp2_with (go_at_call 48; refine CD.mono ?_; rintro e w' ⟨rfl, hb2⟩; have HB2 := fin _ hb2)
                 go_ret
                 exact ⟨ret_int (by rw [R.out, ← FR.out]), HB2⟩)
          · go_wp2_with (go_at_call 48; refine CD.mono ?_; rintro e w' ⟨rfl, hb2⟩; have HB2 := fin _ hb2)
            go_ret
            exact ⟨ret_int (by rw [R.out, ← FR.out]), HB2⟩

  obtain rfl : x = y := by omega
  obtain ⟨lo, rfl, hh⟩ : ∃ lo : Nat, x = lo ∧ lo ≤ 19 := ⟨x.toNat, by omega, by omega⟩
  have hle : lo ≤ lo := Nat.le_refl _
  rw [show min (lo : Int) lo = lo by omega, show max (lo : Int) lo = lo by omega, Int.toNat_natCast] at R
  go_enter Try.func18, Try.ntmps18
  go_wp2_with fail
  refine C.mono ?_
  rintro e w1 ⟨rfl, hb⟩
  have HB := btrans hW hb
  obtain ⟨x0, x1, x2, x3⟩ := X.below hb
  clear hb C X hW h0
  have pw := step_in T (d := (lo : Int) - lo) (by omega) (by omega)
  have bw := T.b0
  have bw1 := T.b1
  have rw0 := T.r0
  have rw1 := T.r1
  have mw := mul_wrap T (d := (lo : Int) - lo) (by omega) (by omega)
  have nw := wrap_in (b + s * ((lo : Int) - lo)) (by omega) (by omega)
  go_wp2_with (go_at_call 47; refine (cZon _ _).mono ?_; rintro e w' ⟨rfl, hw'⟩; subst w')
  go_loop [9, 10] (fun u i => ∃ k : Nat, lo + k ≤ lo ∧ i = .int .i64 ((lo + k : Nat) : Int) ∧ u = .int .i64 (b + s * ((lo : Int) - lo) + jmp js lo k)) (fun _ i => lo - (intOf i).toNat)
  case atStart => exact ⟨0, by omega, by simp, by simp [jmp]⟩
  case round =>
    obtain ⟨k, hk, rfl, rfl⟩ := hrel
    have jk := jmp_in T lo k
    by_cases hlt : lo + k < lo ∧ lo + k < js.length
    · exact absurd hlt.1 (by omega)
    · have RD := hide (raw_done (b := b) (s := s) (js := js) (lo := lo) (hi := lo) (k := k) (by omega))
      have ri := raw_in T hle hh
      have CD := cDown b s r (raw b s js lo lo + r - 1) js a c w1 rw0 rw1 (by omega) (by omega)
      have FR := hide (show dn r (raw b s js lo lo + r - 1) = fareR b s js r lo lo from rfl)
      rw [RD.out]
      generalize raw b s js lo lo = W at *
      have v3 : IntKind.i64.wrap (W + r) = W + r := wrap_in _ (by omega) (by omega)
      have v4 : IntKind.i64.wrap (W + r - 1) = W + r - 1 := wrap_in _ (by omega) (by omega)
      clear hz
      rw [Classical.not_and_iff_not_or_not] at hlt
      have fin : ∀ w2, Below w1.heap.size w1 w2 → Below w.heap.size w w2 := fun w2 h => btrans HB h
      rcases hlt with hlt | hlt
      · go_wp2_with (go_at_call 48; refine CD.mono ?_; rintro e w' ⟨rfl, hb2⟩; have HB2 := fin _ hb2)
        go_ret
        exact ⟨ret_int (by rw [R.out, ← FR.out]), HB2⟩
      · by_cases hlt2 : lo + k < lo
        · first
            | exact absurd hlt2 (by omega)
            | (go_wp2_with (go_at_call 48; refine CD.mono ?_; rintro e w' ⟨rfl, hb2⟩; have HB2 := fin _ hb2)
               go_ret
               exact ⟨ret_int (by rw [R.out, ← FR.out]), HB2⟩)
        · go_wp2_with (go_at_call 48; refine CD.mono ?_; rintro e w' ⟨rfl, hb2⟩; have HB2 := fin _ hb2)
          go_ret
          exact ⟨ret_int (by rw [R.out, ← FR.out]), HB2⟩


set_option maxHeartbeats 3200000 in
theorem cFareS (b s r x y : Int) (js : List Int) (a : Option Addr) (c : Nat) (w : World) (hz : Ints w a js) (hl : js.length ≤ 1048576) :
    Calls Try.prog 17 #[.agg #[.int .i64 b, .int .i64 s, .slice a js.length c, .int .i64 r], .int .i64 x, .int .i64 y] w fun e w' => e = .returned (.int .i64 (fareV b s js r x y)) ∧ Below w.heap.size w w' := by
  have hW := balloc w (.cells #[.int .i64 b, .int .i64 s, .slice a js.length c, .int .i64 r] 27)
  have X := Bx4.new w (.int .i64 b) (.int .i64 s) (.slice a js.length c) (.int .i64 r) 27
  have C := cTfS b s r js a c _ (hz.below hW) hl
  cases h0 : tfB b s js r
  · have R := hide (fareV_t (x := x) (y := y) h0)
    rw [h0] at C
    go_enter Try.func17, Try.ntmps17
    go_wp2_with (go_at_call 13; refine C.mono ?_; rintro e w' ⟨rfl, hb⟩; have HB := btrans hW hb; obtain ⟨x0, x1, x2, x3⟩ := X.below hb; clear hb)
    go_ret
    exact ⟨ret_int R.out.symm, HB⟩
  rw [h0] at C
  cases h1 : inB x 0 19
  · have R := hide (fareV_x (b := b) (s := s) (r := r) (js := js) (y := y) h1)
    go_enter Try.func17, Try.ntmps17
    go_wp2_with (first | (go_at_call 13; refine C.mono ?_; rintro e w' ⟨rfl, hb⟩; have HB := btrans hW hb; obtain ⟨x0, x1, x2, x3⟩ := X.below hb; clear hb) | (go_at_call 43; refine (cIn _ _ _ _).mono ?_; rintro e w' ⟨rfl, hw'⟩; subst w'))
    go_ret
    exact ⟨ret_int R.out.symm, HB⟩
  cases h2 : inB y 0 19
  · have R := hide (fareV_y (b := b) (s := s) (r := r) (js := js) (x := x) h2)
    go_enter Try.func17, Try.ntmps17
    go_wp2_with (first | (go_at_call 13; refine C.mono ?_; rintro e w' ⟨rfl, hb⟩; have HB := btrans hW hb; obtain ⟨x0, x1, x2, x3⟩ := X.below hb; clear hb) | (go_at_call 43; refine (cIn _ _ _ _).mono ?_; rintro e w' ⟨rfl, hw'⟩; subst w'))
    go_ret
    exact ⟨ret_int R.out.symm, HB⟩
  have T := Tf.of h0
  have R := hide (fareV_ok h0 h1 h2)
  have g1 := inB_true h1
  have g2 := inB_true h2
  by_cases hxy : y < x
  · obtain ⟨lo, hi, rfl, rfl, hle, hh⟩ : ∃ lo hi : Nat, y = lo ∧ x = hi ∧ lo ≤ hi ∧ hi ≤ 19 := ⟨y.toNat, x.toNat, by omega, by omega, by omega, by omega⟩
    rw [show min (hi : Int) lo = lo by omega, show max (hi : Int) lo = hi by omega, Int.toNat_natCast, Int.toNat_natCast] at R
    go_enter Try.func17, Try.ntmps17
    go_wp2_with fail
    refine C.mono ?_
    rintro e w1 ⟨rfl, hb⟩
    have HB := btrans hW hb
    obtain ⟨x0, x1, x2, x3⟩ := X.below hb
    clear hb C X hW h0
    have pw := step_in T (d := (hi : Int) - lo) (by omega) (by omega)
    have bw := T.b0
    have bw1 := T.b1
    have rw0 := T.r0
    have rw1 := T.r1
    have mw := mul_wrap T (d := (hi : Int) - lo) (by omega) (by omega)
    have nw := wrap_in (b + s * ((hi : Int) - lo)) (by omega) (by omega)
    go_wp2_with (go_at_call 43; refine (cIn _ _ _ _).mono ?_; rintro e w' ⟨rfl, hw'⟩; subst w')
    go_loop [7, 8] (fun u i => ∃ k : Nat, lo + k ≤ hi ∧ i = .int .i64 ((lo + k : Nat) : Int) ∧ u = .int .i64 (b + s * ((hi : Int) - lo) + jmp js lo k)) (fun _ i => hi - (intOf i).toNat)
    case atStart => exact ⟨0, by omega, by simp, by simp [jmp]⟩
    case round =>
      obtain ⟨k, hk, rfl, rfl⟩ := hrel
      have jk := jmp_in T lo k
      by_cases hlt : lo + k < hi ∧ lo + k < js.length
      · obtain ⟨hlt1, hlt2⟩ := hlt
        rcases hz with h | ⟨bb, off, rfl, hc⟩
        · simp [h] at hlt2
        have q0 := ble HB (hc (lo + k) hlt2)
        have qj := T.j (lo + k)
        have JS := hide (show jmp js lo (k + 1) = jmp js lo k + js.getD (lo + k) 0 from rfl)
        clear hc
        generalize js.getD (lo + k) 0 = jv at *
        generalize jmp js lo k = J at *
        generalize s * ((hi : Int) - lo) = P at *
        have v3 : IntKind.i64.wrap (b + P + J + jv) = b + P + J + jv := wrap_in _ (by omega) (by omega)
        go_wp2
        go_round
        case rel => exact ⟨k + 1, by omega, by go_num, by rw [JS.out, Int.add_assoc (b + P)]⟩
        case measure => simp [intOf]; omega
      · have RD := hide (raw_done (b := b) (s := s) (js := js) (lo := lo) (hi := hi) (k := k) (by omega))
        have ri := raw_in T hle hh
        have FR := hide (show (raw b s js lo hi + r - 1).tdiv r * r = fareR b s js r lo hi from dn_div _ _)
        have di := dn_in (r := r) (x := raw b s js lo hi + r - 1) rw0 (by omega)
        rw [← dn_div] at di
        rw [RD.out]
        generalize raw b s js lo hi = W at *
        have tq : (W + r - 1).tdiv r = (W + r - 1) / r := Int.tdiv_eq_ediv_of_nonneg (by omega)
        rw [tq] at FR di
        have dq : 0 ≤ (W + r - 1) / r := Int.ediv_nonneg (by omega) (by omega)
        have dq1 : (W + r - 1) / r ≤ W + r - 1 := Int.ediv_le_self _ (by omega)
        have v3 : IntKind.i64.wrap (W + r) = W + r := wrap_in _ (by omega) (by omega)
        have v4 : IntKind.i64.wrap (W + r - 1) = W + r - 1 := wrap_in _ (by omega) (by omega)
        have v5 : IntKind.i64.wrap ((W + r - 1) / r) = (W + r - 1) / r := wrap_in _ (by omega) (by omega)
        have v6 : IntKind.i64.wrap ((W + r - 1) / r * r) = (W + r - 1) / r * r := wrap_in _ (by omega) (by omega)
        have hne : r ≠ 0 := by omega
        have hne1 : r ≠ -1 := by omega
        clear hz
        rw [Classical.not_and_iff_not_or_not] at hlt
        by_cases hlt2 : lo + k < hi
        · have hlt3 : ¬ lo + k < js.length := by omega
          go_wp2
          go_quiet (fail)
          go_wp2
          go_ret
          exact ⟨ret_int (by rw [R.out, ← FR.out]), bdraw HB _⟩
        · go_wp2
          go_quiet (fail)
          go_wp2
          go_ret
          exact ⟨ret_int (by rw [R.out, ← FR.out]), bdraw HB _⟩
  · obtain ⟨lo, hi, rfl, rfl, hle, hh⟩ : ∃ lo hi : Nat, x = lo ∧ y = hi ∧ lo ≤ hi ∧ hi ≤ 19 := ⟨x.toNat, y.toNat, by omega, by omega, by omega, by omega⟩
    rw [show min (lo : Int) hi = lo by omega, show max (lo : Int) hi = hi by omega, Int.toNat_natCast, Int.toNat_natCast] at R
    go_enter Try.func17, Try.ntmps17
    go_wp2_with fail
    refine C.mono ?_
    rintro e w1 ⟨rfl, hb⟩
    have HB := btrans hW hb
    obtain ⟨x0, x1, x2, x3⟩ := X.below hb
    clear hb C X hW h0
    have pw := step_in T (d := (hi : Int) - lo) (by omega) (by omega)
    have bw := T.b0
    have bw1 := T.b1
    have rw0 := T.r0
    have rw1 := T.r1
    have mw := mul_wrap T (d := (hi : Int) - lo) (by omega) (by omega)
    have nw := wrap_in (b + s * ((hi : Int) - lo)) (by omega) (by omega)
    go_wp2_with (go_at_call 43; refine (cIn _ _ _ _).mono ?_; rintro e w' ⟨rfl, hw'⟩; subst w')
    go_loop [7, 8] (fun u i => ∃ k : Nat, lo + k ≤ hi ∧ i = .int .i64 ((lo + k : Nat) : Int) ∧ u = .int .i64 (b + s * ((hi : Int) - lo) + jmp js lo k)) (fun _ i => hi - (intOf i).toNat)
    case atStart => exact ⟨0, by omega, by simp, by simp [jmp]⟩
    case round =>
      obtain ⟨k, hk, rfl, rfl⟩ := hrel
      have jk := jmp_in T lo k
      by_cases hlt : lo + k < hi ∧ lo + k < js.length
      · obtain ⟨hlt1, hlt2⟩ := hlt
        rcases hz with h | ⟨bb, off, rfl, hc⟩
        · simp [h] at hlt2
        have q0 := ble HB (hc (lo + k) hlt2)
        have qj := T.j (lo + k)
        have JS := hide (show jmp js lo (k + 1) = jmp js lo k + js.getD (lo + k) 0 from rfl)
        clear hc
        generalize js.getD (lo + k) 0 = jv at *
        generalize jmp js lo k = J at *
        generalize s * ((hi : Int) - lo) = P at *
        have v3 : IntKind.i64.wrap (b + P + J + jv) = b + P + J + jv := wrap_in _ (by omega) (by omega)
        go_wp2
        go_round
        case rel => exact ⟨k + 1, by omega, by go_num, by rw [JS.out, Int.add_assoc (b + P)]⟩
        case measure => simp [intOf]; omega
      · have RD := hide (raw_done (b := b) (s := s) (js := js) (lo := lo) (hi := hi) (k := k) (by omega))
        have ri := raw_in T hle hh
        have FR := hide (show (raw b s js lo hi + r - 1).tdiv r * r = fareR b s js r lo hi from dn_div _ _)
        have di := dn_in (r := r) (x := raw b s js lo hi + r - 1) rw0 (by omega)
        rw [← dn_div] at di
        rw [RD.out]
        generalize raw b s js lo hi = W at *
        have tq : (W + r - 1).tdiv r = (W + r - 1) / r := Int.tdiv_eq_ediv_of_nonneg (by omega)
        rw [tq] at FR di
        have dq : 0 ≤ (W + r - 1) / r := Int.ediv_nonneg (by omega) (by omega)
        have dq1 : (W + r - 1) / r ≤ W + r - 1 := Int.ediv_le_self _ (by omega)
        have v3 : IntKind.i64.wrap (W + r) = W + r := wrap_in _ (by omega) (by omega)
        have v4 : IntKind.i64.wrap (W + r - 1) = W + r - 1 := wrap_in _ (by omega) (by omega)
        have v5 : IntKind.i64.wrap ((W + r - 1) / r) = (W + r - 1) / r := wrap_in _ (by omega) (by omega)
        have v6 : IntKind.i64.wrap ((W + r - 1) / r * r) = (W + r - 1) / r * r := wrap_in _ (by omega) (by omega)
        have hne : r ≠ 0 := by omega
        have hne1 : r ≠ -1 := by omega
        clear hz
        rw [Classical.not_and_iff_not_or_not] at hlt
        by_cases hlt2 : lo + k < hi
        · have hlt3 : ¬ lo + k < js.length := by omega
          go_wp2
          go_quiet (fail)
          go_wp2
          go_ret
          exact ⟨ret_int (by rw [R.out, ← FR.out]), bdraw HB _⟩
        · go_wp2
          go_quiet (fail)
          go_wp2
          go_ret
          exact ⟨ret_int (by rw [R.out, ← FR.out]), bdraw HB _⟩
end Go.Proofs.Ytepdnaahhkkdeaa
