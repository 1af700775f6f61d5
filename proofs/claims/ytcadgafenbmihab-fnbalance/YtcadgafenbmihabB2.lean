/- The balance, of both texts, and the walk of its law. -/
import Derived.Test.YtcadgafenbmihabK
import Derived.Laws.Cover2
namespace Go.Proofs.Ytcadgafenbmihab
open Go.RowKit Fl

attribute [local go_sem] run_store_float

/-- A whole number as a float. -/
def fi (n : Nat) : Nat := floatOfInt .f64 (n : Int)
def balFrom (l : LocoV) (es : List CarV) (sl : Nat) : Nat → Int
  | 0 => -1
  | k + 1 => if flt (effort l (fi k)) (drag es (fi k) sl) = true then balFrom l es sl k else k
def bal (l : LocoV) (es : List CarV) (sl : Nat) : Int := if (locoOk l && trainOk es && slp sl) = true then balFrom l es sl 201 else -1
theorem bal_no {l : LocoV} {es : List CarV} {sl : Nat} (h : (locoOk l && trainOk es && slp sl) = false) : bal l es sl = -1 := by unfold bal; rw [h]; rfl
theorem bal_yes {l : LocoV} {es : List CarV} {sl : Nat} (h1 : locoOk l = true) (h2 : trainOk es = true) (h3 : slp sl = true) : bal l es sl = balFrom l es sl 201 := by unfold bal; rw [h1, h2, h3]; rfl

set_option maxHeartbeats 3200000 in
theorem c44 (l : LocoV) (a : Option Addr) (cap sl : Nat) (es : List CarV) (w : World) (he : Cars w a es) (hl : es.length ≤ 1048576) : Calls Try.prog 10 #[LocoV.val l, .slice a es.length cap, .float .f64 sl] w fun e w' => e = .returned (.int .i64 (bal l es sl)) ∧ Below w.heap.size w w' := by
  obtain ⟨p, g⟩ := l
  unfold LocoV.val
  have hW := balloc w (.cells #[.float .f64 p, .float .f64 g] 26)
  cases h1 : locoOk ⟨p, g⟩
  · have R := hide (bal_no (l := ⟨p, g⟩) (es := es) (sl := sl) (by simp [h1]))
    generalize bal ⟨p, g⟩ es sl = r at *
    go_enter Try.func10, Try.ntmps10
    go_wp2_with fail
    refine (c20 ⟨p, g⟩ _).mono ?_
    rintro e w1 ⟨rfl, hb⟩
    rw [h1]
    have HB1 := btrans hW hb
    have X1 := Bx2.mk hb
    clear hb hW
    go_wp2
    go_ret
    exact ⟨ret_int R.out.symm, HB1⟩
  cases h2 : trainOk es
  · have R := hide (bal_no (l := ⟨p, g⟩) (es := es) (sl := sl) (by simp [h1, h2]))
    generalize bal ⟨p, g⟩ es sl = r at *
    go_enter Try.func10, Try.ntmps10
    go_wp2_with fail
    refine (c20 ⟨p, g⟩ _).mono ?_
    rintro e w1 ⟨rfl, hb⟩
    rw [h1]
    have HB1 := btrans hW hb
    have X1 := Bx2.mk hb
    clear hb hW
    go_wp2_with fail
    refine (c55 a cap es _ (he.below HB1) hl).mono ?_
    rintro e w2 ⟨rfl, hb⟩
    rw [h2]
    have HB2 := btrans HB1 hb
    have X2 := X1.below hb
    clear hb HB1 X1
    go_wp2
    go_ret
    exact ⟨ret_int R.out.symm, HB2⟩
  cases h4 : slp sl
  · have R := hide (bal_no (l := ⟨p, g⟩) (es := es) (sl := sl) (by simp [h1, h2, h4]))
    generalize bal ⟨p, g⟩ es sl = r at *
    go_enter Try.func10, Try.ntmps10
    go_wp2_with fail
    refine (c20 ⟨p, g⟩ _).mono ?_
    rintro e w1 ⟨rfl, hb⟩
    rw [h1]
    have HB1 := btrans hW hb
    have X1 := Bx2.mk hb
    clear hb hW
    go_wp2_with fail
    refine (c55 a cap es _ (he.below HB1) hl).mono ?_
    rintro e w2 ⟨rfl, hb⟩
    rw [h2]
    have HB2 := btrans HB1 hb
    have X2 := X1.below hb
    clear hb HB1 X1
    go_wp2_with fail
    refine (c15 sl km1 k1 _).mono ?_
    rintro e w3 ⟨rfl, hw⟩
    subst hw
    rw [show inR sl km1 k1 = _ from h4]
    go_wp2
    go_ret
    exact ⟨ret_int R.out.symm, HB2⟩
  have R := hide (bal_yes (l := ⟨p, g⟩) (es := es) (sl := sl) h1 h2 h4)
  generalize bal ⟨p, g⟩ es sl = r at *
  go_enter Try.func10, Try.ntmps10
  go_wp2_with fail
  refine (c20 ⟨p, g⟩ _).mono ?_
  rintro e w1 ⟨rfl, hb⟩
  rw [h1]
  have HB1 := btrans hW hb
  have X1 := Bx2.mk hb
  clear hb hW
  go_wp2_with fail
  refine (c55 a cap es _ (he.below HB1) hl).mono ?_
  rintro e w2 ⟨rfl, hb⟩
  rw [h2]
  have HB2 := btrans HB1 hb
  have X2 := X1.below hb
  clear hb HB1 X1
  go_wp2_with fail
  refine (c15 sl km1 k1 _).mono ?_
  rintro e w3 ⟨rfl, hw⟩
  subst hw
  rw [show inR sl km1 k1 = _ from h4]
  go_wp2
  go_loopw [7] (fun i wr => ∃ k : Nat, k ≤ 201 ∧ i = .int .i64 ((k : Int) - 1) ∧ r = balFrom ⟨p, g⟩ es sl k ∧ Bx2 wr w.heap.size ⟨p, g⟩ ∧ Below w.heap.size w wr) (fun i _ => (intOf i + 1).toNat)
  case atStart => exact ⟨201, by omega, by simp, R.out, X2, HB2⟩
  case round =>
    obtain ⟨k, hk, rfl, hr, X, HB⟩ := hrel
    clear R
    replace hr := hide hr
    cases k with
    | zero =>
      have hz : ((0 : Nat) : Int) - 1 = -1 := rfl
      rw [hz]
      have R : Hid (r = -1) := hr.out
      clear hr
      go_wp2
      go_ret
      exact ⟨ret_int R.out.symm, HB⟩
    | succ k =>
      have hz : ((k + 1 : Nat) : Int) - 1 = (k : Int) := by omega
      rw [hz]
      have hk0 : (0 : Int) ≤ (k : Int) := by omega
      have hk1 : (k : Int) ≤ 200 := by omega
      have E : Hid (balFrom ⟨p, g⟩ es sl (k + 1) = if flt (effort ⟨p, g⟩ (fi k)) (drag es (fi k) sl) = true then balFrom ⟨p, g⟩ es sl k else k) := rfl
      have E1 : Hid (flt (effort ⟨p, g⟩ (fi k)) (drag es (fi k) sl) = (FloatKind.f64.format.order (effort ⟨p, g⟩ (fi k)) (drag es (fi k) sl) == some .lt)) := rfl
      have CE := fun w' => c26 ⟨p, g⟩ (fi k) w'
      have CD := fun w' hz => c33 a cap es (fi k) sl w' hz hl
      unfold LocoV.val at CE
      generalize effort ⟨p, g⟩ (fi k) = ef at *
      generalize drag es (fi k) sl = dr at *
      unfold fi at CE CD
      obtain ⟨b0, b1⟩ := id X
      dsimp only at b0 b1
      by_cases q : FloatKind.f64.format.order ef dr = some .lt
      · have R : Hid (r = balFrom ⟨p, g⟩ es sl k) := by have := hr.out; rw [E.out, E1.out, q] at this; exact this
        clear hr E E1
        go_wp2_with fail
        clear b0 b1
        refine (CE _).mono ?_
        rintro e w4 ⟨rfl, hb⟩
        have HB4 := btrans HB hb
        have X4 := X.below hb
        clear hb HB X
        go_wp2_with fail
        refine (CD _ (he.below HB4)).mono ?_
        rintro e w5 ⟨rfl, hb⟩
        have HB5 := btrans HB4 hb
        have X5 := X4.below hb
        clear hb HB4 X4 CE CD
        go_wp2
        go_roundw
        case rel => exact ⟨k, by omega, rfl, R.out, X5, HB5⟩
        case measure => simp [intOf]
      · have q' : (FloatKind.f64.format.order ef dr == some .lt) = false := by simpa using q
        have R : Hid (r = k) := by have := hr.out; rw [E.out, E1.out, q'] at this; exact this
        clear hr E E1 q
        go_wp2_with fail
        clear b0 b1
        refine (CE _).mono ?_
        rintro e w4 ⟨rfl, hb⟩
        have HB4 := btrans HB hb
        have X4 := X.below hb
        clear hb HB X
        go_wp2_with fail
        refine (CD _ (he.below HB4)).mono ?_
        rintro e w5 ⟨rfl, hb⟩
        have HB5 := btrans HB4 hb
        clear hb HB4 X4 CE CD
        go_wp2
        go_ret
        exact ⟨ret_int R.out.symm, HB5⟩

set_option maxHeartbeats 3200000 in
theorem c45 (l : LocoV) (a : Option Addr) (cap sl : Nat) (es : List CarV) (w : World) (he : Cars w a es) (hl : es.length ≤ 1048576) : Calls Try.prog 7 #[LocoV.val l, .slice a es.length cap, .float .f64 sl] w fun e w' => e = .returned (.int .i64 (bal l es sl)) ∧ Below w.heap.size w w' := by
  obtain ⟨p, g⟩ := l
  unfold LocoV.val
  have hW := balloc w (.cells #[.float .f64 p, .float .f64 g] 26)
  cases h1 : locoOk ⟨p, g⟩
  · have R := hide (bal_no (l := ⟨p, g⟩) (es := es) (sl := sl) (by simp [h1]))
    generalize bal ⟨p, g⟩ es sl = r at *
    go_enter Try.func7, Try.ntmps7
    go_wp2_with fail
    refine (c22 ⟨p, g⟩ _).mono ?_
    rintro e w1 ⟨rfl, hb⟩
    rw [h1]
    have HB1 := btrans hW hb
    have X1 := Bx2.mk hb
    clear hb hW
    go_wp2
    go_ret
    exact ⟨ret_int R.out.symm, HB1⟩
  cases h2 : trainOk es
  · have R := hide (bal_no (l := ⟨p, g⟩) (es := es) (sl := sl) (by simp [h1, h2]))
    generalize bal ⟨p, g⟩ es sl = r at *
    go_enter Try.func7, Try.ntmps7
    go_wp2_with fail
    refine (c22 ⟨p, g⟩ _).mono ?_
    rintro e w1 ⟨rfl, hb⟩
    rw [h1]
    have HB1 := btrans hW hb
    have X1 := Bx2.mk hb
    clear hb hW
    go_wp2_with fail
    refine (c56 a cap es _ (he.below HB1) hl).mono ?_
    rintro e w2 ⟨rfl, hb⟩
    rw [h2]
    have HB2 := btrans HB1 hb
    have X2 := X1.below hb
    clear hb HB1 X1
    go_wp2
    go_ret
    exact ⟨ret_int R.out.symm, HB2⟩
  cases h4 : slp sl
  · have R := hide (bal_no (l := ⟨p, g⟩) (es := es) (sl := sl) (by simp [h1, h2, h4]))
    generalize bal ⟨p, g⟩ es sl = r at *
    go_enter Try.func7, Try.ntmps7
    go_wp2_with fail
    refine (c22 ⟨p, g⟩ _).mono ?_
    rintro e w1 ⟨rfl, hb⟩
    rw [h1]
    have HB1 := btrans hW hb
    have X1 := Bx2.mk hb
    clear hb hW
    go_wp2_with fail
    refine (c56 a cap es _ (he.below HB1) hl).mono ?_
    rintro e w2 ⟨rfl, hb⟩
    rw [h2]
    have HB2 := btrans HB1 hb
    have X2 := X1.below hb
    clear hb HB1 X1
    go_wp2_with fail
    refine (c58 _ _).mono ?_
    rintro e w3 ⟨rfl, hw⟩
    subst hw
    rw [h4]
    go_wp2
    go_ret
    exact ⟨ret_int R.out.symm, HB2⟩
  have R := hide (bal_yes (l := ⟨p, g⟩) (es := es) (sl := sl) h1 h2 h4)
  generalize bal ⟨p, g⟩ es sl = r at *
  go_enter Try.func7, Try.ntmps7
  go_wp2_with fail
  refine (c22 ⟨p, g⟩ _).mono ?_
  rintro e w1 ⟨rfl, hb⟩
  rw [h1]
  have HB1 := btrans hW hb
  have X1 := Bx2.mk hb
  clear hb hW
  go_wp2_with fail
  refine (c56 a cap es _ (he.below HB1) hl).mono ?_
  rintro e w2 ⟨rfl, hb⟩
  rw [h2]
  have HB2 := btrans HB1 hb
  have X2 := X1.below hb
  clear hb HB1 X1
  go_wp2_with fail
  refine (c58 _ _).mono ?_
  rintro e w3 ⟨rfl, hw⟩
  subst hw
  rw [h4]
  go_wp2
  go_loopw [7] (fun i wr => ∃ k : Nat, k ≤ 201 ∧ i = .int .i64 ((k : Int) - 1) ∧ r = balFrom ⟨p, g⟩ es sl k ∧ Bx2 wr w.heap.size ⟨p, g⟩ ∧ Below w.heap.size w wr) (fun i _ => (intOf i + 1).toNat)
  case atStart => exact ⟨201, by omega, by simp, R.out, X2, HB2⟩
  case round =>
    obtain ⟨k, hk, rfl, hr, X, HB⟩ := hrel
    clear R
    replace hr := hide hr
    cases k with
    | zero =>
      have hz : ((0 : Nat) : Int) - 1 = -1 := rfl
      rw [hz]
      have R : Hid (r = -1) := hr.out
      clear hr
      go_wp2
      go_ret
      exact ⟨ret_int R.out.symm, HB⟩
    | succ k =>
      have hz : ((k + 1 : Nat) : Int) - 1 = (k : Int) := by omega
      rw [hz]
      have hk0 : (0 : Int) ≤ (k : Int) := by omega
      have hk1 : (k : Int) ≤ 200 := by omega
      have E : Hid (balFrom ⟨p, g⟩ es sl (k + 1) = if flt (effort ⟨p, g⟩ (fi k)) (drag es (fi k) sl) = true then balFrom ⟨p, g⟩ es sl k else k) := rfl
      have E1 : Hid (flt (effort ⟨p, g⟩ (fi k)) (drag es (fi k) sl) = (FloatKind.f64.format.order (effort ⟨p, g⟩ (fi k)) (drag es (fi k) sl) == some .lt)) := rfl
      have CE := fun w' => c27 ⟨p, g⟩ (fi k) w'
      have CD := fun w' hz => c34 a cap es (fi k) sl w' hz hl
      unfold LocoV.val at CE
      generalize effort ⟨p, g⟩ (fi k) = ef at *
      generalize drag es (fi k) sl = dr at *
      unfold fi at CE CD
      obtain ⟨b0, b1⟩ := id X
      dsimp only at b0 b1
      by_cases q : FloatKind.f64.format.order ef dr = some .lt
      · have R : Hid (r = balFrom ⟨p, g⟩ es sl k) := by have := hr.out; rw [E.out, E1.out, q] at this; exact this
        clear hr E E1
        go_wp2_with fail
        clear b0 b1
        refine (CE _).mono ?_
        rintro e w4 ⟨rfl, hb⟩
        have HB4 := btrans HB hb
        have X4 := X.below hb
        clear hb HB X
        go_wp2_with fail
        refine (CD _ (he.below HB4)).mono ?_
        rintro e w5 ⟨rfl, hb⟩
        have HB5 := btrans HB4 hb
        have X5 := X4.below hb
        clear hb HB4 X4 CE CD
        go_wp2
        go_roundw
        case rel => exact ⟨k, by omega, rfl, R.out, X5, HB5⟩
        case measure => simp [intOf]
      · have q' : (FloatKind.f64.format.order ef dr == some .lt) = false := by simpa using q
        have R : Hid (r = k) := by have := hr.out; rw [E.out, E1.out, q'] at this; exact this
        clear hr E E1 q
        go_wp2_with fail
        clear b0 b1
        refine (CE _).mono ?_
        rintro e w4 ⟨rfl, hb⟩
        have HB4 := btrans HB hb
        have X4 := X.below hb
        clear hb HB X
        go_wp2_with fail
        refine (CD _ (he.below HB4)).mono ?_
        rintro e w5 ⟨rfl, hb⟩
        have HB5 := btrans HB4 hb
        clear hb HB4 X4 CE CD
        go_wp2
        go_ret
        exact ⟨ret_int R.out.symm, HB5⟩

end Go.Proofs.Ytcadgafenbmihab
