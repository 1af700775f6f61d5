/- Clash of program and model. -/
import Derived.Test.YtbghfihlpbcomaaGreatCA
namespace Go.Proofs.YtbghfihlpbcomaaGreat
open Go.RowKit
/-- A boxed use: the five cells of block b. -/
def Bx5 (w : World) (b : Nat) (c0 c1 c2 c3 c4 : Value) : Prop := w.cell? ⟨b, 0, none⟩ = some c0 ∧ w.cell? ⟨b, 1, none⟩ = some c1 ∧ w.cell? ⟨b, 2, none⟩ = some c2 ∧ w.cell? ⟨b, 3, none⟩ = some c3 ∧ w.cell? ⟨b, 4, none⟩ = some c4
theorem Bx5.below {w w1 : World} {b : Nat} {c0 c1 c2 c3 c4 : Value} (h : Bx5 w b c0 c1 c2 c3 c4) (hb : Below w.heap.size w w1) : Bx5 w1 b c0 c1 c2 c3 c4 := ⟨ble hb h.1, ble hb h.2.1, ble hb h.2.2.1, ble hb h.2.2.2.1, ble hb h.2.2.2.2⟩
theorem Bx5.new (w : World) (c0 c1 c2 c3 c4 : Value) (t : TypeId) : Bx5 (w.alloc (.cells #[c0, c1, c2, c3, c4] t)) w.heap.size c0 c1 c2 c3 c4 := ⟨by simp, by simp, by simp, by simp, by simp⟩
theorem Bx5.new1 (w : World) (o : Obj) (c0 c1 c2 c3 c4 : Value) (t : TypeId) : Bx5 ((w.alloc o).alloc (.cells #[c0, c1, c2, c3, c4] t)) (w.heap.size + 1) c0 c1 c2 c3 c4 := by
  have h := Bx5.new (w.alloc o) c0 c1 c2 c3 c4 t
  rwa [sz1] at h

set_option maxHeartbeats 400000 in
theorem cHeadOk (h : Int) (w : World) : Calls Tryz.prog 36 #[.int .i64 h] w fun e w' => e = .returned (.bool (inB h 0 60)) ∧ w' = w := by
  go_enter Tryz.func36, Tryz.ntmps36
  go_wp2_with (go_at_call 39; refine (cWithin _ _ _ _).mono ?_; rintro e w' ⟨rfl, rfl⟩)
  go_ret
  exact ⟨rfl, rfl⟩

set_option maxHeartbeats 1600000 in
theorem cLeads (a b : RideV) (h : Int) (w : World) (ha : -100001 ≤ a.f ∧ a.f ≤ 100001 ∧ -100001 ≤ a.t ∧ a.t ≤ 100001) (hh : 0 ≤ h ∧ h ≤ 60) : Calls Tryz.prog 104 #[a.val, b.val, .int .i64 h] w fun e w' => e = .returned (.bool (leadB a b h)) ∧ Below w.heap.size w w' := by
  obtain ⟨ae, ad, af, at_, ap⟩ := a
  obtain ⟨be, bd, bf, bt, bp⟩ := b
  unfold RideV.val
  obtain ⟨a1, a2, a3, a4⟩ := ha
  obtain ⟨h1, h2⟩ := hh
  simp only at a1 a2 a3 a4
  have hW := btrans (balloc w (.cells #[.int .i64 ae, .int .i64 ad, .int .i64 af, .int .i64 at_, .int .i64 ap] 98)) (balloc _ (.cells #[.int .i64 be, .int .i64 bd, .int .i64 bf, .int .i64 bt, .int .i64 bp] 98))
  have w1 : IntKind.i64.wrap (af + h) = af + h := wrap_in _ (by omega) (by omega)
  have w2 : IntKind.i64.wrap (at_ + h) = at_ + h := wrap_in _ (by omega) (by omega)
  have E : Hid (leadB ⟨ae, ad, af, at_, ap⟩ ⟨be, bd, bf, bt, bp⟩ h = (decide (af + h ≤ bf) && decide (at_ + h ≤ bt))) := rfl
  by_cases q1 : af + h ≤ bf
  · by_cases q2 : at_ + h ≤ bt
    · have Z := hide (show leadB ⟨ae, ad, af, at_, ap⟩ ⟨be, bd, bf, bt, bp⟩ h = true by rw [E.out]; simp [q1, q2])
      go_enter Tryz.func104, Tryz.ntmps104
      go_wp2
      go_ret
      first | exact ⟨ret_bool Z.out.symm, hW⟩ | exact ⟨ret_bool (by rw [Z.out]; simp; omega), hW⟩ | exact ⟨ret_bool (by rw [Z.out]; simp), hW⟩
    · have Z := hide (show leadB ⟨ae, ad, af, at_, ap⟩ ⟨be, bd, bf, bt, bp⟩ h = false by rw [E.out]; simp [q2])
      go_enter Tryz.func104, Tryz.ntmps104
      go_wp2
      go_ret
      first | exact ⟨ret_bool Z.out.symm, hW⟩ | exact ⟨ret_bool (by rw [Z.out]; simp; omega), hW⟩ | exact ⟨ret_bool (by rw [Z.out]; simp), hW⟩
  · have Z := hide (show leadB ⟨ae, ad, af, at_, ap⟩ ⟨be, bd, bf, bt, bp⟩ h = false by rw [E.out]; simp [q1])
    go_enter Tryz.func104, Tryz.ntmps104
    go_wp2
    go_ret
    first | exact ⟨ret_bool Z.out.symm, hW⟩ | exact ⟨ret_bool (by rw [Z.out]; simp; omega), hW⟩ | exact ⟨ret_bool (by rw [Z.out]; simp), hW⟩

set_option maxHeartbeats 3200000 in
theorem cClashI (a b : RideV) (h : Int) (w : World) : Calls Tryz.prog 89 #[a.val, b.val, .int .i64 h] w fun e w' => e = .returned (.bool (clashB a b h)) ∧ Below w.heap.size w w' := by
  obtain ⟨ae, ad, af, at_, ap⟩ := a
  obtain ⟨be, bd, bf, bt, bp⟩ := b
  unfold RideV.val
  have hW := btrans (balloc w (.cells #[.int .i64 ae, .int .i64 ad, .int .i64 af, .int .i64 at_, .int .i64 ap] 98)) (balloc _ (.cells #[.int .i64 be, .int .i64 bd, .int .i64 bf, .int .i64 bt, .int .i64 bp] 98))
  cases ha : rideB ⟨ae, ad, af, at_, ap⟩
  · have R := hide (cB_a (b := ⟨be, bd, bf, bt, bp⟩) (h := h) ha)
    have X0 := (Bx5.new w (.int .i64 ae) (.int .i64 ad) (.int .i64 af) (.int .i64 at_) (.int .i64 ap) 98).below (balloc _ (.cells #[.int .i64 be, .int .i64 bd, .int .i64 bf, .int .i64 bt, .int .i64 bp] 98))
    have Y0 := Bx5.new1 w (.cells #[.int .i64 ae, .int .i64 ad, .int .i64 af, .int .i64 at_, .int .i64 ap] 98) (.int .i64 be) (.int .i64 bd) (.int .i64 bf) (.int .i64 bt) (.int .i64 bp) 98
    go_enter Tryz.func89, Tryz.ntmps89
    go_wp2_with fail
    refine (cUseI ⟨ae, ad, af, at_, ap⟩ _).mono ?_
    rintro e w1 ⟨rfl, hb1⟩
    have HB1 := btrans hW hb1
    have X1 := X0.below hb1
    have Y1 := Y0.below hb1
    clear hb1 X0 Y0
    rw [ha]
    obtain ⟨x0, x1, x2, x3, x4⟩ := id X1
    obtain ⟨y0, y1, y2, y3, y4⟩ := id Y1
    go_wp2
    go_ret
    exact ⟨ret_bool R.out.symm, HB1⟩
  cases hb : rideB ⟨be, bd, bf, bt, bp⟩
  · have R := hide (cB_b (a := ⟨ae, ad, af, at_, ap⟩) (h := h) hb)
    have X0 := (Bx5.new w (.int .i64 ae) (.int .i64 ad) (.int .i64 af) (.int .i64 at_) (.int .i64 ap) 98).below (balloc _ (.cells #[.int .i64 be, .int .i64 bd, .int .i64 bf, .int .i64 bt, .int .i64 bp] 98))
    have Y0 := Bx5.new1 w (.cells #[.int .i64 ae, .int .i64 ad, .int .i64 af, .int .i64 at_, .int .i64 ap] 98) (.int .i64 be) (.int .i64 bd) (.int .i64 bf) (.int .i64 bt) (.int .i64 bp) 98
    go_enter Tryz.func89, Tryz.ntmps89
    go_wp2_with fail
    refine (cUseI ⟨ae, ad, af, at_, ap⟩ _).mono ?_
    rintro e w1 ⟨rfl, hb1⟩
    have HB1 := btrans hW hb1
    have X1 := X0.below hb1
    have Y1 := Y0.below hb1
    clear hb1 X0 Y0
    rw [ha]
    obtain ⟨x0, x1, x2, x3, x4⟩ := id X1
    obtain ⟨y0, y1, y2, y3, y4⟩ := id Y1
    go_wp2_with fail
    refine (cUseI ⟨be, bd, bf, bt, bp⟩ _).mono ?_
    rintro e w2 ⟨rfl, hb2⟩
    have HB2 := btrans HB1 hb2
    have X2 := X1.below hb2
    have Y2 := Y1.below hb2
    clear hb2 X1 Y1
    rw [hb]
    obtain ⟨x0, x1, x2, x3, x4⟩ := id X2
    obtain ⟨y0, y1, y2, y3, y4⟩ := id Y2
    go_wp2
    go_ret
    exact ⟨ret_bool R.out.symm, HB2⟩
  cases hh : inB h 0 60
  · have R := hide (cB_h (a := ⟨ae, ad, af, at_, ap⟩) (b := ⟨be, bd, bf, bt, bp⟩) hh)
    have X0 := (Bx5.new w (.int .i64 ae) (.int .i64 ad) (.int .i64 af) (.int .i64 at_) (.int .i64 ap) 98).below (balloc _ (.cells #[.int .i64 be, .int .i64 bd, .int .i64 bf, .int .i64 bt, .int .i64 bp] 98))
    have Y0 := Bx5.new1 w (.cells #[.int .i64 ae, .int .i64 ad, .int .i64 af, .int .i64 at_, .int .i64 ap] 98) (.int .i64 be) (.int .i64 bd) (.int .i64 bf) (.int .i64 bt) (.int .i64 bp) 98
    go_enter Tryz.func89, Tryz.ntmps89
    go_wp2_with fail
    refine (cUseI ⟨ae, ad, af, at_, ap⟩ _).mono ?_
    rintro e w1 ⟨rfl, hb1⟩
    have HB1 := btrans hW hb1
    have X1 := X0.below hb1
    have Y1 := Y0.below hb1
    clear hb1 X0 Y0
    rw [ha]
    obtain ⟨x0, x1, x2, x3, x4⟩ := id X1
    obtain ⟨y0, y1, y2, y3, y4⟩ := id Y1
    go_wp2_with fail
    refine (cUseI ⟨be, bd, bf, bt, bp⟩ _).mono ?_
    rintro e w2 ⟨rfl, hb2⟩
    have HB2 := btrans HB1 hb2
    have X2 := X1.below hb2
    have Y2 := Y1.below hb2
    clear hb2 X1 Y1
    rw [hb]
    obtain ⟨x0, x1, x2, x3, x4⟩ := id X2
    obtain ⟨y0, y1, y2, y3, y4⟩ := id Y2
    go_wp2_with (go_at_call 36; refine (cHeadOk _ _).mono ?_; rintro e w' ⟨rfl, rfl⟩)
    go_ret
    exact ⟨ret_bool R.out.symm, HB2⟩
  have hh' := inB_true hh
  by_cases he : ae = be
  · by_cases hd : ad = bd
    · have R := hide (cB_eq (a := ⟨ae, ad, af, at_, ap⟩) (b := ⟨be, bd, bf, bt, bp⟩) (h := h) ha hb hh he hd)
      have ia := rideB_in ha
      have ib := rideB_in hb
      subst he hd
      cases q1 : leadB ⟨ae, ad, af, at_, ap⟩ ⟨ae, ad, bf, bt, bp⟩ h
      · cases q2 : leadB ⟨ae, ad, bf, bt, bp⟩ ⟨ae, ad, af, at_, ap⟩ h
        · rw [q1, q2] at R
          have X0 := (Bx5.new w (.int .i64 ae) (.int .i64 ad) (.int .i64 af) (.int .i64 at_) (.int .i64 ap) 98).below (balloc _ (.cells #[.int .i64 ae, .int .i64 ad, .int .i64 bf, .int .i64 bt, .int .i64 bp] 98))
          have Y0 := Bx5.new1 w (.cells #[.int .i64 ae, .int .i64 ad, .int .i64 af, .int .i64 at_, .int .i64 ap] 98) (.int .i64 ae) (.int .i64 ad) (.int .i64 bf) (.int .i64 bt) (.int .i64 bp) 98
          go_enter Tryz.func89, Tryz.ntmps89
          go_wp2_with fail
          refine (cUseI ⟨ae, ad, af, at_, ap⟩ _).mono ?_
          rintro e w1 ⟨rfl, hb1⟩
          have HB1 := btrans hW hb1
          have X1 := X0.below hb1
          have Y1 := Y0.below hb1
          clear hb1 X0 Y0
          rw [ha]
          obtain ⟨x0, x1, x2, x3, x4⟩ := id X1
          obtain ⟨y0, y1, y2, y3, y4⟩ := id Y1
          go_wp2_with fail
          refine (cUseI ⟨ae, ad, bf, bt, bp⟩ _).mono ?_
          rintro e w2 ⟨rfl, hb2⟩
          have HB2 := btrans HB1 hb2
          have X2 := X1.below hb2
          have Y2 := Y1.below hb2
          clear hb2 X1 Y1
          rw [hb]
          obtain ⟨x0, x1, x2, x3, x4⟩ := id X2
          obtain ⟨y0, y1, y2, y3, y4⟩ := id Y2
          go_wp2_with (go_at_call 36; refine (cHeadOk _ _).mono ?_; rintro e w' ⟨rfl, rfl⟩)
          refine (cLeads ⟨ae, ad, af, at_, ap⟩ ⟨ae, ad, bf, bt, bp⟩ h _ ia hh').mono ?_
          rintro e w3 ⟨rfl, hb3⟩
          have HB3 := btrans HB2 hb3
          have X3 := X2.below hb3
          have Y3 := Y2.below hb3
          clear hb3 X2 Y2
          rw [q1]
          obtain ⟨x0, x1, x2, x3, x4⟩ := id X3
          obtain ⟨y0, y1, y2, y3, y4⟩ := id Y3
          go_wp2_with fail
          refine (cLeads ⟨ae, ad, bf, bt, bp⟩ ⟨ae, ad, af, at_, ap⟩ h _ ib hh').mono ?_
          rintro e w4 ⟨rfl, hb4⟩
          have HB4 := btrans HB3 hb4
          have X4 := X3.below hb4
          have Y4 := Y3.below hb4
          clear hb4 X3 Y3
          rw [q2]
          obtain ⟨x0, x1, x2, x3, x4⟩ := id X4
          obtain ⟨y0, y1, y2, y3, y4⟩ := id Y4
          go_wp2
          go_ret
          exact ⟨ret_bool R.out.symm, HB4⟩
        · rw [q1, q2] at R
          have X0 := (Bx5.new w (.int .i64 ae) (.int .i64 ad) (.int .i64 af) (.int .i64 at_) (.int .i64 ap) 98).below (balloc _ (.cells #[.int .i64 ae, .int .i64 ad, .int .i64 bf, .int .i64 bt, .int .i64 bp] 98))
          have Y0 := Bx5.new1 w (.cells #[.int .i64 ae, .int .i64 ad, .int .i64 af, .int .i64 at_, .int .i64 ap] 98) (.int .i64 ae) (.int .i64 ad) (.int .i64 bf) (.int .i64 bt) (.int .i64 bp) 98
          go_enter Tryz.func89, Tryz.ntmps89
          go_wp2_with fail
          refine (cUseI ⟨ae, ad, af, at_, ap⟩ _).mono ?_
          rintro e w1 ⟨rfl, hb1⟩
          have HB1 := btrans hW hb1
          have X1 := X0.below hb1
          have Y1 := Y0.below hb1
          clear hb1 X0 Y0
          rw [ha]
          obtain ⟨x0, x1, x2, x3, x4⟩ := id X1
          obtain ⟨y0, y1, y2, y3, y4⟩ := id Y1
          go_wp2_with fail
          refine (cUseI ⟨ae, ad, bf, bt, bp⟩ _).mono ?_
          rintro e w2 ⟨rfl, hb2⟩
          have HB2 := btrans HB1 hb2
          have X2 := X1.below hb2
          have Y2 := Y1.below hb2
          clear hb2 X1 Y1
          rw [hb]
          obtain ⟨x0, x1, x2, x3, x4⟩ := id X2
          obtain ⟨y0, y1, y2, y3, y4⟩ := id Y2
          go_wp2_with (go_at_call 36; refine (cHeadOk _ _).mono ?_; rintro e w' ⟨rfl, rfl⟩)
          refine (cLeads ⟨ae, ad, af, at_, ap⟩ ⟨ae, ad, bf, bt, bp⟩ h _ ia hh').mono ?_
          rintro e w3 ⟨rfl, hb3⟩
          have HB3 := btrans HB2 hb3
          have X3 := X2.below hb3
          have Y3 := Y2.below hb3
          clear hb3 X2 Y2
          rw [q1]
          obtain ⟨x0, x1, x2, x3, x4⟩ := id X3
          obtain ⟨y0, y1, y2, y3, y4⟩ := id Y3
          go_wp2_with fail
          refine (cLeads ⟨ae, ad, bf, bt, bp⟩ ⟨ae, ad, af, at_, ap⟩ h _ ib hh').mono ?_
          rintro e w4 ⟨rfl, hb4⟩
          have HB4 := btrans HB3 hb4
          have X4 := X3.below hb4
          have Y4 := Y3.below hb4
          clear hb4 X3 Y3
          rw [q2]
          obtain ⟨x0, x1, x2, x3, x4⟩ := id X4
          obtain ⟨y0, y1, y2, y3, y4⟩ := id Y4
          go_wp2
          go_ret
          exact ⟨ret_bool R.out.symm, HB4⟩
      · rw [q1] at R
        have X0 := (Bx5.new w (.int .i64 ae) (.int .i64 ad) (.int .i64 af) (.int .i64 at_) (.int .i64 ap) 98).below (balloc _ (.cells #[.int .i64 ae, .int .i64 ad, .int .i64 bf, .int .i64 bt, .int .i64 bp] 98))
        have Y0 := Bx5.new1 w (.cells #[.int .i64 ae, .int .i64 ad, .int .i64 af, .int .i64 at_, .int .i64 ap] 98) (.int .i64 ae) (.int .i64 ad) (.int .i64 bf) (.int .i64 bt) (.int .i64 bp) 98
        go_enter Tryz.func89, Tryz.ntmps89
        go_wp2_with fail
        refine (cUseI ⟨ae, ad, af, at_, ap⟩ _).mono ?_
        rintro e w1 ⟨rfl, hb1⟩
        have HB1 := btrans hW hb1
        have X1 := X0.below hb1
        have Y1 := Y0.below hb1
        clear hb1 X0 Y0
        rw [ha]
        obtain ⟨x0, x1, x2, x3, x4⟩ := id X1
        obtain ⟨y0, y1, y2, y3, y4⟩ := id Y1
        go_wp2_with fail
        refine (cUseI ⟨ae, ad, bf, bt, bp⟩ _).mono ?_
        rintro e w2 ⟨rfl, hb2⟩
        have HB2 := btrans HB1 hb2
        have X2 := X1.below hb2
        have Y2 := Y1.below hb2
        clear hb2 X1 Y1
        rw [hb]
        obtain ⟨x0, x1, x2, x3, x4⟩ := id X2
        obtain ⟨y0, y1, y2, y3, y4⟩ := id Y2
        go_wp2_with (go_at_call 36; refine (cHeadOk _ _).mono ?_; rintro e w' ⟨rfl, rfl⟩)
        refine (cLeads ⟨ae, ad, af, at_, ap⟩ ⟨ae, ad, bf, bt, bp⟩ h _ ia hh').mono ?_
        rintro e w3 ⟨rfl, hb3⟩
        have HB3 := btrans HB2 hb3
        have X3 := X2.below hb3
        have Y3 := Y2.below hb3
        clear hb3 X2 Y2
        rw [q1]
        obtain ⟨x0, x1, x2, x3, x4⟩ := id X3
        obtain ⟨y0, y1, y2, y3, y4⟩ := id Y3
        go_wp2
        go_ret
        exact ⟨ret_bool R.out.symm, HB3⟩
    · have R := hide (cB_ne (a := ⟨ae, ad, af, at_, ap⟩) (b := ⟨be, bd, bf, bt, bp⟩) (h := h) ha hb hh he hd)
      subst he
      have R2 : Hid (clashB ⟨ae, ad, af, at_, ap⟩ ⟨ae, bd, bf, bt, bp⟩ h = (decide (af < bt) && decide (bf < at_))) := R
      clear R
      by_cases q1 : af < bt
      · by_cases q2 : bf < at_
        · have Z := hide (show clashB ⟨ae, ad, af, at_, ap⟩ ⟨ae, bd, bf, bt, bp⟩ h = true by rw [R2.out]; simp [q1, q2])
          have X0 := (Bx5.new w (.int .i64 ae) (.int .i64 ad) (.int .i64 af) (.int .i64 at_) (.int .i64 ap) 98).below (balloc _ (.cells #[.int .i64 ae, .int .i64 bd, .int .i64 bf, .int .i64 bt, .int .i64 bp] 98))
          have Y0 := Bx5.new1 w (.cells #[.int .i64 ae, .int .i64 ad, .int .i64 af, .int .i64 at_, .int .i64 ap] 98) (.int .i64 ae) (.int .i64 bd) (.int .i64 bf) (.int .i64 bt) (.int .i64 bp) 98
          go_enter Tryz.func89, Tryz.ntmps89
          go_wp2_with fail
          refine (cUseI ⟨ae, ad, af, at_, ap⟩ _).mono ?_
          rintro e w1 ⟨rfl, hb1⟩
          have HB1 := btrans hW hb1
          have X1 := X0.below hb1
          have Y1 := Y0.below hb1
          clear hb1 X0 Y0
          rw [ha]
          obtain ⟨x0, x1, x2, x3, x4⟩ := id X1
          obtain ⟨y0, y1, y2, y3, y4⟩ := id Y1
          go_wp2_with fail
          refine (cUseI ⟨ae, bd, bf, bt, bp⟩ _).mono ?_
          rintro e w2 ⟨rfl, hb2⟩
          have HB2 := btrans HB1 hb2
          have X2 := X1.below hb2
          have Y2 := Y1.below hb2
          clear hb2 X1 Y1
          rw [hb]
          obtain ⟨x0, x1, x2, x3, x4⟩ := id X2
          obtain ⟨y0, y1, y2, y3, y4⟩ := id Y2
          go_wp2_with (go_at_call 36; refine (cHeadOk _ _).mono ?_; rintro e w' ⟨rfl, rfl⟩)
          go_ret
          first | exact ⟨ret_bool Z.out.symm, HB2⟩ | exact ⟨ret_bool (by rw [Z.out]; simp; omega), HB2⟩ | exact ⟨ret_bool (by rw [Z.out]; simp), HB2⟩
        · have Z := hide (show clashB ⟨ae, ad, af, at_, ap⟩ ⟨ae, bd, bf, bt, bp⟩ h = false by rw [R2.out]; simp [q2])
          have X0 := (Bx5.new w (.int .i64 ae) (.int .i64 ad) (.int .i64 af) (.int .i64 at_) (.int .i64 ap) 98).below (balloc _ (.cells #[.int .i64 ae, .int .i64 bd, .int .i64 bf, .int .i64 bt, .int .i64 bp] 98))
          have Y0 := Bx5.new1 w (.cells #[.int .i64 ae, .int .i64 ad, .int .i64 af, .int .i64 at_, .int .i64 ap] 98) (.int .i64 ae) (.int .i64 bd) (.int .i64 bf) (.int .i64 bt) (.int .i64 bp) 98
          go_enter Tryz.func89, Tryz.ntmps89
          go_wp2_with fail
          refine (cUseI ⟨ae, ad, af, at_, ap⟩ _).mono ?_
          rintro e w1 ⟨rfl, hb1⟩
          have HB1 := btrans hW hb1
          have X1 := X0.below hb1
          have Y1 := Y0.below hb1
          clear hb1 X0 Y0
          rw [ha]
          obtain ⟨x0, x1, x2, x3, x4⟩ := id X1
          obtain ⟨y0, y1, y2, y3, y4⟩ := id Y1
          go_wp2_with fail
          refine (cUseI ⟨ae, bd, bf, bt, bp⟩ _).mono ?_
          rintro e w2 ⟨rfl, hb2⟩
          have HB2 := btrans HB1 hb2
          have X2 := X1.below hb2
          have Y2 := Y1.below hb2
          clear hb2 X1 Y1
          rw [hb]
          obtain ⟨x0, x1, x2, x3, x4⟩ := id X2
          obtain ⟨y0, y1, y2, y3, y4⟩ := id Y2
          go_wp2_with (go_at_call 36; refine (cHeadOk _ _).mono ?_; rintro e w' ⟨rfl, rfl⟩)
          go_ret
          first | exact ⟨ret_bool Z.out.symm, HB2⟩ | exact ⟨ret_bool (by rw [Z.out]; simp; omega), HB2⟩ | exact ⟨ret_bool (by rw [Z.out]; simp), HB2⟩
      · have Z := hide (show clashB ⟨ae, ad, af, at_, ap⟩ ⟨ae, bd, bf, bt, bp⟩ h = false by rw [R2.out]; simp [q1])
        have X0 := (Bx5.new w (.int .i64 ae) (.int .i64 ad) (.int .i64 af) (.int .i64 at_) (.int .i64 ap) 98).below (balloc _ (.cells #[.int .i64 ae, .int .i64 bd, .int .i64 bf, .int .i64 bt, .int .i64 bp] 98))
        have Y0 := Bx5.new1 w (.cells #[.int .i64 ae, .int .i64 ad, .int .i64 af, .int .i64 at_, .int .i64 ap] 98) (.int .i64 ae) (.int .i64 bd) (.int .i64 bf) (.int .i64 bt) (.int .i64 bp) 98
        go_enter Tryz.func89, Tryz.ntmps89
        go_wp2_with fail
        refine (cUseI ⟨ae, ad, af, at_, ap⟩ _).mono ?_
        rintro e w1 ⟨rfl, hb1⟩
        have HB1 := btrans hW hb1
        have X1 := X0.below hb1
        have Y1 := Y0.below hb1
        clear hb1 X0 Y0
        rw [ha]
        obtain ⟨x0, x1, x2, x3, x4⟩ := id X1
        obtain ⟨y0, y1, y2, y3, y4⟩ := id Y1
        go_wp2_with fail
        refine (cUseI ⟨ae, bd, bf, bt, bp⟩ _).mono ?_
        rintro e w2 ⟨rfl, hb2⟩
        have HB2 := btrans HB1 hb2
        have X2 := X1.below hb2
        have Y2 := Y1.below hb2
        clear hb2 X1 Y1
        rw [hb]
        obtain ⟨x0, x1, x2, x3, x4⟩ := id X2
        obtain ⟨y0, y1, y2, y3, y4⟩ := id Y2
        go_wp2_with (go_at_call 36; refine (cHeadOk _ _).mono ?_; rintro e w' ⟨rfl, rfl⟩)
        go_ret
        first | exact ⟨ret_bool Z.out.symm, HB2⟩ | exact ⟨ret_bool (by rw [Z.out]; simp; omega), HB2⟩ | exact ⟨ret_bool (by rw [Z.out]; simp), HB2⟩
  · have R := hide (cB_e (a := ⟨ae, ad, af, at_, ap⟩) (b := ⟨be, bd, bf, bt, bp⟩) (h := h) he)
    have X0 := (Bx5.new w (.int .i64 ae) (.int .i64 ad) (.int .i64 af) (.int .i64 at_) (.int .i64 ap) 98).below (balloc _ (.cells #[.int .i64 be, .int .i64 bd, .int .i64 bf, .int .i64 bt, .int .i64 bp] 98))
    have Y0 := Bx5.new1 w (.cells #[.int .i64 ae, .int .i64 ad, .int .i64 af, .int .i64 at_, .int .i64 ap] 98) (.int .i64 be) (.int .i64 bd) (.int .i64 bf) (.int .i64 bt) (.int .i64 bp) 98
    go_enter Tryz.func89, Tryz.ntmps89
    go_wp2_with fail
    refine (cUseI ⟨ae, ad, af, at_, ap⟩ _).mono ?_
    rintro e w1 ⟨rfl, hb1⟩
    have HB1 := btrans hW hb1
    have X1 := X0.below hb1
    have Y1 := Y0.below hb1
    clear hb1 X0 Y0
    rw [ha]
    obtain ⟨x0, x1, x2, x3, x4⟩ := id X1
    obtain ⟨y0, y1, y2, y3, y4⟩ := id Y1
    go_wp2_with fail
    refine (cUseI ⟨be, bd, bf, bt, bp⟩ _).mono ?_
    rintro e w2 ⟨rfl, hb2⟩
    have HB2 := btrans HB1 hb2
    have X2 := X1.below hb2
    have Y2 := Y1.below hb2
    clear hb2 X1 Y1
    rw [hb]
    obtain ⟨x0, x1, x2, x3, x4⟩ := id X2
    obtain ⟨y0, y1, y2, y3, y4⟩ := id Y2
    go_wp2_with (go_at_call 36; refine (cHeadOk _ _).mono ?_; rintro e w' ⟨rfl, rfl⟩)
    go_ret
    exact ⟨ret_bool R.out.symm, HB2⟩
end Go.Proofs.YtbghfihlpbcomaaGreat
