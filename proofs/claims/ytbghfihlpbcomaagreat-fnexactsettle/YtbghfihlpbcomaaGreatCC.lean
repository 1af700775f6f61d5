/- Clash of the model. -/
import Derived.Test.YtbghfihlpbcomaaGreatCB
namespace Go.Proofs.YtbghfihlpbcomaaGreat
open Go.RowKit
set_option maxHeartbeats 3200000 in
theorem cClashS (a b : RideV) (h : Int) (w : World) : Calls Tryz.prog 97 #[a.val, b.val, .int .i64 h] w fun e w' => e = .returned (.bool (clashB a b h)) ∧ Below w.heap.size w w' := by
  obtain ⟨ae, ad, af, at_, ap⟩ := a
  obtain ⟨be, bd, bf, bt, bp⟩ := b
  unfold RideV.val
  have hW := btrans (balloc w (.cells #[.int .i64 ae, .int .i64 ad, .int .i64 af, .int .i64 at_, .int .i64 ap] 98)) (balloc _ (.cells #[.int .i64 be, .int .i64 bd, .int .i64 bf, .int .i64 bt, .int .i64 bp] 98))
  cases ha : rideB ⟨ae, ad, af, at_, ap⟩
  · have R := hide (cB_a (b := ⟨be, bd, bf, bt, bp⟩) (h := h) ha)
    have X0 := (Bx5.new w (.int .i64 ae) (.int .i64 ad) (.int .i64 af) (.int .i64 at_) (.int .i64 ap) 98).below (balloc _ (.cells #[.int .i64 be, .int .i64 bd, .int .i64 bf, .int .i64 bt, .int .i64 bp] 98))
    have Y0 := Bx5.new1 w (.cells #[.int .i64 ae, .int .i64 ad, .int .i64 af, .int .i64 at_, .int .i64 ap] 98) (.int .i64 be) (.int .i64 bd) (.int .i64 bf) (.int .i64 bt) (.int .i64 bp) 98
    go_enter Tryz.func97, Tryz.ntmps97
    go_wp2_with fail
    refine (cUseS ⟨ae, ad, af, at_, ap⟩ _).mono ?_
    rintro e w1 ⟨rfl, hb1⟩
    have HB1 := btrans hW hb1
    have X1 := X0.below hb1
    have Y1 := Y0.below hb1
    clear hb1 X0 Y0
    rw [ha]
    obtain ⟨x0, x1, x2, x3, x4⟩ := id X1
    obtain ⟨y0, y1, y2, y3, y4⟩ := id Y1
    go_wp2
    go_ret
    exact ⟨ret_bool R.out.symm, HB1⟩
  cases hb : rideB ⟨be, bd, bf, bt, bp⟩
  · have R := hide (cB_b (a := ⟨ae, ad, af, at_, ap⟩) (h := h) hb)
    have X0 := (Bx5.new w (.int .i64 ae) (.int .i64 ad) (.int .i64 af) (.int .i64 at_) (.int .i64 ap) 98).below (balloc _ (.cells #[.int .i64 be, .int .i64 bd, .int .i64 bf, .int .i64 bt, .int .i64 bp] 98))
    have Y0 := Bx5.new1 w (.cells #[.int .i64 ae, .int .i64 ad, .int .i64 af, .int .i64 at_, .int .i64 ap] 98) (.int .i64 be) (.int .i64 bd) (.int .i64 bf) (.int .i64 bt) (.int .i64 bp) 98
    go_enter Tryz.func97, Tryz.ntmps97
    go_wp2_with fail
    refine (cUseS ⟨ae, ad, af, at_, ap⟩ _).mono ?_
    rintro e w1 ⟨rfl, hb1⟩
    have HB1 := btrans hW hb1
    have X1 := X0.below hb1
    have Y1 := Y0.below hb1
    clear hb1 X0 Y0
    rw [ha]
    obtain ⟨x0, x1, x2, x3, x4⟩ := id X1
    obtain ⟨y0, y1, y2, y3, y4⟩ := id Y1
    go_wp2_with fail
    refine (cUseS ⟨be, bd, bf, bt, bp⟩ _).mono ?_
    rintro e w2 ⟨rfl, hb2⟩
    have HB2 := btrans HB1 hb2
    have X2 := X1.below hb2
    have Y2 := Y1.below hb2
    clear hb2 X1 Y1
    rw [hb]
    obtain ⟨x0, x1, x2, x3, x4⟩ := id X2
    obtain ⟨y0, y1, y2, y3, y4⟩ := id Y2
    go_wp2
    go_ret
    exact ⟨ret_bool R.out.symm, HB2⟩
  cases hh : inB h 0 60
  · have R := hide (cB_h (a := ⟨ae, ad, af, at_, ap⟩) (b := ⟨be, bd, bf, bt, bp⟩) hh)
    have X0 := (Bx5.new w (.int .i64 ae) (.int .i64 ad) (.int .i64 af) (.int .i64 at_) (.int .i64 ap) 98).below (balloc _ (.cells #[.int .i64 be, .int .i64 bd, .int .i64 bf, .int .i64 bt, .int .i64 bp] 98))
    have Y0 := Bx5.new1 w (.cells #[.int .i64 ae, .int .i64 ad, .int .i64 af, .int .i64 at_, .int .i64 ap] 98) (.int .i64 be) (.int .i64 bd) (.int .i64 bf) (.int .i64 bt) (.int .i64 bp) 98
    go_enter Tryz.func97, Tryz.ntmps97
    go_wp2_with fail
    refine (cUseS ⟨ae, ad, af, at_, ap⟩ _).mono ?_
    rintro e w1 ⟨rfl, hb1⟩
    have HB1 := btrans hW hb1
    have X1 := X0.below hb1
    have Y1 := Y0.below hb1
    clear hb1 X0 Y0
    rw [ha]
    obtain ⟨x0, x1, x2, x3, x4⟩ := id X1
    obtain ⟨y0, y1, y2, y3, y4⟩ := id Y1
    go_wp2_with fail
    refine (cUseS ⟨be, bd, bf, bt, bp⟩ _).mono ?_
    rintro e w2 ⟨rfl, hb2⟩
    have HB2 := btrans HB1 hb2
    have X2 := X1.below hb2
    have Y2 := Y1.below hb2
    clear hb2 X1 Y1
    rw [hb]
    obtain ⟨x0, x1, x2, x3, x4⟩ := id X2
    obtain ⟨y0, y1, y2, y3, y4⟩ := id Y2
    go_wp2_with (go_at_call 61; refine (cIn _ _ _ _).mono ?_; rintro e w' ⟨rfl, rfl⟩)
    go_ret
    exact ⟨ret_bool R.out.symm, HB2⟩
  have hh' := inB_true hh
  by_cases he : ae = be
  · by_cases hd : ad = bd
    · have R := hide (cB_eq (a := ⟨ae, ad, af, at_, ap⟩) (b := ⟨be, bd, bf, bt, bp⟩) (h := h) ha hb hh he hd)
      have ia := rideB_in ha
      have ib := rideB_in hb
      subst he hd
      obtain ⟨i1, i2, i3, i4⟩ := ia
      obtain ⟨j1, j2, j3, j4⟩ := ib
      obtain ⟨g1, g2⟩ := hh'
      simp only at i1 i2 i3 i4 j1 j2 j3 j4
      have v0 : IntKind.i64.wrap (af + h) = af + h := wrap_in _ (by omega) (by omega)
      have v1 : IntKind.i64.wrap (at_ + h) = at_ + h := wrap_in _ (by omega) (by omega)
      have v2 : IntKind.i64.wrap (bf + h) = bf + h := wrap_in _ (by omega) (by omega)
      have v3 : IntKind.i64.wrap (bt + h) = bt + h := wrap_in _ (by omega) (by omega)
      have E : Hid (clashB ⟨ae, ad, af, at_, ap⟩ ⟨ae, ad, bf, bt, bp⟩ h = (!(decide (af + h ≤ bf) && decide (at_ + h ≤ bt)) && !(decide (bf + h ≤ af) && decide (bt + h ≤ at_)))) := R
      by_cases q1 : af + h ≤ bf
      · by_cases q2 : at_ + h ≤ bt
        · by_cases q3 : bf + h ≤ af
          · by_cases q4 : bt + h ≤ at_
            · have Z := hide (show clashB ⟨ae, ad, af, at_, ap⟩ ⟨ae, ad, bf, bt, bp⟩ h = false by rw [E.out]; simp [q1, q2])
              have X0 := (Bx5.new w (.int .i64 ae) (.int .i64 ad) (.int .i64 af) (.int .i64 at_) (.int .i64 ap) 98).below (balloc _ (.cells #[.int .i64 ae, .int .i64 ad, .int .i64 bf, .int .i64 bt, .int .i64 bp] 98))
              have Y0 := Bx5.new1 w (.cells #[.int .i64 ae, .int .i64 ad, .int .i64 af, .int .i64 at_, .int .i64 ap] 98) (.int .i64 ae) (.int .i64 ad) (.int .i64 bf) (.int .i64 bt) (.int .i64 bp) 98
              go_enter Tryz.func97, Tryz.ntmps97
              go_wp2_with fail
              refine (cUseS ⟨ae, ad, af, at_, ap⟩ _).mono ?_
              rintro e w1 ⟨rfl, hb1⟩
              have HB1 := btrans hW hb1
              have X1 := X0.below hb1
              have Y1 := Y0.below hb1
              clear hb1 X0 Y0
              rw [ha]
              obtain ⟨x0, x1, x2, x3, x4⟩ := id X1
              obtain ⟨y0, y1, y2, y3, y4⟩ := id Y1
              go_wp2_with fail
              refine (cUseS ⟨ae, ad, bf, bt, bp⟩ _).mono ?_
              rintro e w2 ⟨rfl, hb2⟩
              have HB2 := btrans HB1 hb2
              have X2 := X1.below hb2
              have Y2 := Y1.below hb2
              clear hb2 X1 Y1
              rw [hb]
              obtain ⟨x0, x1, x2, x3, x4⟩ := id X2
              obtain ⟨y0, y1, y2, y3, y4⟩ := id Y2
              go_wp2_with (go_at_call 61; refine (cIn _ _ _ _).mono ?_; rintro e w' ⟨rfl, rfl⟩)
              go_ret
              first | exact ⟨ret_bool Z.out.symm, HB2⟩ | exact ⟨ret_bool (by rw [Z.out]; simp; omega), HB2⟩ | exact ⟨ret_bool (by rw [Z.out]; simp), HB2⟩
            · have Z := hide (show clashB ⟨ae, ad, af, at_, ap⟩ ⟨ae, ad, bf, bt, bp⟩ h = false by rw [E.out]; simp [q1, q2])
              have X0 := (Bx5.new w (.int .i64 ae) (.int .i64 ad) (.int .i64 af) (.int .i64 at_) (.int .i64 ap) 98).below (balloc _ (.cells #[.int .i64 ae, .int .i64 ad, .int .i64 bf, .int .i64 bt, .int .i64 bp] 98))
              have Y0 := Bx5.new1 w (.cells #[.int .i64 ae, .int .i64 ad, .int .i64 af, .int .i64 at_, .int .i64 ap] 98) (.int .i64 ae) (.int .i64 ad) (.int .i64 bf) (.int .i64 bt) (.int .i64 bp) 98
              go_enter Tryz.func97, Tryz.ntmps97
              go_wp2_with fail
              refine (cUseS ⟨ae, ad, af, at_, ap⟩ _).mono ?_
              rintro e w1 ⟨rfl, hb1⟩
              have HB1 := btrans hW hb1
              have X1 := X0.below hb1
              have Y1 := Y0.below hb1
              clear hb1 X0 Y0
              rw [ha]
              obtain ⟨x0, x1, x2, x3, x4⟩ := id X1
              obtain ⟨y0, y1, y2, y3, y4⟩ := id Y1
              go_wp2_with fail
              refine (cUseS ⟨ae, ad, bf, bt, bp⟩ _).mono ?_
              rintro e w2 ⟨rfl, hb2⟩
              have HB2 := btrans HB1 hb2
              have X2 := X1.below hb2
              have Y2 := Y1.below hb2
              clear hb2 X1 Y1
              rw [hb]
              obtain ⟨x0, x1, x2, x3, x4⟩ := id X2
              obtain ⟨y0, y1, y2, y3, y4⟩ := id Y2
              go_wp2_with (go_at_call 61; refine (cIn _ _ _ _).mono ?_; rintro e w' ⟨rfl, rfl⟩)
              go_ret
              first | exact ⟨ret_bool Z.out.symm, HB2⟩ | exact ⟨ret_bool (by rw [Z.out]; simp; omega), HB2⟩ | exact ⟨ret_bool (by rw [Z.out]; simp), HB2⟩
          · have Z := hide (show clashB ⟨ae, ad, af, at_, ap⟩ ⟨ae, ad, bf, bt, bp⟩ h = false by rw [E.out]; simp [q1, q2])
            have X0 := (Bx5.new w (.int .i64 ae) (.int .i64 ad) (.int .i64 af) (.int .i64 at_) (.int .i64 ap) 98).below (balloc _ (.cells #[.int .i64 ae, .int .i64 ad, .int .i64 bf, .int .i64 bt, .int .i64 bp] 98))
            have Y0 := Bx5.new1 w (.cells #[.int .i64 ae, .int .i64 ad, .int .i64 af, .int .i64 at_, .int .i64 ap] 98) (.int .i64 ae) (.int .i64 ad) (.int .i64 bf) (.int .i64 bt) (.int .i64 bp) 98
            go_enter Tryz.func97, Tryz.ntmps97
            go_wp2_with fail
            refine (cUseS ⟨ae, ad, af, at_, ap⟩ _).mono ?_
            rintro e w1 ⟨rfl, hb1⟩
            have HB1 := btrans hW hb1
            have X1 := X0.below hb1
            have Y1 := Y0.below hb1
            clear hb1 X0 Y0
            rw [ha]
            obtain ⟨x0, x1, x2, x3, x4⟩ := id X1
            obtain ⟨y0, y1, y2, y3, y4⟩ := id Y1
            go_wp2_with fail
            refine (cUseS ⟨ae, ad, bf, bt, bp⟩ _).mono ?_
            rintro e w2 ⟨rfl, hb2⟩
            have HB2 := btrans HB1 hb2
            have X2 := X1.below hb2
            have Y2 := Y1.below hb2
            clear hb2 X1 Y1
            rw [hb]
            obtain ⟨x0, x1, x2, x3, x4⟩ := id X2
            obtain ⟨y0, y1, y2, y3, y4⟩ := id Y2
            go_wp2_with (go_at_call 61; refine (cIn _ _ _ _).mono ?_; rintro e w' ⟨rfl, rfl⟩)
            go_ret
            first | exact ⟨ret_bool Z.out.symm, HB2⟩ | exact ⟨ret_bool (by rw [Z.out]; simp; omega), HB2⟩ | exact ⟨ret_bool (by rw [Z.out]; simp), HB2⟩
        · by_cases q3 : bf + h ≤ af
          · by_cases q4 : bt + h ≤ at_
            · have Z := hide (show clashB ⟨ae, ad, af, at_, ap⟩ ⟨ae, ad, bf, bt, bp⟩ h = false by rw [E.out]; simp [q3, q4])
              have X0 := (Bx5.new w (.int .i64 ae) (.int .i64 ad) (.int .i64 af) (.int .i64 at_) (.int .i64 ap) 98).below (balloc _ (.cells #[.int .i64 ae, .int .i64 ad, .int .i64 bf, .int .i64 bt, .int .i64 bp] 98))
              have Y0 := Bx5.new1 w (.cells #[.int .i64 ae, .int .i64 ad, .int .i64 af, .int .i64 at_, .int .i64 ap] 98) (.int .i64 ae) (.int .i64 ad) (.int .i64 bf) (.int .i64 bt) (.int .i64 bp) 98
              go_enter Tryz.func97, Tryz.ntmps97
              go_wp2_with fail
              refine (cUseS ⟨ae, ad, af, at_, ap⟩ _).mono ?_
              rintro e w1 ⟨rfl, hb1⟩
              have HB1 := btrans hW hb1
              have X1 := X0.below hb1
              have Y1 := Y0.below hb1
              clear hb1 X0 Y0
              rw [ha]
              obtain ⟨x0, x1, x2, x3, x4⟩ := id X1
              obtain ⟨y0, y1, y2, y3, y4⟩ := id Y1
              go_wp2_with fail
              refine (cUseS ⟨ae, ad, bf, bt, bp⟩ _).mono ?_
              rintro e w2 ⟨rfl, hb2⟩
              have HB2 := btrans HB1 hb2
              have X2 := X1.below hb2
              have Y2 := Y1.below hb2
              clear hb2 X1 Y1
              rw [hb]
              obtain ⟨x0, x1, x2, x3, x4⟩ := id X2
              obtain ⟨y0, y1, y2, y3, y4⟩ := id Y2
              go_wp2_with (go_at_call 61; refine (cIn _ _ _ _).mono ?_; rintro e w' ⟨rfl, rfl⟩)
              go_ret
              first | exact ⟨ret_bool Z.out.symm, HB2⟩ | exact ⟨ret_bool (by rw [Z.out]; simp; omega), HB2⟩ | exact ⟨ret_bool (by rw [Z.out]; simp), HB2⟩
            · exfalso
              omega
          · have Z := hide (show clashB ⟨ae, ad, af, at_, ap⟩ ⟨ae, ad, bf, bt, bp⟩ h = true by rw [E.out]; simp [q2, q3])
            have X0 := (Bx5.new w (.int .i64 ae) (.int .i64 ad) (.int .i64 af) (.int .i64 at_) (.int .i64 ap) 98).below (balloc _ (.cells #[.int .i64 ae, .int .i64 ad, .int .i64 bf, .int .i64 bt, .int .i64 bp] 98))
            have Y0 := Bx5.new1 w (.cells #[.int .i64 ae, .int .i64 ad, .int .i64 af, .int .i64 at_, .int .i64 ap] 98) (.int .i64 ae) (.int .i64 ad) (.int .i64 bf) (.int .i64 bt) (.int .i64 bp) 98
            go_enter Tryz.func97, Tryz.ntmps97
            go_wp2_with fail
            refine (cUseS ⟨ae, ad, af, at_, ap⟩ _).mono ?_
            rintro e w1 ⟨rfl, hb1⟩
            have HB1 := btrans hW hb1
            have X1 := X0.below hb1
            have Y1 := Y0.below hb1
            clear hb1 X0 Y0
            rw [ha]
            obtain ⟨x0, x1, x2, x3, x4⟩ := id X1
            obtain ⟨y0, y1, y2, y3, y4⟩ := id Y1
            go_wp2_with fail
            refine (cUseS ⟨ae, ad, bf, bt, bp⟩ _).mono ?_
            rintro e w2 ⟨rfl, hb2⟩
            have HB2 := btrans HB1 hb2
            have X2 := X1.below hb2
            have Y2 := Y1.below hb2
            clear hb2 X1 Y1
            rw [hb]
            obtain ⟨x0, x1, x2, x3, x4⟩ := id X2
            obtain ⟨y0, y1, y2, y3, y4⟩ := id Y2
            go_wp2_with (go_at_call 61; refine (cIn _ _ _ _).mono ?_; rintro e w' ⟨rfl, rfl⟩)
            go_ret
            first | exact ⟨ret_bool Z.out.symm, HB2⟩ | exact ⟨ret_bool (by rw [Z.out]; simp; omega), HB2⟩ | exact ⟨ret_bool (by rw [Z.out]; simp), HB2⟩
      · by_cases q3 : bf + h ≤ af
        · by_cases q4 : bt + h ≤ at_
          · have Z := hide (show clashB ⟨ae, ad, af, at_, ap⟩ ⟨ae, ad, bf, bt, bp⟩ h = false by rw [E.out]; simp [q3, q4])
            have X0 := (Bx5.new w (.int .i64 ae) (.int .i64 ad) (.int .i64 af) (.int .i64 at_) (.int .i64 ap) 98).below (balloc _ (.cells #[.int .i64 ae, .int .i64 ad, .int .i64 bf, .int .i64 bt, .int .i64 bp] 98))
            have Y0 := Bx5.new1 w (.cells #[.int .i64 ae, .int .i64 ad, .int .i64 af, .int .i64 at_, .int .i64 ap] 98) (.int .i64 ae) (.int .i64 ad) (.int .i64 bf) (.int .i64 bt) (.int .i64 bp) 98
            go_enter Tryz.func97, Tryz.ntmps97
            go_wp2_with fail
            refine (cUseS ⟨ae, ad, af, at_, ap⟩ _).mono ?_
            rintro e w1 ⟨rfl, hb1⟩
            have HB1 := btrans hW hb1
            have X1 := X0.below hb1
            have Y1 := Y0.below hb1
            clear hb1 X0 Y0
            rw [ha]
            obtain ⟨x0, x1, x2, x3, x4⟩ := id X1
            obtain ⟨y0, y1, y2, y3, y4⟩ := id Y1
            go_wp2_with fail
            refine (cUseS ⟨ae, ad, bf, bt, bp⟩ _).mono ?_
            rintro e w2 ⟨rfl, hb2⟩
            have HB2 := btrans HB1 hb2
            have X2 := X1.below hb2
            have Y2 := Y1.below hb2
            clear hb2 X1 Y1
            rw [hb]
            obtain ⟨x0, x1, x2, x3, x4⟩ := id X2
            obtain ⟨y0, y1, y2, y3, y4⟩ := id Y2
            go_wp2_with (go_at_call 61; refine (cIn _ _ _ _).mono ?_; rintro e w' ⟨rfl, rfl⟩)
            go_ret
            first | exact ⟨ret_bool Z.out.symm, HB2⟩ | exact ⟨ret_bool (by rw [Z.out]; simp; omega), HB2⟩ | exact ⟨ret_bool (by rw [Z.out]; simp), HB2⟩
          · have Z := hide (show clashB ⟨ae, ad, af, at_, ap⟩ ⟨ae, ad, bf, bt, bp⟩ h = true by rw [E.out]; simp [q1, q4])
            have X0 := (Bx5.new w (.int .i64 ae) (.int .i64 ad) (.int .i64 af) (.int .i64 at_) (.int .i64 ap) 98).below (balloc _ (.cells #[.int .i64 ae, .int .i64 ad, .int .i64 bf, .int .i64 bt, .int .i64 bp] 98))
            have Y0 := Bx5.new1 w (.cells #[.int .i64 ae, .int .i64 ad, .int .i64 af, .int .i64 at_, .int .i64 ap] 98) (.int .i64 ae) (.int .i64 ad) (.int .i64 bf) (.int .i64 bt) (.int .i64 bp) 98
            go_enter Tryz.func97, Tryz.ntmps97
            go_wp2_with fail
            refine (cUseS ⟨ae, ad, af, at_, ap⟩ _).mono ?_
            rintro e w1 ⟨rfl, hb1⟩
            have HB1 := btrans hW hb1
            have X1 := X0.below hb1
            have Y1 := Y0.below hb1
            clear hb1 X0 Y0
            rw [ha]
            obtain ⟨x0, x1, x2, x3, x4⟩ := id X1
            obtain ⟨y0, y1, y2, y3, y4⟩ := id Y1
            go_wp2_with fail
            refine (cUseS ⟨ae, ad, bf, bt, bp⟩ _).mono ?_
            rintro e w2 ⟨rfl, hb2⟩
            have HB2 := btrans HB1 hb2
            have X2 := X1.below hb2
            have Y2 := Y1.below hb2
            clear hb2 X1 Y1
            rw [hb]
            obtain ⟨x0, x1, x2, x3, x4⟩ := id X2
            obtain ⟨y0, y1, y2, y3, y4⟩ := id Y2
            go_wp2_with (go_at_call 61; refine (cIn _ _ _ _).mono ?_; rintro e w' ⟨rfl, rfl⟩)
            go_ret
            first | exact ⟨ret_bool Z.out.symm, HB2⟩ | exact ⟨ret_bool (by rw [Z.out]; simp; omega), HB2⟩ | exact ⟨ret_bool (by rw [Z.out]; simp), HB2⟩
        · have Z := hide (show clashB ⟨ae, ad, af, at_, ap⟩ ⟨ae, ad, bf, bt, bp⟩ h = true by rw [E.out]; simp [q1, q3])
          have X0 := (Bx5.new w (.int .i64 ae) (.int .i64 ad) (.int .i64 af) (.int .i64 at_) (.int .i64 ap) 98).below (balloc _ (.cells #[.int .i64 ae, .int .i64 ad, .int .i64 bf, .int .i64 bt, .int .i64 bp] 98))
          have Y0 := Bx5.new1 w (.cells #[.int .i64 ae, .int .i64 ad, .int .i64 af, .int .i64 at_, .int .i64 ap] 98) (.int .i64 ae) (.int .i64 ad) (.int .i64 bf) (.int .i64 bt) (.int .i64 bp) 98
          go_enter Tryz.func97, Tryz.ntmps97
          go_wp2_with fail
          refine (cUseS ⟨ae, ad, af, at_, ap⟩ _).mono ?_
          rintro e w1 ⟨rfl, hb1⟩
          have HB1 := btrans hW hb1
          have X1 := X0.below hb1
          have Y1 := Y0.below hb1
          clear hb1 X0 Y0
          rw [ha]
          obtain ⟨x0, x1, x2, x3, x4⟩ := id X1
          obtain ⟨y0, y1, y2, y3, y4⟩ := id Y1
          go_wp2_with fail
          refine (cUseS ⟨ae, ad, bf, bt, bp⟩ _).mono ?_
          rintro e w2 ⟨rfl, hb2⟩
          have HB2 := btrans HB1 hb2
          have X2 := X1.below hb2
          have Y2 := Y1.below hb2
          clear hb2 X1 Y1
          rw [hb]
          obtain ⟨x0, x1, x2, x3, x4⟩ := id X2
          obtain ⟨y0, y1, y2, y3, y4⟩ := id Y2
          go_wp2_with (go_at_call 61; refine (cIn _ _ _ _).mono ?_; rintro e w' ⟨rfl, rfl⟩)
          go_ret
          first | exact ⟨ret_bool Z.out.symm, HB2⟩ | exact ⟨ret_bool (by rw [Z.out]; simp; omega), HB2⟩ | exact ⟨ret_bool (by rw [Z.out]; simp), HB2⟩
    · have R := hide (cB_ne (a := ⟨ae, ad, af, at_, ap⟩) (b := ⟨be, bd, bf, bt, bp⟩) (h := h) ha hb hh he hd)
      subst he
      have R2 : Hid (clashB ⟨ae, ad, af, at_, ap⟩ ⟨ae, bd, bf, bt, bp⟩ h = (decide (af < bt) && decide (bf < at_))) := R
      clear R
      by_cases q1 : af < bt
      · by_cases q2 : bf < at_
        · have Z := hide (show clashB ⟨ae, ad, af, at_, ap⟩ ⟨ae, bd, bf, bt, bp⟩ h = true by rw [R2.out]; simp [q1, q2])
          have X0 := (Bx5.new w (.int .i64 ae) (.int .i64 ad) (.int .i64 af) (.int .i64 at_) (.int .i64 ap) 98).below (balloc _ (.cells #[.int .i64 ae, .int .i64 bd, .int .i64 bf, .int .i64 bt, .int .i64 bp] 98))
          have Y0 := Bx5.new1 w (.cells #[.int .i64 ae, .int .i64 ad, .int .i64 af, .int .i64 at_, .int .i64 ap] 98) (.int .i64 ae) (.int .i64 bd) (.int .i64 bf) (.int .i64 bt) (.int .i64 bp) 98
          go_enter Tryz.func97, Tryz.ntmps97
          go_wp2_with fail
          refine (cUseS ⟨ae, ad, af, at_, ap⟩ _).mono ?_
          rintro e w1 ⟨rfl, hb1⟩
          have HB1 := btrans hW hb1
          have X1 := X0.below hb1
          have Y1 := Y0.below hb1
          clear hb1 X0 Y0
          rw [ha]
          obtain ⟨x0, x1, x2, x3, x4⟩ := id X1
          obtain ⟨y0, y1, y2, y3, y4⟩ := id Y1
          go_wp2_with fail
          refine (cUseS ⟨ae, bd, bf, bt, bp⟩ _).mono ?_
          rintro e w2 ⟨rfl, hb2⟩
          have HB2 := btrans HB1 hb2
          have X2 := X1.below hb2
          have Y2 := Y1.below hb2
          clear hb2 X1 Y1
          rw [hb]
          obtain ⟨x0, x1, x2, x3, x4⟩ := id X2
          obtain ⟨y0, y1, y2, y3, y4⟩ := id Y2
          go_wp2_with (go_at_call 61; refine (cIn _ _ _ _).mono ?_; rintro e w' ⟨rfl, rfl⟩)
          go_ret
          first | exact ⟨ret_bool Z.out.symm, HB2⟩ | exact ⟨ret_bool (by rw [Z.out]; simp; omega), HB2⟩ | exact ⟨ret_bool (by rw [Z.out]; simp), HB2⟩
        · have Z := hide (show clashB ⟨ae, ad, af, at_, ap⟩ ⟨ae, bd, bf, bt, bp⟩ h = false by rw [R2.out]; simp [q2])
          have X0 := (Bx5.new w (.int .i64 ae) (.int .i64 ad) (.int .i64 af) (.int .i64 at_) (.int .i64 ap) 98).below (balloc _ (.cells #[.int .i64 ae, .int .i64 bd, .int .i64 bf, .int .i64 bt, .int .i64 bp] 98))
          have Y0 := Bx5.new1 w (.cells #[.int .i64 ae, .int .i64 ad, .int .i64 af, .int .i64 at_, .int .i64 ap] 98) (.int .i64 ae) (.int .i64 bd) (.int .i64 bf) (.int .i64 bt) (.int .i64 bp) 98
          go_enter Tryz.func97, Tryz.ntmps97
          go_wp2_with fail
          refine (cUseS ⟨ae, ad, af, at_, ap⟩ _).mono ?_
          rintro e w1 ⟨rfl, hb1⟩
          have HB1 := btrans hW hb1
          have X1 := X0.below hb1
          have Y1 := Y0.below hb1
          clear hb1 X0 Y0
          rw [ha]
          obtain ⟨x0, x1, x2, x3, x4⟩ := id X1
          obtain ⟨y0, y1, y2, y3, y4⟩ := id Y1
          go_wp2_with fail
          refine (cUseS ⟨ae, bd, bf, bt, bp⟩ _).mono ?_
          rintro e w2 ⟨rfl, hb2⟩
          have HB2 := btrans HB1 hb2
          have X2 := X1.below hb2
          have Y2 := Y1.below hb2
          clear hb2 X1 Y1
          rw [hb]
          obtain ⟨x0, x1, x2, x3, x4⟩ := id X2
          obtain ⟨y0, y1, y2, y3, y4⟩ := id Y2
          go_wp2_with (go_at_call 61; refine (cIn _ _ _ _).mono ?_; rintro e w' ⟨rfl, rfl⟩)
          go_ret
          first | exact ⟨ret_bool Z.out.symm, HB2⟩ | exact ⟨ret_bool (by rw [Z.out]; simp; omega), HB2⟩ | exact ⟨ret_bool (by rw [Z.out]; simp), HB2⟩
      · have Z := hide (show clashB ⟨ae, ad, af, at_, ap⟩ ⟨ae, bd, bf, bt, bp⟩ h = false by rw [R2.out]; simp [q1])
        have X0 := (Bx5.new w (.int .i64 ae) (.int .i64 ad) (.int .i64 af) (.int .i64 at_) (.int .i64 ap) 98).below (balloc _ (.cells #[.int .i64 ae, .int .i64 bd, .int .i64 bf, .int .i64 bt, .int .i64 bp] 98))
        have Y0 := Bx5.new1 w (.cells #[.int .i64 ae, .int .i64 ad, .int .i64 af, .int .i64 at_, .int .i64 ap] 98) (.int .i64 ae) (.int .i64 bd) (.int .i64 bf) (.int .i64 bt) (.int .i64 bp) 98
        go_enter Tryz.func97, Tryz.ntmps97
        go_wp2_with fail
        refine (cUseS ⟨ae, ad, af, at_, ap⟩ _).mono ?_
        rintro e w1 ⟨rfl, hb1⟩
        have HB1 := btrans hW hb1
        have X1 := X0.below hb1
        have Y1 := Y0.below hb1
        clear hb1 X0 Y0
        rw [ha]
        obtain ⟨x0, x1, x2, x3, x4⟩ := id X1
        obtain ⟨y0, y1, y2, y3, y4⟩ := id Y1
        go_wp2_with fail
        refine (cUseS ⟨ae, bd, bf, bt, bp⟩ _).mono ?_
        rintro e w2 ⟨rfl, hb2⟩
        have HB2 := btrans HB1 hb2
        have X2 := X1.below hb2
        have Y2 := Y1.below hb2
        clear hb2 X1 Y1
        rw [hb]
        obtain ⟨x0, x1, x2, x3, x4⟩ := id X2
        obtain ⟨y0, y1, y2, y3, y4⟩ := id Y2
        go_wp2_with (go_at_call 61; refine (cIn _ _ _ _).mono ?_; rintro e w' ⟨rfl, rfl⟩)
        go_ret
        first | exact ⟨ret_bool Z.out.symm, HB2⟩ | exact ⟨ret_bool (by rw [Z.out]; simp; omega), HB2⟩ | exact ⟨ret_bool (by rw [Z.out]; simp), HB2⟩
  · have R := hide (cB_e (a := ⟨ae, ad, af, at_, ap⟩) (b := ⟨be, bd, bf, bt, bp⟩) (h := h) he)
    have X0 := (Bx5.new w (.int .i64 ae) (.int .i64 ad) (.int .i64 af) (.int .i64 at_) (.int .i64 ap) 98).below (balloc _ (.cells #[.int .i64 be, .int .i64 bd, .int .i64 bf, .int .i64 bt, .int .i64 bp] 98))
    have Y0 := Bx5.new1 w (.cells #[.int .i64 ae, .int .i64 ad, .int .i64 af, .int .i64 at_, .int .i64 ap] 98) (.int .i64 be) (.int .i64 bd) (.int .i64 bf) (.int .i64 bt) (.int .i64 bp) 98
    go_enter Tryz.func97, Tryz.ntmps97
    go_wp2_with fail
    refine (cUseS ⟨ae, ad, af, at_, ap⟩ _).mono ?_
    rintro e w1 ⟨rfl, hb1⟩
    have HB1 := btrans hW hb1
    have X1 := X0.below hb1
    have Y1 := Y0.below hb1
    clear hb1 X0 Y0
    rw [ha]
    obtain ⟨x0, x1, x2, x3, x4⟩ := id X1
    obtain ⟨y0, y1, y2, y3, y4⟩ := id Y1
    go_wp2_with fail
    refine (cUseS ⟨be, bd, bf, bt, bp⟩ _).mono ?_
    rintro e w2 ⟨rfl, hb2⟩
    have HB2 := btrans HB1 hb2
    have X2 := X1.below hb2
    have Y2 := Y1.below hb2
    clear hb2 X1 Y1
    rw [hb]
    obtain ⟨x0, x1, x2, x3, x4⟩ := id X2
    obtain ⟨y0, y1, y2, y3, y4⟩ := id Y2
    go_wp2_with (go_at_call 61; refine (cIn _ _ _ _).mono ?_; rintro e w' ⟨rfl, rfl⟩)
    go_ret
    exact ⟨ret_bool R.out.symm, HB2⟩
end Go.Proofs.YtbghfihlpbcomaaGreat
