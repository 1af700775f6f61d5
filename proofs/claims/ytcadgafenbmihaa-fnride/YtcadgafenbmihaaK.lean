/- Pull: one step, of both texts. -/
import Derived.Test.YtcadgafenbmihaaJ2
namespace Go.Proofs.Ytcadgafenbmihaa
open Go.RowKit Fl

attribute [local go_sem] run_store_float

theorem pull_no {l : LocoV} {es : List CarV} {v sl sp : Nat} (h : (locoOk l && trainOk es && spd v && slp sl && spn sp) = false) : pull l es v sl sp = 0 := by
  unfold pull; rw [h]; rfl
theorem pull_yes {l : LocoV} {es : List CarV} {v sl sp : Nat} (h1 : locoOk l = true) (h2 : trainOk es = true) (h3 : spd v = true) (h4 : slp sl = true) (h5 : spn sp = true) : pull l es v sl sp = held (next l es v sl sp) := by
  unfold pull; rw [h1, h2, h3, h4, h5]; rfl

set_option maxHeartbeats 3200000 in
theorem c35 (l : LocoV) (a : Option Addr) (cap v sl sp : Nat) (es : List CarV) (w : World) (he : Cars w a es) (hl : es.length ≤ 1048576) (h64 : ∀ c ∈ es, c.m < 2 ^ 64) : Calls Try.prog 35 #[LocoV.val l, .slice a es.length cap, .float .f64 v, .float .f64 sl, .float .f64 sp] w fun e w' => e = .returned (.float .f64 (pull l es v sl sp)) ∧ Below w.heap.size w w' := by
  obtain ⟨p, g⟩ := l
  unfold LocoV.val
  have hW := balloc w (.cells #[.float .f64 p, .float .f64 g] 33)
  cases h1 : locoOk ⟨p, g⟩
  · have R := hide (pull_no (l := ⟨p, g⟩) (es := es) (v := v) (sl := sl) (sp := sp) (by simp [h1]))
    generalize pull ⟨p, g⟩ es v sl sp = r at *
    go_enter Try.func35, Try.ntmps35
    go_wp2_with fail
    refine (c20 ⟨p, g⟩ _).mono ?_
    rintro e w1 ⟨rfl, hb⟩
    rw [h1]
    have HB1 := btrans hW hb
    have X1 := Bx2.mk hb
    clear hb hW
    go_wp2
    go_ret
    exact ⟨ret_fl R.out.symm, HB1⟩
  cases h2 : trainOk es
  · have R := hide (pull_no (l := ⟨p, g⟩) (es := es) (v := v) (sl := sl) (sp := sp) (by simp [h1, h2]))
    generalize pull ⟨p, g⟩ es v sl sp = r at *
    go_enter Try.func35, Try.ntmps35
    go_wp2_with fail
    refine (c20 ⟨p, g⟩ _).mono ?_
    rintro e w1 ⟨rfl, hb⟩
    rw [h1]
    have HB1 := btrans hW hb
    have X1 := Bx2.mk hb
    clear hb hW
    go_wp2_with fail
    refine (c55 a cap es _ (he.below HB1) hl).mono ?_
    rintro e w2 ⟨rfl, hb⟩
    rw [h2]
    have HB2 := btrans HB1 hb
    have X2 := X1.below hb
    clear hb HB1 X1
    go_wp2
    go_ret
    exact ⟨ret_fl R.out.symm, HB2⟩
  cases h3 : spd v
  · have R := hide (pull_no (l := ⟨p, g⟩) (es := es) (v := v) (sl := sl) (sp := sp) (by simp [h1, h2, h3]))
    generalize pull ⟨p, g⟩ es v sl sp = r at *
    go_enter Try.func35, Try.ntmps35
    go_wp2_with fail
    refine (c20 ⟨p, g⟩ _).mono ?_
    rintro e w1 ⟨rfl, hb⟩
    rw [h1]
    have HB1 := btrans hW hb
    have X1 := Bx2.mk hb
    clear hb hW
    go_wp2_with fail
    refine (c55 a cap es _ (he.below HB1) hl).mono ?_
    rintro e w2 ⟨rfl, hb⟩
    rw [h2]
    have HB2 := btrans HB1 hb
    have X2 := X1.below hb
    clear hb HB1 X1
    go_wp2_with fail
    refine (c52 _ _).mono ?_
    rintro e w3 ⟨rfl, hw⟩
    subst hw
    rw [h3]
    go_wp2
    go_ret
    exact ⟨ret_fl R.out.symm, HB2⟩
  cases h4 : slp sl
  · have R := hide (pull_no (l := ⟨p, g⟩) (es := es) (v := v) (sl := sl) (sp := sp) (by simp [h1, h2, h3, h4]))
    generalize pull ⟨p, g⟩ es v sl sp = r at *
    go_enter Try.func35, Try.ntmps35
    go_wp2_with fail
    refine (c20 ⟨p, g⟩ _).mono ?_
    rintro e w1 ⟨rfl, hb⟩
    rw [h1]
    have HB1 := btrans hW hb
    have X1 := Bx2.mk hb
    clear hb hW
    go_wp2_with fail
    refine (c55 a cap es _ (he.below HB1) hl).mono ?_
    rintro e w2 ⟨rfl, hb⟩
    rw [h2]
    have HB2 := btrans HB1 hb
    have X2 := X1.below hb
    clear hb HB1 X1
    go_wp2_with fail
    refine (c52 _ _).mono ?_
    rintro e w3 ⟨rfl, hw⟩
    subst hw
    rw [h3]
    go_wp2_with fail
    refine (c15 sl km1 k1 _).mono ?_
    rintro e w3 ⟨rfl, hw⟩
    subst hw
    rw [show inR sl km1 k1 = _ from h4]
    go_wp2
    go_ret
    exact ⟨ret_fl R.out.symm, HB2⟩
  cases h5 : spn sp
  · have R := hide (pull_no (l := ⟨p, g⟩) (es := es) (v := v) (sl := sl) (sp := sp) (by simp [h1, h2, h3, h4, h5]))
    generalize pull ⟨p, g⟩ es v sl sp = r at *
    go_enter Try.func35, Try.ntmps35
    go_wp2_with fail
    refine (c20 ⟨p, g⟩ _).mono ?_
    rintro e w1 ⟨rfl, hb⟩
    rw [h1]
    have HB1 := btrans hW hb
    have X1 := Bx2.mk hb
    clear hb hW
    go_wp2_with fail
    refine (c55 a cap es _ (he.below HB1) hl).mono ?_
    rintro e w2 ⟨rfl, hb⟩
    rw [h2]
    have HB2 := btrans HB1 hb
    have X2 := X1.below hb
    clear hb HB1 X1
    go_wp2_with fail
    refine (c52 _ _).mono ?_
    rintro e w3 ⟨rfl, hw⟩
    subst hw
    rw [h3]
    go_wp2_with fail
    refine (c15 sl km1 k1 _).mono ?_
    rintro e w3 ⟨rfl, hw⟩
    subst hw
    rw [show inR sl km1 k1 = _ from h4]
    go_wp2_with fail
    refine (c15 sp 0 k10 _).mono ?_
    rintro e w3 ⟨rfl, hw⟩
    subst hw
    rw [show inR sp 0 k10 = _ from h5]
    go_wp2
    go_ret
    exact ⟨ret_fl R.out.symm, HB2⟩
  obtain ⟨u1, u2, u3, u4, u5, -, -⟩ := next_v (l := ⟨p, g⟩) (sl := sl) h2 h3 h5
  have R0 := hide ((pull_yes (l := ⟨p, g⟩) h1 h2 h3 h4 h5).trans (held_eq (u5.fin (by decide))))
  clear u5
  have o1 := fop u1
  have o2 := fop u2
  have o3 := fop u3
  have o4 := fop u4
  clear u1 u2 u3 u4
  generalize pull ⟨p, g⟩ es v sl sp = r at *
  generalize next ⟨p, g⟩ es v sl sp = s4 at *
  generalize fmul (accel ⟨p, g⟩ es v sl) sp = s3 at *
  generalize accel ⟨p, g⟩ es v sl = s2 at *
  generalize fsub (effort ⟨p, g⟩ v) (drag es v sl) = s1 at *
  have E1 : Hid (fgt s4 0 = (FloatKind.f64.format.order s4 0 == some .gt)) := rfl
  have E2 : Hid (fgt s4 k200 = (FloatKind.f64.format.order s4 k200 == some .gt)) := rfl
  go_enter Try.func35, Try.ntmps35
  go_wp2_with fail
  refine (c20 ⟨p, g⟩ _).mono ?_
  rintro e w1 ⟨rfl, hb⟩
  rw [h1]
  have HB1 := btrans hW hb
  have X1 := Bx2.mk hb
  clear hb hW
  go_wp2_with fail
  refine (c55 a cap es _ (he.below HB1) hl).mono ?_
  rintro e w2 ⟨rfl, hb⟩
  rw [h2]
  have HB2 := btrans HB1 hb
  have X2 := X1.below hb
  clear hb HB1 X1
  go_wp2_with fail
  refine (c52 _ _).mono ?_
  rintro e w3 ⟨rfl, hw⟩
  subst hw
  rw [h3]
  go_wp2_with fail
  refine (c15 sl km1 k1 _).mono ?_
  rintro e w3 ⟨rfl, hw⟩
  subst hw
  rw [show inR sl km1 k1 = _ from h4]
  go_wp2_with fail
  refine (c15 sp 0 k10 _).mono ?_
  rintro e w3 ⟨rfl, hw⟩
  subst hw
  rw [show inR sp 0 k10 = _ from h5]
  obtain ⟨b0, b1⟩ := X2
  dsimp only at b0 b1
  go_wp2_with fail
  refine (c26 ⟨p, g⟩ v _).mono ?_
  rintro e w4 ⟨rfl, hb⟩
  have HB4 := btrans HB2 hb
  clear hb HB2 b0 b1
  go_wp2_with fail
  refine (c33 a cap es v sl _ (he.below HB4) hl).mono ?_
  rintro e w5 ⟨rfl, hb⟩
  have HB5 := btrans HB4 hb
  clear hb HB4
  go_wp2_with fail
  refine (c29 a cap es _ (he.below HB5) hl h64).mono ?_
  rintro e w6 ⟨rfl, hb⟩
  have HB6 := btrans HB5 hb
  clear hb HB5
  generalize effort ⟨p, g⟩ v = ef at *
  generalize drag es v sl = dr at *
  generalize weigh es = we at *
  by_cases q1 : FloatKind.f64.format.order s4 0 = some .gt
  · rw [E1.out, q1] at R0
    by_cases q2 : FloatKind.f64.format.order s4 k200 = some .gt
    · have R : Hid (r = k200) := by rw [E2.out, q2] at R0; exact R0
      clear R0 E1 E2
      go_wp2
      go_ret
      exact ⟨ret_fl R.out.symm, HB6⟩
    · have q2' : (FloatKind.f64.format.order s4 k200 == some .gt) = false := by simpa using q2
      have R : Hid (r = s4) := by rw [E2.out, q2'] at R0; exact R0
      clear R0 E1 E2 q2
      go_wp2
      go_ret
      exact ⟨ret_fl R.out.symm, HB6⟩
  · have q1' : (FloatKind.f64.format.order s4 0 == some .gt) = false := by simpa using q1
    have R : Hid (r = 0) := by rw [E1.out, q1'] at R0; exact R0
    clear R0 E1 E2 q1
    go_wp2
    go_ret
    exact ⟨ret_fl R.out.symm, HB6⟩

set_option maxHeartbeats 3200000 in
theorem c36 (l : LocoV) (a : Option Addr) (cap v sl sp : Nat) (es : List CarV) (w : World) (he : Cars w a es) (hl : es.length ≤ 1048576) : Calls Try.prog 36 #[LocoV.val l, .slice a es.length cap, .float .f64 v, .float .f64 sl, .float .f64 sp] w fun e w' => e = .returned (.float .f64 (pull l es v sl sp)) ∧ Below w.heap.size w w' := by
  obtain ⟨p, g⟩ := l
  unfold LocoV.val
  have hW := balloc w (.cells #[.float .f64 p, .float .f64 g] 33)
  cases h1 : locoOk ⟨p, g⟩
  · have R := hide (pull_no (l := ⟨p, g⟩) (es := es) (v := v) (sl := sl) (sp := sp) (by simp [h1]))
    generalize pull ⟨p, g⟩ es v sl sp = r at *
    go_enter Try.func36, Try.ntmps36
    go_wp2_with fail
    refine (c22 ⟨p, g⟩ _).mono ?_
    rintro e w1 ⟨rfl, hb⟩
    rw [h1]
    have HB1 := btrans hW hb
    have X1 := Bx2.mk hb
    clear hb hW
    go_wp2
    go_ret
    exact ⟨ret_fl R.out.symm, HB1⟩
  cases h2 : trainOk es
  · have R := hide (pull_no (l := ⟨p, g⟩) (es := es) (v := v) (sl := sl) (sp := sp) (by simp [h1, h2]))
    generalize pull ⟨p, g⟩ es v sl sp = r at *
    go_enter Try.func36, Try.ntmps36
    go_wp2_with fail
    refine (c22 ⟨p, g⟩ _).mono ?_
    rintro e w1 ⟨rfl, hb⟩
    rw [h1]
    have HB1 := btrans hW hb
    have X1 := Bx2.mk hb
    clear hb hW
    go_wp2_with fail
    refine (c56 a cap es _ (he.below HB1) hl).mono ?_
    rintro e w2 ⟨rfl, hb⟩
    rw [h2]
    have HB2 := btrans HB1 hb
    have X2 := X1.below hb
    clear hb HB1 X1
    go_wp2
    go_ret
    exact ⟨ret_fl R.out.symm, HB2⟩
  cases h3 : spd v
  · have R := hide (pull_no (l := ⟨p, g⟩) (es := es) (v := v) (sl := sl) (sp := sp) (by simp [h1, h2, h3]))
    generalize pull ⟨p, g⟩ es v sl sp = r at *
    go_enter Try.func36, Try.ntmps36
    go_wp2_with fail
    refine (c22 ⟨p, g⟩ _).mono ?_
    rintro e w1 ⟨rfl, hb⟩
    rw [h1]
    have HB1 := btrans hW hb
    have X1 := Bx2.mk hb
    clear hb hW
    go_wp2_with fail
    refine (c56 a cap es _ (he.below HB1) hl).mono ?_
    rintro e w2 ⟨rfl, hb⟩
    rw [h2]
    have HB2 := btrans HB1 hb
    have X2 := X1.below hb
    clear hb HB1 X1
    go_wp2_with fail
    refine (c53 _ _).mono ?_
    rintro e w3 ⟨rfl, hw⟩
    subst hw
    rw [h3]
    go_wp2
    go_ret
    exact ⟨ret_fl R.out.symm, HB2⟩
  cases h4 : slp sl
  · have R := hide (pull_no (l := ⟨p, g⟩) (es := es) (v := v) (sl := sl) (sp := sp) (by simp [h1, h2, h3, h4]))
    generalize pull ⟨p, g⟩ es v sl sp = r at *
    go_enter Try.func36, Try.ntmps36
    go_wp2_with fail
    refine (c22 ⟨p, g⟩ _).mono ?_
    rintro e w1 ⟨rfl, hb⟩
    rw [h1]
    have HB1 := btrans hW hb
    have X1 := Bx2.mk hb
    clear hb hW
    go_wp2_with fail
    refine (c56 a cap es _ (he.below HB1) hl).mono ?_
    rintro e w2 ⟨rfl, hb⟩
    rw [h2]
    have HB2 := btrans HB1 hb
    have X2 := X1.below hb
    clear hb HB1 X1
    go_wp2_with fail
    refine (c53 _ _).mono ?_
    rintro e w3 ⟨rfl, hw⟩
    subst hw
    rw [h3]
    go_wp2_with fail
    refine (c58 _ _).mono ?_
    rintro e w3 ⟨rfl, hw⟩
    subst hw
    rw [h4]
    go_wp2
    go_ret
    exact ⟨ret_fl R.out.symm, HB2⟩
  cases h5 : spn sp
  · have R := hide (pull_no (l := ⟨p, g⟩) (es := es) (v := v) (sl := sl) (sp := sp) (by simp [h1, h2, h3, h4, h5]))
    generalize pull ⟨p, g⟩ es v sl sp = r at *
    go_enter Try.func36, Try.ntmps36
    go_wp2_with fail
    refine (c22 ⟨p, g⟩ _).mono ?_
    rintro e w1 ⟨rfl, hb⟩
    rw [h1]
    have HB1 := btrans hW hb
    have X1 := Bx2.mk hb
    clear hb hW
    go_wp2_with fail
    refine (c56 a cap es _ (he.below HB1) hl).mono ?_
    rintro e w2 ⟨rfl, hb⟩
    rw [h2]
    have HB2 := btrans HB1 hb
    have X2 := X1.below hb
    clear hb HB1 X1
    go_wp2_with fail
    refine (c53 _ _).mono ?_
    rintro e w3 ⟨rfl, hw⟩
    subst hw
    rw [h3]
    go_wp2_with fail
    refine (c58 _ _).mono ?_
    rintro e w3 ⟨rfl, hw⟩
    subst hw
    rw [h4]
    go_wp2_with fail
    refine (c59 _ _).mono ?_
    rintro e w3 ⟨rfl, hw⟩
    subst hw
    rw [h5]
    go_wp2
    go_ret
    exact ⟨ret_fl R.out.symm, HB2⟩
  have R := hide (pull_yes (l := ⟨p, g⟩) h1 h2 h3 h4 h5)
  generalize pull ⟨p, g⟩ es v sl sp = r at *
  go_enter Try.func36, Try.ntmps36
  go_wp2_with fail
  refine (c22 ⟨p, g⟩ _).mono ?_
  rintro e w1 ⟨rfl, hb⟩
  rw [h1]
  have HB1 := btrans hW hb
  have X1 := Bx2.mk hb
  clear hb hW
  go_wp2_with fail
  refine (c56 a cap es _ (he.below HB1) hl).mono ?_
  rintro e w2 ⟨rfl, hb⟩
  rw [h2]
  have HB2 := btrans HB1 hb
  have X2 := X1.below hb
  clear hb HB1 X1
  go_wp2_with fail
  refine (c53 _ _).mono ?_
  rintro e w3 ⟨rfl, hw⟩
  subst hw
  rw [h3]
  go_wp2_with fail
  refine (c58 _ _).mono ?_
  rintro e w3 ⟨rfl, hw⟩
  subst hw
  rw [h4]
  go_wp2_with fail
  refine (c59 _ _).mono ?_
  rintro e w3 ⟨rfl, hw⟩
  subst hw
  rw [h5]
  obtain ⟨b0, b1⟩ := X2
  dsimp only at b0 b1
  go_wp2_with fail
  refine (c60 ⟨p, g⟩ a cap v sp es _ (he.below HB2) hl).mono ?_
  rintro e w4 ⟨b, rfl, hge, hT, hb⟩
  have HB4 := btrans HB2 hb
  have hwb := Nat.le_trans HB2.size hge
  clear hb HB2 b0 b1 hge
  go_wp2_with fail
  refine (c61 b 0 0 v sp sl ⟨p, g⟩ a cap es _ hT (he.below HB4) hl h2 h3 h5).mono ?_
  rintro e w5 ⟨rfl, -, hgr⟩
  have HB5 : Below w.heap.size w w5 := HB4.grown hgr HB4.size (fun k hk => by cases hk; exact hwb)
  clear hgr HB4 hT
  go_wp2
  go_ret
  exact ⟨ret_fl R.out.symm, HB5⟩

end Go.Proofs.Ytcadgafenbmihaa
