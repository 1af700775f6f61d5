/- Draws: a car, a right locomotive with its cars, a speed and a span. -/
import Derived.Test.YtcadgafenbmihabDK
import Derived.Test.YtcadgafenbmihabDF
import Derived.Deep.RegionHeld3
namespace Go.Proofs.Ytcadgafenbmihab
open Go.RowKit Fl

attribute [local go_sem] run_store_float

abbrev k2 : Nat := 4611686018427387904
abbrev k4 : Nat := 4616189618054758400
abbrev k8 : Nat := 4620693217682128896
abbrev k256 : Nat := 4643211215818981376

theorem word_lt (s : Bool) {r : Nat} (h : r < 2 ^ 63) : Ieee.double.word s r < 2 ^ 64 := by
  unfold Ieee.Format.word; rw [signWeight_eq]; cases s <;> simp <;> omega
theorem quoN {n j b Y : Nat} (hn : n ≤ 2 ^ j) (hj : j ≤ 30) (hY : fin Y) (hYs : sg Y = false) (hYl : (1023 + b) * 2 ^ 52 ≤ rg Y) (hb : b ≤ 100) :
    floatBits .quo .f64 (floatOfInt .f64 (n : Int)) Y = some (fdiv (floatOfInt .f64 (n : Int)) Y) ∧ sg (fdiv (floatOfInt .f64 (n : Int)) Y) = false ∧ fdiv (floatOfInt .f64 (n : Int)) Y < 2 ^ 64 ∧ Bd (1023 + j - b) (fdiv (floatOfInt .f64 (n : Int)) Y) := by
  have h30 : 2 ^ j ≤ 2 ^ 30 := Nat.pow_le_pow_right (by decide) hj
  obtain ⟨c1, c2, c3, c4, c5⟩ := conv_nat n (by omega)
  have h0 : 0 < rg Y := by omega
  obtain ⟨q1, q2, q3, q4, q5⟩ := vquo c1 hY h0
  refine ⟨q1, by rw [q2, c2, hYs]; rfl, q3, ?_⟩
  refine q4 (1023 + j) b (by omega) (by omega) (P2_mg (c4 j (by omega) hn) (by omega)) ?_
  have := mg_P2 hYl (by omega)
  rwa [show 51 + (1023 + b) = 1074 + b by omega] at this

theorem car_m {n : Nat} (h : n < 400) : floatBits .quo .f64 (floatOfInt .f64 (n : Int)) k4 = some (fdiv (floatOfInt .f64 (n : Int)) k4) ∧
    floatBits .add .f64 k1 (fdiv (floatOfInt .f64 (n : Int)) k4) = some (fadd k1 (fdiv (floatOfInt .f64 (n : Int)) k4)) ∧ inR (fadd k1 (fdiv (floatOfInt .f64 (n : Int)) k4)) k1 k5000 = true ∧ fadd k1 (fdiv (floatOfInt .f64 (n : Int)) k4) < 2 ^ 64 := by
  obtain ⟨q1, q2, q3, q4⟩ := quoN (n := n) (j := 9) (b := 2) (Y := k4) (by omega) (by omega) (by unfold fin rg; decide) (by unfold sg; decide) (by unfold rg; decide) (by omega)
  generalize fdiv (floatOfInt .f64 (n : Int)) k4 = q at *
  have b1 : Bd 1030 k1 := by unfold Bd rg; decide
  obtain ⟨a1, a2, a3⟩ := vadd b1 (q4.mono (show 1023 + 9 - 2 ≤ 1030 by omega)) (by decide) (by decide)
  have hq : 0 ≤ fv q := by rw [fv_nn q2]; omega
  have hge : fv k1 ≤ fv (fadd k1 q) := by
    rw [a3]
    have := rv_mono (show fv k1 ≤ fv k1 + fv q by omega)
    rwa [rv_fv fin1] at this
  have hs : sg (fadd k1 q) = false := fv_pos (by have := one_pos; rw [fv1] at hge; omega)
  refine ⟨q1, a1, ?_, ?_⟩
  · have hf := a2.fin (by decide)
    have h5 : fin k5000 := by unfold fin rg; decide
    unfold inR
    rw [fle_eq fin1 hf, fle_eq hf h5, fv_nn (x := k5000) (by unfold sg; decide), fv_nn hs]
    rw [fv_nn hs] at hge
    have := mg_mono (Nat.le_trans a2 (show (1030 + 1) * 2 ^ 52 ≤ rg k5000 by unfold rg; decide))
    simp; omega
  · have e := add_eq (b1.fin (by decide)) (q4.fin (by omega))
    unfold fadd
    rw [e]
    show Ieee.double.word _ _ < _
    exact word_lt _ (rr_lt _ _)

theorem quo_in {n j b Y K : Nat} (hn : n ≤ 2 ^ j) (hj : j ≤ 30) (hY : fin Y) (hYs : sg Y = false) (hYl : (1023 + b) * 2 ^ 52 ≤ rg Y) (hb : b ≤ 100) (hK : (1023 + j - b) * 2 ^ 52 ≤ rg K) (hKs : sg K = false) (hf : fin K) :
    floatBits .quo .f64 (floatOfInt .f64 (n : Int)) Y = some (fdiv (floatOfInt .f64 (n : Int)) Y) ∧ inR (fdiv (floatOfInt .f64 (n : Int)) Y) 0 K = true ∧ sg (fdiv (floatOfInt .f64 (n : Int)) Y) = false := by
  obtain ⟨q1, q2, q3, q4⟩ := quoN hn hj hY hYs hYl hb
  exact ⟨q1, pos_in q2 q4 (by omega) hK hKs hf, q2⟩
theorem car_a {n : Nat} (h : n < 80) : floatBits .quo .f64 (floatOfInt .f64 (n : Int)) k8 = some (fdiv (floatOfInt .f64 (n : Int)) k8) ∧ inR (fdiv (floatOfInt .f64 (n : Int)) k8) 0 k1000 = true ∧ sg (fdiv (floatOfInt .f64 (n : Int)) k8) = false :=
  quo_in (j := 7) (b := 3) (by omega) (by omega) (by unfold fin rg; decide) (by unfold sg; decide) (by unfold rg; decide) (by omega) (by unfold rg; decide) (by unfold sg; decide) (by unfold fin rg; decide)
theorem car_b {n : Nat} (h : n < 50) : floatBits .quo .f64 (floatOfInt .f64 (n : Int)) k100 = some (fdiv (floatOfInt .f64 (n : Int)) k100) ∧ inR (fdiv (floatOfInt .f64 (n : Int)) k100) 0 k100 = true ∧ sg (fdiv (floatOfInt .f64 (n : Int)) k100) = false :=
  quo_in (j := 6) (b := 6) (by omega) (by omega) (by unfold fin rg; decide) (by unfold sg; decide) (by unfold rg; decide) (by omega) (by unfold rg; decide) (by unfold sg; decide) (by unfold fin rg; decide)
theorem car_c {n : Nat} (h : n < 50) : floatBits .quo .f64 (floatOfInt .f64 (n : Int)) k1000 = some (fdiv (floatOfInt .f64 (n : Int)) k1000) ∧ inR (fdiv (floatOfInt .f64 (n : Int)) k1000) 0 k100 = true ∧ sg (fdiv (floatOfInt .f64 (n : Int)) k1000) = false :=
  quo_in (j := 6) (b := 9) (by omega) (by omega) (by unfold fin rg; decide) (by unfold sg; decide) (by unfold rg; decide) (by omega) (by unfold rg; decide) (by unfold sg; decide) (by unfold fin rg; decide)
theorem draw_v {n : Nat} (h : n < 400) : floatBits .quo .f64 (floatOfInt .f64 (n : Int)) k8 = some (fdiv (floatOfInt .f64 (n : Int)) k8) ∧ spd (fdiv (floatOfInt .f64 (n : Int)) k8) = true ∧ sg (fdiv (floatOfInt .f64 (n : Int)) k8) = false :=
  quo_in (j := 9) (b := 3) (K := k200) (by omega) (by omega) (by unfold fin rg; decide) (by unfold sg; decide) (by unfold rg; decide) (by omega) (by unfold rg; decide) (by unfold sg; decide) (by unfold fin rg; decide)
theorem draw_sp {n : Nat} (h : n < 40) : floatBits .quo .f64 (floatOfInt .f64 (n : Int)) k8 = some (fdiv (floatOfInt .f64 (n : Int)) k8) ∧ spn (fdiv (floatOfInt .f64 (n : Int)) k8) = true ∧ sg (fdiv (floatOfInt .f64 (n : Int)) k8) = false :=
  quo_in (j := 6) (b := 3) (K := k10) (by omega) (by omega) (by unfold fin rg; decide) (by unfold sg; decide) (by unfold rg; decide) (by omega) (by unfold rg; decide) (by unfold sg; decide) (by unfold fin rg; decide)
theorem draw_g {n : Nat} (h : n < 900) : floatBits .quo .f64 (floatOfInt .f64 (((20 + n : Nat)) : Int)) k2 = some (fdiv (floatOfInt .f64 ((20 + n : Nat) : Int)) k2) ∧ inR (fdiv (floatOfInt .f64 ((20 + n : Nat) : Int)) k2) k1 k10000 = true := by
  have hY : fin k2 := by unfold fin rg; decide
  obtain ⟨q1, q2, q3, q4⟩ := quoN (n := 20 + n) (j := 10) (b := 1) (Y := k2) (by omega) (by omega) hY (by unfold sg; decide) (by unfold rg; decide) (by omega)
  obtain ⟨c1, c2, c3, c4, c5⟩ := conv_nat (20 + n) (by omega)
  obtain ⟨-, -, -, -, r5⟩ := vquo c1 hY (by unfold rg; decide)
  have g1 := mg_P2 (c5 4 (by omega) (by omega)) (by omega)
  have g2 := P2_mg (show Bd 1024 k2 by unfold Bd rg; decide) (by omega)
  rw [show 51 + (1023 + 4) = 1074 + 4 by omega] at g1
  rw [show 51 + 1024 = 1074 + 1 by omega] at g2
  have hlo := r5 4 1 (by omega) (by omega) g1 g2
  refine ⟨q1, pos_in1 q2 q4 (by omega) (by omega) (by unfold rg; decide) (by unfold sg; decide) (by unfold fin rg; decide)⟩
theorem draw_p {n : Nat} (h : n < 9000) : inR (floatOfInt .f64 ((200 + n : Nat) : Int)) k1 k100000 = true := by
  obtain ⟨c1, c2, c3, c4, c5⟩ := conv_nat (200 + n) (by omega)
  have hlo := c5 7 (by omega) (by omega)
  exact pos_in1 c2 (c4 14 (by omega) (by omega)) (by omega) (by omega) (by unfold rg; decide) (by unfold sg; decide) (by unfold fin rg; decide)

theorem blk_grow {w w' : World} {b : Nat} {r : Option Nat} {o : Obj} (h : w.heap[b]? = some o) (hg : w.grownBy w' r) (hne : some b ≠ r) : w'.heap[b]? = some o := (hg.block b (lt_of_block h) hne).trans h
theorem blk_below {w w' : World} {b : Nat} {o : Obj} (h : w.heap[b]? = some o) (hb : Below w.heap.size w w') : w'.heap[b]? = some o := (hb.block b (lt_of_block h)).trans h

set_option maxHeartbeats 1600000 in
theorem c66 (cb cap : Nat) (a : Option Addr) (zs : List Int) (w : World) (hc : Cur w cb a cap zs) (hl : zs.length ≤ 1048576) :
    Calls Try.prog 13 #[.pointer (some ⟨cb, 0, none⟩)] w fun e w' => ∃ q : CarV, e = .returned (CarV.val q) ∧ carOk q = true ∧ q.m < 2 ^ 64 ∧ Cur w' cb a cap zs ∧ w.grownBy w' (some cb) := by
  have hB := fun k (hk : OnCur cb a zs k) => hc.lt hk
  have C0 := hc.below (balloc w (.cells #[.float .f64 0, .float .f64 0, .float .f64 0, .float .f64 0] 38))
  have G0 := grown_alloc w (.cells #[.float .f64 0, .float .f64 0, .float .f64 0, .float .f64 0] 38) (some cb)
  have K0 : (w.alloc (.cells #[.float .f64 0, .float .f64 0, .float .f64 0, .float .f64 0] 38)).heap[w.heap.size]? = some (.cells #[.float .f64 0, .float .f64 0, .float .f64 0, .float .f64 0] 38 (0, 0)) := heap_alloc_new w _
  have hcb := hB cb (.inl rfl)
  have hne : some w.heap.size ≠ some cb := by intro e; simp at e; omega
  go_enter Try.func13, Try.ntmps13
  go_wp2_with fail
  refine (cbelow cb cap a zs 400 _ C0 hl (by omega) (by omega)).mono ?_
  rintro e w1 ⟨x1, rfl, x10, x11, C1, G1⟩
  have K1 := blk_grow K0 G1 hne
  obtain ⟨n1, rfl⟩ := Int.eq_ofNat_of_zero_le x10
  obtain ⟨m1, m2, m3, m4⟩ := car_m (n := n1) (by omega)
  have o1 := fop m1
  have o2 := fop m2
  clear m1 m2
  generalize fadd k1 (fdiv (floatOfInt .f64 (n1 : Int)) k4) = fm at *
  generalize fdiv (floatOfInt .f64 (n1 : Int)) k4 = fm' at *
  go_wp2_with fail
  refine (cbelow cb cap a zs 80 _ C1 hl (by omega) (by omega)).mono ?_
  rintro e w2 ⟨x2, rfl, x20, x21, C2, G2⟩
  have K2 := blk_grow K1 G2 hne
  obtain ⟨n2, rfl⟩ := Int.eq_ofNat_of_zero_le x20
  obtain ⟨a1, a2, -⟩ := car_a (n := n2) (by omega)
  have o3 := fop a1
  clear a1 o1 o2
  generalize fdiv (floatOfInt .f64 (n2 : Int)) k8 = fa at *
  go_wp2_with fail
  refine (cbelow cb cap a zs 50 _ C2 hl (by omega) (by omega)).mono ?_
  rintro e w3 ⟨x3, rfl, x30, x31, C3, G3⟩
  have K3 := blk_grow K2 G3 hne
  obtain ⟨n3, rfl⟩ := Int.eq_ofNat_of_zero_le x30
  obtain ⟨b1, b2, -⟩ := car_b (n := n3) (by omega)
  have o4 := fop b1
  clear b1 o3
  generalize fdiv (floatOfInt .f64 (n3 : Int)) k100 = fb at *
  go_wp2_with fail
  refine (cbelow cb cap a zs 50 _ C3 hl (by omega) (by omega)).mono ?_
  rintro e w4 ⟨x4, rfl, x40, x41, C4, G4⟩
  have K4 := blk_grow K3 G4 hne
  obtain ⟨n4, rfl⟩ := Int.eq_ofNat_of_zero_le x40
  obtain ⟨c1, c2, -⟩ := car_c (n := n4) (by omega)
  have o5 := fop c1
  clear c1 o4
  generalize fdiv (floatOfInt .f64 (n4 : Int)) k1000 = fc at *
  have G := grown_trans (grown_trans (grown_trans (grown_trans G0 G1) G2) G3) G4
  clear C0 C1 C2 C3 G0 G1 G2 G3 G4 K0 K1 K2 K3
  have z0 := Go.Joins.cell_of_block K4 0
  have z1 := Go.Joins.cell_of_block K4 1
  have z2 := Go.Joins.cell_of_block K4 2
  have z3 := Go.Joins.cell_of_block K4 3
  have f0 := Go.Joins.unfrozen_of_block K4 0
  have f1 := Go.Joins.unfrozen_of_block K4 1
  have f2 := Go.Joins.unfrozen_of_block K4 2
  have f3 := Go.Joins.unfrozen_of_block K4 3
  go_wp2_with fail
  have L1 := Go.Joins.block_setCell (i := 0) K4 (.float .f64 fm)
  have L2 := Go.Joins.block_setCell (i := 1) L1 (.float .f64 fa)
  have L3 := Go.Joins.block_setCell (i := 2) L2 (.float .f64 fb)
  have L4 := Go.Joins.block_setCell (i := 3) L3 (.float .f64 fc)
  simp only [List.setIfInBounds_toArray, List.set_cons_succ, List.set_cons_zero] at L4
  have bl : Below w.heap.size w4 ((((w4.setCell ⟨w.heap.size, 0, none⟩ (.float .f64 fm)).setCell ⟨w.heap.size, 1, none⟩ (.float .f64 fa)).setCell ⟨w.heap.size, 2, none⟩ (.float .f64 fb)).setCell ⟨w.heap.size, 3, none⟩ (.float .f64 fc)) :=
    bset (bset (bset (bset (Below.refl _ w4) (Nat.le_refl _)) (Nat.le_refl _)) (Nat.le_refl _)) (Nat.le_refl _)
  have CF := C4.under hB bl
  have GF : w.grownBy ((((w4.setCell ⟨w.heap.size, 0, none⟩ (.float .f64 fm)).setCell ⟨w.heap.size, 1, none⟩ (.float .f64 fa)).setCell ⟨w.heap.size, 2, none⟩ (.float .f64 fb)).setCell ⟨w.heap.size, 3, none⟩ (.float .f64 fc)) (some cb) :=
    grown_far (grown_far (grown_far (grown_far G (grown_set _ _ _ _) (fun k e => by simp at e; omega)) (grown_set _ _ _ _) (fun k e => by simp at e; omega)) (grown_set _ _ _ _) (fun k e => by simp at e; omega)) (grown_set _ _ _ _) (fun k e => by simp at e; omega)
  have y0 := Go.Joins.cell_of_block L4 0
  have y1 := Go.Joins.cell_of_block L4 1
  have y2 := Go.Joins.cell_of_block L4 2
  have y3 := Go.Joins.cell_of_block L4 3
  refine bodyPost_ret (v := .agg #[.float .f64 fm, .float .f64 fa, .float .f64 fb, .float .f64 fc]) (by simp [results, Try.results13, go_sem, y0, y1, y2, y3]) rfl ⟨⟨fm, fa, fb, fc⟩, rfl, ?_, m4, CF, GF⟩
  show (inR fm k1 k5000 && inR fa 0 k1000 && inR fb 0 k100 && inR fc 0 k100) = true
  rw [m3, a2, b2, c2]; rfl
end Go.Proofs.Ytcadgafenbmihab
