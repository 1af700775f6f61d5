/- Two formations are coupled, parted, shunted: the walk of FnCoupled. -/
import Derived.Test.YtfffnekbdegclaaDS
import Derived.Test.YtfffnekbdegclaaCL
import Derived.Deep.RegionHeld3
import Derived.BigQuiet
namespace Go.Proofs.Ytfffnekbdegclaa
open Go.RowKit

set_option maxRecDepth 20000 in
set_option maxHeartbeats 1600000 in
theorem cSame (a1 a2 : Option Addr) (c1 c2 : Nat) (l : List UV) (w : World) (h1 : Us w a1 l) (h2 : Us w a2 l) (hl : l.length ≤ 1048576) :
    Calls Try.prog 17 #[.slice a1 l.length c1, .slice a2 l.length c2] w fun e w' => e = .returned (.bool true) ∧ Below w.heap.size w w' := by
  go_enter Try.func17, Try.ntmps17
  go_wp2
  go_loopw [5] (fun i wr => ∃ k : Nat, k ≤ l.length ∧ i = .int .i64 k ∧ Below w.heap.size w wr) (fun i _ => l.length - (intOf i).toNat)
  case atStart => exact ⟨0, Nat.zero_le _, rfl, Below.refl _ _⟩
  case round =>
    obtain ⟨k, hk, rfl, hb⟩ := hrel
    by_cases hlt : k < l.length
    · rcases h1 with h | ⟨b1, o1, rfl, q1⟩
      · simp [h] at hlt
      rcases h2 with h | ⟨b2, o2, rfl, q2⟩
      · simp [h] at hlt
      obtain ⟨p0, p1, p2, p3⟩ := q1 k hlt
      obtain ⟨r0, r1, r2, r3⟩ := q2 k hlt
      replace p0 := ble hb p0
      replace p1 := ble hb p1
      replace p2 := ble hb p2
      replace p3 := ble hb p3
      replace r0 := ble hb r0
      replace r1 := ble hb r1
      replace r2 := ble hb r2
      replace r3 := ble hb r3
      clear q1 q2
      generalize l.getD k UV.zero = y at *
      obtain ⟨yi, yc, ym, yb⟩ := y
      dsimp only at *
      go_wp2_with fail
      go_quiet (fail)
      go_wp2
      go_roundw
      case rel => exact ⟨k + 1, by omega, by go_num, bdraw hb _⟩
      case measure => simp [intOf]; omega
    · obtain rfl : k = l.length := by omega
      clear h1 h2
      go_wp2
      go_ret
      exact ⟨rfl, hb⟩

/-- What holds of two lists that couple. -/
structure Cp (xs ys Z : List UV) : Prop where
  eq : Z = xs ++ ys
  rx : runB xs = true
  ry : runB ys = true
  rz : runB Z = true
theorem Cp.of {xs ys : List UV} (h : coupB xs ys = true) : Cp xs ys (xs ++ ys) := by
  simp only [coupB, Bool.and_eq_true] at h
  exact ⟨rfl, h.1.1, h.1.2, h.2⟩
theorem Cp.fz {xs ys Z : List UV} (h : Cp xs ys Z) : formB Z = true := (runB_iff.1 h.rz).1
theorem Cp.len {xs ys Z : List UV} (h : Cp xs ys Z) : Z.length = xs.length + ys.length := by rw [h.eq, List.length_append]
theorem Cp.px {xs ys Z : List UV} (h : Cp xs ys Z) : 0 < xs.length := List.length_pos_iff.2 (runB_iff.1 h.rx).2.1
theorem Cp.py {xs ys Z : List UV} (h : Cp xs ys Z) : 0 < ys.length := List.length_pos_iff.2 (runB_iff.1 h.ry).2.1
theorem Cp.part {xs ys Z : List UV} (h : Cp xs ys Z) : headL Z (xs.length : Nat) = xs ∧ restL Z (xs.length : Nat) = ys := by
  obtain ⟨e1, e2⟩ := part_yes (q := xs.length) h.fz (by rw [h.len]; omega)
  rw [e1, e2, h.eq]
  simp
theorem Cp.lens {xs ys Z : List UV} (h : Cp xs ys Z) : lenV Z = lenV xs + lenV ys ∧ 0 ≤ lenV xs ∧ lenV xs ≤ 6000 ∧ 0 ≤ lenV ys ∧ lenV ys ≤ 6000 := by
  have fx := (runB_iff.1 h.rx).1
  have fy := (runB_iff.1 h.ry).1
  have m1 := form_take_m fx xs.length
  have m2 := form_take_m fy ys.length
  rw [List.take_length] at m1 m2
  simp only [lenV, h.fz, fx, fy, if_true]
  refine ⟨by rw [h.eq, metres_app], m1.1, m1.2, m2.1, m2.2⟩
theorem Cp.fit {xs ys Z : List UV} (h : Cp xs ys Z) : fitB (xs.getD (xs.length - 1) UV.zero) (ys.getD 0 UV.zero) = true := by
  have hx := h.px
  have hy := h.py
  have := (runB_iff.1 h.rz).2.2 (xs.length - 1) (by rw [h.len]; omega)
  have e : xs.length - 1 + 1 = xs.length := by omega
  rw [e, h.eq] at this
  have e1 : (xs ++ ys).getD (xs.length - 1) UV.zero = xs.getD (xs.length - 1) UV.zero := by
    simp only [List.getD]; rw [List.getElem?_append_left (by omega)]
  have e2 : (xs ++ ys).getD xs.length UV.zero = ys.getD 0 UV.zero := by
    simp only [List.getD]; rw [List.getElem?_append_right (Nat.le_refl _), Nat.sub_self]
  rw [e1, e2] at this
  exact this
theorem Cp.sh {xs ys Z : List UV} (h : Cp xs ys Z) : shL Z [((xs.length : Nat) : Int)] = ys ++ turned xs := by
  have hi : inB ((xs.length : Nat) : Int) 0 Z.length = true := inB_yes (by omega) (by have := h.len; omega)
  have e := sh_yes (l := Z) (cs := [((xs.length : Nat) : Int)]) h.fz (by simp) (by simp [hi])
  rw [e]
  show shunt1 Z (((xs.length : Nat) : Int)).toNat = _
  rw [Int.toNat_natCast, shunt1, h.eq]
  simp
theorem Cp.sh0 {xs ys Z : List UV} (h : Cp xs ys Z) : shL Z [] = Z := by
  rw [sh_yes (l := Z) (cs := []) h.fz (by simp) (by simp)]
  rfl
theorem Cp.part2 {xs ys Z : List UV} (h : Cp xs ys Z) : headL (ys ++ turned xs) (ys.length : Nat) = ys ∧ restL (ys ++ turned xs) (ys.length : Nat) = turned xs := by
  have f : formB (ys ++ turned xs) = true := by
    have := form_shunt1 xs.length h.fz
    rw [shunt1, h.eq] at this
    simpa using this
  obtain ⟨e1, e2⟩ := part_yes (q := ys.length) f (by simp)
  rw [e1, e2]
  simp
theorem Cp.turn {xs ys Z : List UV} (h : Cp xs ys Z) : turnL xs = turned xs := turn_yes (runB_iff.1 h.rx).1
theorem one_int (w : World) (q : Int) : Ints (w.alloc (.cells #[.int .i64 q] 3)) (some ⟨w.heap.size, 0, none⟩) [q] := by
  refine .inr ⟨_, 0, rfl, fun i hi => ?_⟩
  match i, hi with
  | 0, _ => simp
  | (k + 1), hi => simp at hi
theorem own_some {w : World} {B : Nat} {a : Option Addr} {c : Nat} {l : List UV} (h : w.ownsRow B 34 4 (.slice a l.length c) l.length (flatUs l)) (hp : 0 < l.length) : ∃ g, a = some ⟨g, 0, none⟩ ∧ l.length ≤ c ∧ c ≤ maxLen := by
  rcases h.2 with ⟨_, h0⟩ | ⟨g, cap', cur, he, _, _, hn, hm, _⟩
  · omega
  · simp only [Value.slice.injEq] at he
    obtain ⟨rfl, _, rfl⟩ := he
    exact ⟨g, rfl, hn, hm⟩

set_option maxRecDepth 100000 in
set_option maxHeartbeats 12800000 in
theorem walkCoupled (a : Option Addr) (cap : Nat) (bs : List Int) (w : World) (hz : Bytes w a bs) (hn : bs.length ≤ maxLen) :
    Calls Try.prog 3 #[.slice a bs.length cap] w fun e w' => e = .returned (.bool true) ∧ Below w.heap.size w w' := by
  have hn' := hn
  unfold maxLen at hn'
  go_enter Try.func3, Try.ntmps3
  go_wp2_with fail
  refine (cbig a cap bs.length _ hn).mono ?_
  rintro e w0 ⟨rfl, hw⟩
  subst w0
  by_cases hbg : 1048576 < bs.length
  · rw [show decide (1048576 < bs.length) = true by simpa using hbg]
    go_wp2
    go_ret
    exact ⟨rfl, Below.refl _ _⟩
  rw [show decide (1048576 < bs.length) = false by simpa using hbg]
  have hl : bs.length ≤ 1048576 := by omega
  clear hbg
  go_wp2_with fail
  refine (cDrawC cap a bs _ hz hl).mono ?_
  rintro e w1 ⟨xs, ys, v1, v2, rfl, x60, y60, O1, O2, HB⟩
  obtain ⟨xa, cx, rfl, x1, x2, -, -⟩ := own_room O1
  obtain ⟨ya, cy, rfl, y1, y2, -, -⟩ := own_room O2
  go_wp2_with fail
  refine (cCoupI _ _ _ _ xs ys _ (Us.own O1) (Us.own O2) x1 x2 y1 y2).mono ?_
  rintro e w2 ⟨v3, rfl, O3, hb⟩
  replace O3 := own_base O3 HB.size
  replace HB := btrans HB hb
  replace O1 := own_keep O1 hb
  replace O2 := own_keep O2 hb
  clear hb
  obtain ⟨za, cz, rfl⟩ := own_form O3
  go_wp2_with fail
  refine (cCoupS _ _ _ _ xs ys _ (Us.own O1) (Us.own O2) (by omega) (by omega)).mono ?_
  rintro e w3 ⟨v4, rfl, -, hb⟩
  replace HB := btrans HB hb
  replace O1 := own_keep O1 hb
  replace O2 := own_keep O2 hb
  replace O3 := own_keep O3 hb
  clear hb
  cases hc : coupB xs ys
  · have E := hide (coup_no hc)
    have hlen : (coupL xs ys).length = 0 := by rw [E.out]; rfl
    rw [hlen]
    clear O1 O2 O3 hlen x1 x2 y1 y2
    go_wp2
    go_ret
    exact ⟨rfl, HB⟩
  obtain ⟨Z, hZ, cp⟩ : ∃ Z, coupL xs ys = Z ∧ Cp xs ys Z := ⟨_, rfl, by rw [coup_yes hc]; exact Cp.of hc⟩
  rw [hZ] at O3 ⊢
  clear hc hZ
  have px := cp.px
  have py := cp.py
  have zl : Z.length ≤ 60 := by have := run_len cp.rz; omega
  have zp : 0 < Z.length := by have := cp.len; omega
  obtain ⟨gx, rfl, -, -⟩ := own_some O1 px
  obtain ⟨gy, rfl, -, -⟩ := own_some O2 py
  obtain ⟨gz, rfl, z1, z2⟩ := own_some O3 zp
  have CP := hide cp
  have P1 := hide cp.part
  clear cp
  have x60' := x60
  have KP := cPartI gz 0 cz Z (xs.length : Nat) w3 (Us.own O3) z1 z2
  rw [P1.out.1, P1.out.2] at KP
  go_wp2_with fail
  refine KP.mono ?_
  rintro e w4 ⟨v5, v6, B6, rfl, O5, O6, -, -, hb⟩
  replace HB := btrans HB hb
  replace O1 := own_keep O1 hb
  replace O2 := own_keep O2 hb
  replace O3 := own_keep O3 hb
  clear hb
  clear KP
  obtain ⟨a5, c5, rfl⟩ := own_form O5
  obtain ⟨a6, c6, rfl⟩ := own_form O6
  have FT := hide CP.out.fit
  have LV := CP.out.lens
  obtain ⟨lv0, lv1, lv2, lv3, lv4⟩ := LV
  have FX := us_at ((Us.own O1).flat gx 0 rfl) (show xs.length - 1 < xs.length by omega)
  have FY := us_at ((Us.own O2).flat gy 0 rfl) py
  simp only [Nat.zero_mul, Nat.add_zero, Nat.zero_add] at FX FY
  obtain ⟨f0, f1, f2, f3⟩ := FX
  obtain ⟨f4, f5, f6, f7⟩ := FY
  obtain ⟨n, hxn⟩ : ∃ n, xs.length = n + 1 := ⟨xs.length - 1, by omega⟩
  have en : xs.length - 1 = n := by omega
  rw [en] at f0 f1 f2 f3 FT
  have CF : ∀ w, Calls Try.prog 19 #[(xs.getD n UV.zero).val, (ys.getD 0 UV.zero).val] w (fun e w' => e = .returned (.bool true) ∧ Below w.heap.size w w') := fun w => by have := cFitI (xs.getD n UV.zero) (ys.getD 0 UV.zero) w; rw [FT.out] at this; exact this
  generalize xs.getD n UV.zero = ux at *
  generalize ys.getD 0 UV.zero = uy at *
  obtain ⟨xi, xk, xm, xb⟩ := ux
  obtain ⟨yi, yk, ym, yb⟩ := uy
  unfold UV.val at CF
  dsimp only at *
  have wn : IntKind.i64.wrap ((xs.length : Int) - 1) = (n : Int) := (wrap_in _ (by omega) (by omega)).trans (by omega)
  have hni : (n : Int) < (xs.length : Int) := by omega
  have hn0 : (0 : Int) ≤ (n : Int) := by omega
  have hnn : n < xs.length := by omega
  have hyi : (0 : Int) < (ys.length : Int) := by omega
  have ws : IntKind.i64.wrap (lenV xs + lenV ys) = lenV xs + lenV ys := wrap_in _ (by omega) (by omega)
  have S1 := fun w h1 h2 => cSame a5 (some ⟨gx, 0, none⟩) c5 cx xs w h1 h2 (by omega)
  have S2 := fun w h1 h2 => cSame a6 (some ⟨gy, 0, none⟩) c6 cy ys w h1 h2 (by omega)
  have RZ : ∀ w, Us w (some ⟨gz, 0, none⟩) Z → Calls Try.prog 18 #[.slice (some ⟨gz, 0, none⟩) Z.length cz] w (fun e w' => e = .returned (.bool true) ∧ Below w.heap.size w w') := fun w h => by have := cRunI _ cz Z w h z1 z2; rw [CP.out.rz] at this; exact this
  have L1 : ∀ w, Us w (some ⟨gz, 0, none⟩) Z → Calls Try.prog 20 #[.slice (some ⟨gz, 0, none⟩) Z.length cz] w (fun e w' => e = .returned (.int .i64 (lenV xs + lenV ys)) ∧ Below w.heap.size w w') := fun w h => by have := cLenI _ cz Z w h (by unfold maxLen; omega); rw [lv0] at this; exact this
  have L2 := fun w h => cLenI (some ⟨gx, 0, none⟩) cx xs w h (by unfold maxLen; omega)
  have L3 := fun w h => cLenI (some ⟨gy, 0, none⟩) cy ys w h (by unfold maxLen; omega)
  have U1 := Us.own O1
  have U2 := Us.own O2
  have U3 := Us.own O3
  have U5 := Us.own O5
  have U6 := Us.own O6
  clear lv0 en hxn P1
  generalize lenV xs = lx at *
  generalize lenV ys = ly at *
  have z0 : Below w4.heap.size w4 w4.drew := (Below.refl _ _).drew
  go_wp2_with fail
  refine wp_region_held_drew (S := (fun w' => w'.cell? ⟨gx, n * 4, none⟩ = some (.int .i64 xi) ∧ w'.cell? ⟨gx, n * 4 + 1, none⟩ = some (.int .i64 xk) ∧ w'.cell? ⟨gx, n * 4 + 2, none⟩ = some (.int .i64 xm) ∧ w'.cell? ⟨gx, n * 4 + 3, none⟩ = some (.bool xb) ∧ w'.cell? ⟨gy, 0, none⟩ = some (.int .i64 yi) ∧ w'.cell? ⟨gy, 1, none⟩ = some (.int .i64 yk) ∧ w'.cell? ⟨gy, 2, none⟩ = some (.int .i64 ym) ∧ w'.cell? ⟨gy, 3, none⟩ = some (.bool yb))) (by kernel_rfl) ?_ (fun hHeld => ?_)
  · go_keep
  refine wpAnyH_take (i := 0) (v := .slice a5 xs.length c5) rfl (by kernel_rfl) (by kernel_rfl) (by kernel_rfl) (fun _ _ _ h => h) (Or.inl ⟨by kernel_rfl, fun w hS => by go_simp⟩) hHeld ?_
  change wpAnyH _ _ _ _ _ _ _ { tmps := List.toArray (_ :: _ :: _ :: .slice (some ⟨gx, 0, none⟩) xs.length cx :: .slice (some ⟨gy, 0, none⟩) ys.length cy :: .slice (some ⟨gz, 0, none⟩) Z.length cz :: _ :: _ :: _ :: .slice a5 xs.length c5 :: .slice a6 ys.length c6 :: _ :: _ :: _ :: _ :: _ :: _ :: _ :: _ :: _ :: _ :: _ :: _ :: _ :: _ :: _ :: _ :: _ :: _ :: _ :: _ :: _ :: _ :: _ :: _ :: _ :: _ :: _ :: _ :: _ :: _ :: _ :: _ :: _ :: _ :: _ :: _ :: _ :: .slice a5 xs.length c5 :: _ :: _ :: _ :: _ :: _ :: _ :: _ :: _ :: _ :: _ :: _ :: _ :: _ :: _ :: _ :: _ :: _ :: _ :: _ :: _ :: _ :: _ :: _ :: _ :: _ :: _ :: _ :: _ :: _ :: _ :: _ :: _ :: _ :: _ :: _ :: _ :: _ :: _ :: _ :: _ :: _ :: _ :: _ :: _ :: _ :: _ :: _ :: _ :: _ :: _ :: _ :: _ :: _ :: _ :: _ :: _ :: _ :: _ :: _ :: _ :: _ :: _ :: _ :: _ :: []), defers := [] } _
  refine wpAnyH_take (i := 1) (v := .slice (some ⟨gx, 0, none⟩) xs.length cx) rfl (by kernel_rfl) (by kernel_rfl) (by kernel_rfl) (fun _ _ _ h => h) (Or.inl ⟨by kernel_rfl, fun w hS => by go_simp⟩) hHeld ?_
  change wpAnyH _ _ _ _ _ _ _ { tmps := List.toArray (_ :: _ :: _ :: .slice (some ⟨gx, 0, none⟩) xs.length cx :: .slice (some ⟨gy, 0, none⟩) ys.length cy :: .slice (some ⟨gz, 0, none⟩) Z.length cz :: _ :: _ :: _ :: .slice a5 xs.length c5 :: .slice a6 ys.length c6 :: _ :: _ :: _ :: _ :: _ :: _ :: _ :: _ :: _ :: _ :: _ :: _ :: _ :: _ :: _ :: _ :: _ :: _ :: _ :: _ :: _ :: _ :: _ :: _ :: _ :: _ :: _ :: _ :: _ :: _ :: _ :: _ :: _ :: _ :: _ :: _ :: _ :: .slice a5 xs.length c5 :: .slice (some ⟨gx, 0, none⟩) xs.length cx :: _ :: _ :: _ :: _ :: _ :: _ :: _ :: _ :: _ :: _ :: _ :: _ :: _ :: _ :: _ :: _ :: _ :: _ :: _ :: _ :: _ :: _ :: _ :: _ :: _ :: _ :: _ :: _ :: _ :: _ :: _ :: _ :: _ :: _ :: _ :: _ :: _ :: _ :: _ :: _ :: _ :: _ :: _ :: _ :: _ :: _ :: _ :: _ :: _ :: _ :: _ :: _ :: _ :: _ :: _ :: _ :: _ :: _ :: _ :: _ :: _ :: _ :: _ :: []), defers := [] } _
  refine wpAnyH_ready (rs := [2]) (by kernel_rfl) (by simp) ?_
  refine AllReadyH.cons rfl (fun K hK => ?_) AllReadyH.nil
  go_simp
  go_wp2_with (go_at_call 17; refine (S1 _ (U5.below z0) (U1.below z0)).mono ?_; rintro e7 wa ⟨rfl, hbq⟩; have Ba := btrans z0 hbq; clear hbq)
  clear hHeld
  refine hK.out _ _ (⟨ble Ba f0, ble Ba f1, ble Ba f2, ble Ba f3, ble Ba f4, ble Ba f5, ble Ba f6, ble Ba f7⟩) (fun hHeld => ?_)
  clear hK K
  change wpAnyH _ _ _ _ _ _ _ { tmps := List.toArray (_ :: _ :: _ :: .slice (some ⟨gx, 0, none⟩) xs.length cx :: .slice (some ⟨gy, 0, none⟩) ys.length cy :: .slice (some ⟨gz, 0, none⟩) Z.length cz :: _ :: _ :: _ :: .slice a5 xs.length c5 :: .slice a6 ys.length c6 :: _ :: _ :: _ :: _ :: _ :: _ :: _ :: _ :: _ :: _ :: _ :: _ :: _ :: _ :: _ :: _ :: _ :: _ :: _ :: _ :: _ :: _ :: _ :: _ :: _ :: _ :: _ :: _ :: _ :: _ :: _ :: _ :: _ :: _ :: _ :: _ :: _ :: .slice a5 xs.length c5 :: .slice (some ⟨gx, 0, none⟩) xs.length cx :: .bool true :: _ :: _ :: _ :: _ :: _ :: _ :: _ :: _ :: _ :: _ :: _ :: _ :: _ :: _ :: _ :: _ :: _ :: _ :: _ :: _ :: _ :: _ :: _ :: _ :: _ :: _ :: _ :: _ :: _ :: _ :: _ :: _ :: _ :: _ :: _ :: _ :: _ :: _ :: _ :: _ :: _ :: _ :: _ :: _ :: _ :: _ :: _ :: _ :: _ :: _ :: _ :: _ :: _ :: _ :: _ :: _ :: _ :: _ :: _ :: _ :: _ :: _ :: []), defers := [] } _
  refine wpAnyH_take (i := 3) (v := .bool false) rfl (by kernel_rfl) (by kernel_rfl) (by kernel_rfl) (fun _ _ _ h => h) (Or.inl ⟨by kernel_rfl, fun w hS => by go_simp⟩) hHeld ?_
  change wpAnyH _ _ _ _ _ _ _ { tmps := List.toArray (_ :: _ :: _ :: .slice (some ⟨gx, 0, none⟩) xs.length cx :: .slice (some ⟨gy, 0, none⟩) ys.length cy :: .slice (some ⟨gz, 0, none⟩) Z.length cz :: _ :: _ :: _ :: .slice a5 xs.length c5 :: .slice a6 ys.length c6 :: _ :: _ :: _ :: _ :: _ :: _ :: _ :: _ :: _ :: _ :: _ :: _ :: _ :: _ :: _ :: _ :: _ :: _ :: _ :: _ :: _ :: _ :: _ :: _ :: _ :: _ :: _ :: _ :: _ :: _ :: _ :: _ :: _ :: _ :: _ :: _ :: _ :: .slice a5 xs.length c5 :: .slice (some ⟨gx, 0, none⟩) xs.length cx :: .bool true :: .bool false :: _ :: _ :: _ :: _ :: _ :: _ :: _ :: _ :: _ :: _ :: _ :: _ :: _ :: _ :: _ :: _ :: _ :: _ :: _ :: _ :: _ :: _ :: _ :: _ :: _ :: _ :: _ :: _ :: _ :: _ :: _ :: _ :: _ :: _ :: _ :: _ :: _ :: _ :: _ :: _ :: _ :: _ :: _ :: _ :: _ :: _ :: _ :: _ :: _ :: _ :: _ :: _ :: _ :: _ :: _ :: _ :: _ :: _ :: _ :: _ :: _ :: []), defers := [] } _
  refine wpAnyH_take (i := 4) (v := .bool false) rfl (by kernel_rfl) (by kernel_rfl) (by kernel_rfl) (fun _ _ _ h => h) (Or.inl ⟨by kernel_rfl, fun w hS => by go_simp⟩) hHeld ?_
  change wpAnyH _ _ _ _ _ _ _ { tmps := List.toArray (_ :: _ :: _ :: .slice (some ⟨gx, 0, none⟩) xs.length cx :: .slice (some ⟨gy, 0, none⟩) ys.length cy :: .slice (some ⟨gz, 0, none⟩) Z.length cz :: _ :: _ :: _ :: .slice a5 xs.length c5 :: .slice a6 ys.length c6 :: _ :: _ :: _ :: _ :: _ :: _ :: _ :: _ :: _ :: _ :: _ :: _ :: _ :: _ :: _ :: _ :: _ :: _ :: _ :: _ :: _ :: _ :: _ :: _ :: _ :: _ :: _ :: _ :: _ :: _ :: _ :: _ :: _ :: _ :: _ :: _ :: _ :: .slice a5 xs.length c5 :: .slice (some ⟨gx, 0, none⟩) xs.length cx :: .bool true :: .bool false :: .bool false :: _ :: _ :: _ :: _ :: _ :: _ :: _ :: _ :: _ :: _ :: _ :: _ :: _ :: _ :: _ :: _ :: _ :: _ :: _ :: _ :: _ :: _ :: _ :: _ :: _ :: _ :: _ :: _ :: _ :: _ :: _ :: _ :: _ :: _ :: _ :: _ :: _ :: _ :: _ :: _ :: _ :: _ :: _ :: _ :: _ :: _ :: _ :: _ :: _ :: _ :: _ :: _ :: _ :: _ :: _ :: _ :: _ :: _ :: _ :: _ :: []), defers := [] } _
  refine wpAnyH_take (i := 5) (v := .slice a6 ys.length c6) rfl (by kernel_rfl) (by kernel_rfl) (by kernel_rfl) (fun _ _ _ h => h) (Or.inl ⟨by kernel_rfl, fun w hS => by go_simp⟩) hHeld ?_
  change wpAnyH _ _ _ _ _ _ _ { tmps := List.toArray (_ :: _ :: _ :: .slice (some ⟨gx, 0, none⟩) xs.length cx :: .slice (some ⟨gy, 0, none⟩) ys.length cy :: .slice (some ⟨gz, 0, none⟩) Z.length cz :: _ :: _ :: _ :: .slice a5 xs.length c5 :: .slice a6 ys.length c6 :: _ :: _ :: _ :: _ :: _ :: _ :: _ :: _ :: _ :: _ :: _ :: _ :: _ :: _ :: _ :: _ :: _ :: _ :: _ :: _ :: _ :: _ :: _ :: _ :: _ :: _ :: _ :: _ :: _ :: _ :: _ :: _ :: _ :: _ :: _ :: _ :: _ :: .slice a5 xs.length c5 :: .slice (some ⟨gx, 0, none⟩) xs.length cx :: .bool true :: .bool false :: .bool false :: .slice a6 ys.length c6 :: _ :: _ :: _ :: _ :: _ :: _ :: _ :: _ :: _ :: _ :: _ :: _ :: _ :: _ :: _ :: _ :: _ :: _ :: _ :: _ :: _ :: _ :: _ :: _ :: _ :: _ :: _ :: _ :: _ :: _ :: _ :: _ :: _ :: _ :: _ :: _ :: _ :: _ :: _ :: _ :: _ :: _ :: _ :: _ :: _ :: _ :: _ :: _ :: _ :: _ :: _ :: _ :: _ :: _ :: _ :: _ :: _ :: _ :: _ :: []), defers := [] } _
  refine wpAnyH_take (i := 6) (v := .slice (some ⟨gy, 0, none⟩) ys.length cy) rfl (by kernel_rfl) (by kernel_rfl) (by kernel_rfl) (fun _ _ _ h => h) (Or.inl ⟨by kernel_rfl, fun w hS => by go_simp⟩) hHeld ?_
  change wpAnyH _ _ _ _ _ _ _ { tmps := List.toArray (_ :: _ :: _ :: .slice (some ⟨gx, 0, none⟩) xs.length cx :: .slice (some ⟨gy, 0, none⟩) ys.length cy :: .slice (some ⟨gz, 0, none⟩) Z.length cz :: _ :: _ :: _ :: .slice a5 xs.length c5 :: .slice a6 ys.length c6 :: _ :: _ :: _ :: _ :: _ :: _ :: _ :: _ :: _ :: _ :: _ :: _ :: _ :: _ :: _ :: _ :: _ :: _ :: _ :: _ :: _ :: _ :: _ :: _ :: _ :: _ :: _ :: _ :: _ :: _ :: _ :: _ :: _ :: _ :: _ :: _ :: _ :: .slice a5 xs.length c5 :: .slice (some ⟨gx, 0, none⟩) xs.length cx :: .bool true :: .bool false :: .bool false :: .slice a6 ys.length c6 :: .slice (some ⟨gy, 0, none⟩) ys.length cy :: _ :: _ :: _ :: _ :: _ :: _ :: _ :: _ :: _ :: _ :: _ :: _ :: _ :: _ :: _ :: _ :: _ :: _ :: _ :: _ :: _ :: _ :: _ :: _ :: _ :: _ :: _ :: _ :: _ :: _ :: _ :: _ :: _ :: _ :: _ :: _ :: _ :: _ :: _ :: _ :: _ :: _ :: _ :: _ :: _ :: _ :: _ :: _ :: _ :: _ :: _ :: _ :: _ :: _ :: _ :: _ :: _ :: _ :: []), defers := [] } _
  refine wpAnyH_ready (rs := [7]) (by kernel_rfl) (by simp) ?_
  refine AllReadyH.cons rfl (fun K hK => ?_) AllReadyH.nil
  go_simp
  go_wp2_with (go_at_call 17; refine (S2 _ (U6.below Ba) (U2.below Ba)).mono ?_; rintro e7 wb ⟨rfl, hbq⟩; have Bb := btrans Ba hbq; clear hbq)
  clear hHeld
  refine hK.out _ _ (⟨ble Bb f0, ble Bb f1, ble Bb f2, ble Bb f3, ble Bb f4, ble Bb f5, ble Bb f6, ble Bb f7⟩) (fun hHeld => ?_)
  clear hK K
  change wpAnyH _ _ _ _ _ _ _ { tmps := List.toArray (_ :: _ :: _ :: .slice (some ⟨gx, 0, none⟩) xs.length cx :: .slice (some ⟨gy, 0, none⟩) ys.length cy :: .slice (some ⟨gz, 0, none⟩) Z.length cz :: _ :: _ :: _ :: .slice a5 xs.length c5 :: .slice a6 ys.length c6 :: _ :: _ :: _ :: _ :: _ :: _ :: _ :: _ :: _ :: _ :: _ :: _ :: _ :: _ :: _ :: _ :: _ :: _ :: _ :: _ :: _ :: _ :: _ :: _ :: _ :: _ :: _ :: _ :: _ :: _ :: _ :: _ :: _ :: _ :: _ :: _ :: _ :: .slice a5 xs.length c5 :: .slice (some ⟨gx, 0, none⟩) xs.length cx :: .bool true :: .bool false :: .bool false :: .slice a6 ys.length c6 :: .slice (some ⟨gy, 0, none⟩) ys.length cy :: .bool true :: _ :: _ :: _ :: _ :: _ :: _ :: _ :: _ :: _ :: _ :: _ :: _ :: _ :: _ :: _ :: _ :: _ :: _ :: _ :: _ :: _ :: _ :: _ :: _ :: _ :: _ :: _ :: _ :: _ :: _ :: _ :: _ :: _ :: _ :: _ :: _ :: _ :: _ :: _ :: _ :: _ :: _ :: _ :: _ :: _ :: _ :: _ :: _ :: _ :: _ :: _ :: _ :: _ :: _ :: _ :: _ :: _ :: []), defers := [] } _
  refine wpAnyH_take (i := 8) (v := .bool false) rfl (by kernel_rfl) (by kernel_rfl) (by kernel_rfl) (fun _ _ _ h => h) (Or.inl ⟨by kernel_rfl, fun w hS => by go_simp⟩) hHeld ?_
  change wpAnyH _ _ _ _ _ _ _ { tmps := List.toArray (_ :: _ :: _ :: .slice (some ⟨gx, 0, none⟩) xs.length cx :: .slice (some ⟨gy, 0, none⟩) ys.length cy :: .slice (some ⟨gz, 0, none⟩) Z.length cz :: _ :: _ :: _ :: .slice a5 xs.length c5 :: .slice a6 ys.length c6 :: _ :: _ :: _ :: _ :: _ :: _ :: _ :: _ :: _ :: _ :: _ :: _ :: _ :: _ :: _ :: _ :: _ :: _ :: _ :: _ :: _ :: _ :: _ :: _ :: _ :: _ :: _ :: _ :: _ :: _ :: _ :: _ :: _ :: _ :: _ :: _ :: _ :: .slice a5 xs.length c5 :: .slice (some ⟨gx, 0, none⟩) xs.length cx :: .bool true :: .bool false :: .bool false :: .slice a6 ys.length c6 :: .slice (some ⟨gy, 0, none⟩) ys.length cy :: .bool true :: .bool false :: _ :: _ :: _ :: _ :: _ :: _ :: _ :: _ :: _ :: _ :: _ :: _ :: _ :: _ :: _ :: _ :: _ :: _ :: _ :: _ :: _ :: _ :: _ :: _ :: _ :: _ :: _ :: _ :: _ :: _ :: _ :: _ :: _ :: _ :: _ :: _ :: _ :: _ :: _ :: _ :: _ :: _ :: _ :: _ :: _ :: _ :: _ :: _ :: _ :: _ :: _ :: _ :: _ :: _ :: _ :: _ :: []), defers := [] } _
  refine wpAnyH_take (i := 9) (v := .bool false) rfl (by kernel_rfl) (by kernel_rfl) (by kernel_rfl) (fun _ _ _ h => h) (Or.inl ⟨by kernel_rfl, fun w hS => by go_simp⟩) hHeld ?_
  change wpAnyH _ _ _ _ _ _ _ { tmps := List.toArray (_ :: _ :: _ :: .slice (some ⟨gx, 0, none⟩) xs.length cx :: .slice (some ⟨gy, 0, none⟩) ys.length cy :: .slice (some ⟨gz, 0, none⟩) Z.length cz :: _ :: _ :: _ :: .slice a5 xs.length c5 :: .slice a6 ys.length c6 :: _ :: _ :: _ :: _ :: _ :: _ :: _ :: _ :: _ :: _ :: _ :: _ :: _ :: _ :: _ :: _ :: _ :: _ :: _ :: _ :: _ :: _ :: _ :: _ :: _ :: _ :: _ :: _ :: _ :: _ :: _ :: _ :: _ :: _ :: _ :: _ :: _ :: .slice a5 xs.length c5 :: .slice (some ⟨gx, 0, none⟩) xs.length cx :: .bool true :: .bool false :: .bool false :: .slice a6 ys.length c6 :: .slice (some ⟨gy, 0, none⟩) ys.length cy :: .bool true :: .bool false :: .bool false :: _ :: _ :: _ :: _ :: _ :: _ :: _ :: _ :: _ :: _ :: _ :: _ :: _ :: _ :: _ :: _ :: _ :: _ :: _ :: _ :: _ :: _ :: _ :: _ :: _ :: _ :: _ :: _ :: _ :: _ :: _ :: _ :: _ :: _ :: _ :: _ :: _ :: _ :: _ :: _ :: _ :: _ :: _ :: _ :: _ :: _ :: _ :: _ :: _ :: _ :: _ :: _ :: _ :: _ :: _ :: []), defers := [] } _
  refine wpAnyH_take (i := 10) (v := .bool false) rfl (by kernel_rfl) (by kernel_rfl) (by kernel_rfl) (fun _ _ _ h => h) (Or.inl ⟨by kernel_rfl, fun w hS => by go_simp⟩) hHeld ?_
  change wpAnyH _ _ _ _ _ _ _ { tmps := List.toArray (_ :: _ :: _ :: .slice (some ⟨gx, 0, none⟩) xs.length cx :: .slice (some ⟨gy, 0, none⟩) ys.length cy :: .slice (some ⟨gz, 0, none⟩) Z.length cz :: _ :: _ :: _ :: .slice a5 xs.length c5 :: .slice a6 ys.length c6 :: _ :: _ :: _ :: _ :: _ :: _ :: _ :: _ :: _ :: _ :: _ :: _ :: _ :: _ :: _ :: _ :: _ :: _ :: _ :: _ :: _ :: _ :: _ :: _ :: _ :: _ :: _ :: _ :: _ :: _ :: _ :: _ :: _ :: _ :: _ :: _ :: _ :: .slice a5 xs.length c5 :: .slice (some ⟨gx, 0, none⟩) xs.length cx :: .bool true :: .bool false :: .bool false :: .slice a6 ys.length c6 :: .slice (some ⟨gy, 0, none⟩) ys.length cy :: .bool true :: .bool false :: .bool false :: .bool false :: _ :: _ :: _ :: _ :: _ :: _ :: _ :: _ :: _ :: _ :: _ :: _ :: _ :: _ :: _ :: _ :: _ :: _ :: _ :: _ :: _ :: _ :: _ :: _ :: _ :: _ :: _ :: _ :: _ :: _ :: _ :: _ :: _ :: _ :: _ :: _ :: _ :: _ :: _ :: _ :: _ :: _ :: _ :: _ :: _ :: _ :: _ :: _ :: _ :: _ :: _ :: _ :: _ :: _ :: []), defers := [] } _
  refine wpAnyH_take (i := 11) (v := .slice (some ⟨gz, 0, none⟩) Z.length cz) rfl (by kernel_rfl) (by kernel_rfl) (by kernel_rfl) (fun _ _ _ h => h) (Or.inl ⟨by kernel_rfl, fun w hS => by go_simp⟩) hHeld ?_
  change wpAnyH _ _ _ _ _ _ _ { tmps := List.toArray (_ :: _ :: _ :: .slice (some ⟨gx, 0, none⟩) xs.length cx :: .slice (some ⟨gy, 0, none⟩) ys.length cy :: .slice (some ⟨gz, 0, none⟩) Z.length cz :: _ :: _ :: _ :: .slice a5 xs.length c5 :: .slice a6 ys.length c6 :: _ :: _ :: _ :: _ :: _ :: _ :: _ :: _ :: _ :: _ :: _ :: _ :: _ :: _ :: _ :: _ :: _ :: _ :: _ :: _ :: _ :: _ :: _ :: _ :: _ :: _ :: _ :: _ :: _ :: _ :: _ :: _ :: _ :: _ :: _ :: _ :: _ :: .slice a5 xs.length c5 :: .slice (some ⟨gx, 0, none⟩) xs.length cx :: .bool true :: .bool false :: .bool false :: .slice a6 ys.length c6 :: .slice (some ⟨gy, 0, none⟩) ys.length cy :: .bool true :: .bool false :: .bool false :: .bool false :: .slice (some ⟨gz, 0, none⟩) Z.length cz :: _ :: _ :: _ :: _ :: _ :: _ :: _ :: _ :: _ :: _ :: _ :: _ :: _ :: _ :: _ :: _ :: _ :: _ :: _ :: _ :: _ :: _ :: _ :: _ :: _ :: _ :: _ :: _ :: _ :: _ :: _ :: _ :: _ :: _ :: _ :: _ :: _ :: _ :: _ :: _ :: _ :: _ :: _ :: _ :: _ :: _ :: _ :: _ :: _ :: _ :: _ :: _ :: _ :: []), defers := [] } _
  refine wpAnyH_ready (rs := [12]) (by kernel_rfl) (by simp) ?_
  refine AllReadyH.cons rfl (fun K hK => ?_) AllReadyH.nil
  go_simp
  go_wp2_with (go_at_call 18; refine (RZ _ (U3.below Bb)).mono ?_; rintro e7 wc ⟨rfl, hbq⟩; have Bc := btrans Bb hbq; clear hbq)
  clear hHeld
  refine hK.out _ _ (⟨ble Bc f0, ble Bc f1, ble Bc f2, ble Bc f3, ble Bc f4, ble Bc f5, ble Bc f6, ble Bc f7⟩) (fun hHeld => ?_)
  clear hK K
  change wpAnyH _ _ _ _ _ _ _ { tmps := List.toArray (_ :: _ :: _ :: .slice (some ⟨gx, 0, none⟩) xs.length cx :: .slice (some ⟨gy, 0, none⟩) ys.length cy :: .slice (some ⟨gz, 0, none⟩) Z.length cz :: _ :: _ :: _ :: .slice a5 xs.length c5 :: .slice a6 ys.length c6 :: _ :: _ :: _ :: _ :: _ :: _ :: _ :: _ :: _ :: _ :: _ :: _ :: _ :: _ :: _ :: _ :: _ :: _ :: _ :: _ :: _ :: _ :: _ :: _ :: _ :: _ :: _ :: _ :: _ :: _ :: _ :: _ :: _ :: _ :: _ :: _ :: _ :: .slice a5 xs.length c5 :: .slice (some ⟨gx, 0, none⟩) xs.length cx :: .bool true :: .bool false :: .bool false :: .slice a6 ys.length c6 :: .slice (some ⟨gy, 0, none⟩) ys.length cy :: .bool true :: .bool false :: .bool false :: .bool false :: .slice (some ⟨gz, 0, none⟩) Z.length cz :: .bool true :: _ :: _ :: _ :: _ :: _ :: _ :: _ :: _ :: _ :: _ :: _ :: _ :: _ :: _ :: _ :: _ :: _ :: _ :: _ :: _ :: _ :: _ :: _ :: _ :: _ :: _ :: _ :: _ :: _ :: _ :: _ :: _ :: _ :: _ :: _ :: _ :: _ :: _ :: _ :: _ :: _ :: _ :: _ :: _ :: _ :: _ :: _ :: _ :: _ :: _ :: _ :: _ :: []), defers := [] } _
  refine wpAnyH_take (i := 13) (v := .bool false) rfl (by kernel_rfl) (by kernel_rfl) (by kernel_rfl) (fun _ _ _ h => h) (Or.inl ⟨by kernel_rfl, fun w hS => by go_simp⟩) hHeld ?_
  change wpAnyH _ _ _ _ _ _ _ { tmps := List.toArray (_ :: _ :: _ :: .slice (some ⟨gx, 0, none⟩) xs.length cx :: .slice (some ⟨gy, 0, none⟩) ys.length cy :: .slice (some ⟨gz, 0, none⟩) Z.length cz :: _ :: _ :: _ :: .slice a5 xs.length c5 :: .slice a6 ys.length c6 :: _ :: _ :: _ :: _ :: _ :: _ :: _ :: _ :: _ :: _ :: _ :: _ :: _ :: _ :: _ :: _ :: _ :: _ :: _ :: _ :: _ :: _ :: _ :: _ :: _ :: _ :: _ :: _ :: _ :: _ :: _ :: _ :: _ :: _ :: _ :: _ :: _ :: .slice a5 xs.length c5 :: .slice (some ⟨gx, 0, none⟩) xs.length cx :: .bool true :: .bool false :: .bool false :: .slice a6 ys.length c6 :: .slice (some ⟨gy, 0, none⟩) ys.length cy :: .bool true :: .bool false :: .bool false :: .bool false :: .slice (some ⟨gz, 0, none⟩) Z.length cz :: .bool true :: .bool false :: _ :: _ :: _ :: _ :: _ :: _ :: _ :: _ :: _ :: _ :: _ :: _ :: _ :: _ :: _ :: _ :: _ :: _ :: _ :: _ :: _ :: _ :: _ :: _ :: _ :: _ :: _ :: _ :: _ :: _ :: _ :: _ :: _ :: _ :: _ :: _ :: _ :: _ :: _ :: _ :: _ :: _ :: _ :: _ :: _ :: _ :: _ :: _ :: _ :: _ :: _ :: []), defers := [] } _
  refine wpAnyH_take (i := 14) (v := .bool false) rfl (by kernel_rfl) (by kernel_rfl) (by kernel_rfl) (fun _ _ _ h => h) (Or.inl ⟨by kernel_rfl, fun w hS => by go_simp⟩) hHeld ?_
  change wpAnyH _ _ _ _ _ _ _ { tmps := List.toArray (_ :: _ :: _ :: .slice (some ⟨gx, 0, none⟩) xs.length cx :: .slice (some ⟨gy, 0, none⟩) ys.length cy :: .slice (some ⟨gz, 0, none⟩) Z.length cz :: _ :: _ :: _ :: .slice a5 xs.length c5 :: .slice a6 ys.length c6 :: _ :: _ :: _ :: _ :: _ :: _ :: _ :: _ :: _ :: _ :: _ :: _ :: _ :: _ :: _ :: _ :: _ :: _ :: _ :: _ :: _ :: _ :: _ :: _ :: _ :: _ :: _ :: _ :: _ :: _ :: _ :: _ :: _ :: _ :: _ :: _ :: _ :: .slice a5 xs.length c5 :: .slice (some ⟨gx, 0, none⟩) xs.length cx :: .bool true :: .bool false :: .bool false :: .slice a6 ys.length c6 :: .slice (some ⟨gy, 0, none⟩) ys.length cy :: .bool true :: .bool false :: .bool false :: .bool false :: .slice (some ⟨gz, 0, none⟩) Z.length cz :: .bool true :: .bool false :: .bool false :: _ :: _ :: _ :: _ :: _ :: _ :: _ :: _ :: _ :: _ :: _ :: _ :: _ :: _ :: _ :: _ :: _ :: _ :: _ :: _ :: _ :: _ :: _ :: _ :: _ :: _ :: _ :: _ :: _ :: _ :: _ :: _ :: _ :: _ :: _ :: _ :: _ :: _ :: _ :: _ :: _ :: _ :: _ :: _ :: _ :: _ :: _ :: _ :: _ :: _ :: []), defers := [] } _
  refine wpAnyH_take (i := 15) (v := .bool false) rfl (by kernel_rfl) (by kernel_rfl) (by kernel_rfl) (fun _ _ _ h => h) (Or.inl ⟨by kernel_rfl, fun w hS => by go_simp⟩) hHeld ?_
  change wpAnyH _ _ _ _ _ _ _ { tmps := List.toArray (_ :: _ :: _ :: .slice (some ⟨gx, 0, none⟩) xs.length cx :: .slice (some ⟨gy, 0, none⟩) ys.length cy :: .slice (some ⟨gz, 0, none⟩) Z.length cz :: _ :: _ :: _ :: .slice a5 xs.length c5 :: .slice a6 ys.length c6 :: _ :: _ :: _ :: _ :: _ :: _ :: _ :: _ :: _ :: _ :: _ :: _ :: _ :: _ :: _ :: _ :: _ :: _ :: _ :: _ :: _ :: _ :: _ :: _ :: _ :: _ :: _ :: _ :: _ :: _ :: _ :: _ :: _ :: _ :: _ :: _ :: _ :: .slice a5 xs.length c5 :: .slice (some ⟨gx, 0, none⟩) xs.length cx :: .bool true :: .bool false :: .bool false :: .slice a6 ys.length c6 :: .slice (some ⟨gy, 0, none⟩) ys.length cy :: .bool true :: .bool false :: .bool false :: .bool false :: .slice (some ⟨gz, 0, none⟩) Z.length cz :: .bool true :: .bool false :: .bool false :: .bool false :: _ :: _ :: _ :: _ :: _ :: _ :: _ :: _ :: _ :: _ :: _ :: _ :: _ :: _ :: _ :: _ :: _ :: _ :: _ :: _ :: _ :: _ :: _ :: _ :: _ :: _ :: _ :: _ :: _ :: _ :: _ :: _ :: _ :: _ :: _ :: _ :: _ :: _ :: _ :: _ :: _ :: _ :: _ :: _ :: _ :: _ :: _ :: _ :: _ :: []), defers := [] } _
  refine wpAnyH_take (i := 16) (v := .slice (some ⟨gx, 0, none⟩) xs.length cx) rfl (by kernel_rfl) (by kernel_rfl) (by kernel_rfl) (fun _ _ _ h => h) (Or.inl ⟨by kernel_rfl, fun w hS => by go_simp⟩) hHeld ?_
  change wpAnyH _ _ _ _ _ _ _ { tmps := List.toArray (_ :: _ :: _ :: .slice (some ⟨gx, 0, none⟩) xs.length cx :: .slice (some ⟨gy, 0, none⟩) ys.length cy :: .slice (some ⟨gz, 0, none⟩) Z.length cz :: _ :: _ :: _ :: .slice a5 xs.length c5 :: .slice a6 ys.length c6 :: _ :: _ :: _ :: _ :: _ :: _ :: _ :: _ :: _ :: _ :: _ :: _ :: _ :: _ :: _ :: _ :: _ :: _ :: _ :: _ :: _ :: _ :: _ :: _ :: _ :: _ :: _ :: _ :: _ :: _ :: _ :: _ :: _ :: _ :: _ :: _ :: _ :: .slice a5 xs.length c5 :: .slice (some ⟨gx, 0, none⟩) xs.length cx :: .bool true :: .bool false :: .bool false :: .slice a6 ys.length c6 :: .slice (some ⟨gy, 0, none⟩) ys.length cy :: .bool true :: .bool false :: .bool false :: .bool false :: .slice (some ⟨gz, 0, none⟩) Z.length cz :: .bool true :: .bool false :: .bool false :: .bool false :: .slice (some ⟨gx, 0, none⟩) xs.length cx :: _ :: _ :: _ :: _ :: _ :: _ :: _ :: _ :: _ :: _ :: _ :: _ :: _ :: _ :: _ :: _ :: _ :: _ :: _ :: _ :: _ :: _ :: _ :: _ :: _ :: _ :: _ :: _ :: _ :: _ :: _ :: _ :: _ :: _ :: _ :: _ :: _ :: _ :: _ :: _ :: _ :: _ :: _ :: _ :: _ :: _ :: _ :: _ :: []), defers := [] } _
  refine wpAnyH_take (i := 17) (v := .slice (some ⟨gx, 0, none⟩) xs.length cx) rfl (by kernel_rfl) (by kernel_rfl) (by kernel_rfl) (fun _ _ _ h => h) (Or.inl ⟨by kernel_rfl, fun w hS => by go_simp⟩) hHeld ?_
  change wpAnyH _ _ _ _ _ _ _ { tmps := List.toArray (_ :: _ :: _ :: .slice (some ⟨gx, 0, none⟩) xs.length cx :: .slice (some ⟨gy, 0, none⟩) ys.length cy :: .slice (some ⟨gz, 0, none⟩) Z.length cz :: _ :: _ :: _ :: .slice a5 xs.length c5 :: .slice a6 ys.length c6 :: _ :: _ :: _ :: _ :: _ :: _ :: _ :: _ :: _ :: _ :: _ :: _ :: _ :: _ :: _ :: _ :: _ :: _ :: _ :: _ :: _ :: _ :: _ :: _ :: _ :: _ :: _ :: _ :: _ :: _ :: _ :: _ :: _ :: _ :: _ :: _ :: _ :: .slice a5 xs.length c5 :: .slice (some ⟨gx, 0, none⟩) xs.length cx :: .bool true :: .bool false :: .bool false :: .slice a6 ys.length c6 :: .slice (some ⟨gy, 0, none⟩) ys.length cy :: .bool true :: .bool false :: .bool false :: .bool false :: .slice (some ⟨gz, 0, none⟩) Z.length cz :: .bool true :: .bool false :: .bool false :: .bool false :: .slice (some ⟨gx, 0, none⟩) xs.length cx :: .slice (some ⟨gx, 0, none⟩) xs.length cx :: _ :: _ :: _ :: _ :: _ :: _ :: _ :: _ :: _ :: _ :: _ :: _ :: _ :: _ :: _ :: _ :: _ :: _ :: _ :: _ :: _ :: _ :: _ :: _ :: _ :: _ :: _ :: _ :: _ :: _ :: _ :: _ :: _ :: _ :: _ :: _ :: _ :: _ :: _ :: _ :: _ :: _ :: _ :: _ :: _ :: _ :: _ :: []), defers := [] } _
  refine wpAnyH_take (i := 18) (v := .int .i64 (xs.length : Int)) rfl (by kernel_rfl) (by kernel_rfl) (by kernel_rfl) (fun _ _ _ h => h) (Or.inl ⟨by kernel_rfl, fun w hS => by go_simp⟩) hHeld ?_
  change wpAnyH _ _ _ _ _ _ _ { tmps := List.toArray (_ :: _ :: _ :: .slice (some ⟨gx, 0, none⟩) xs.length cx :: .slice (some ⟨gy, 0, none⟩) ys.length cy :: .slice (some ⟨gz, 0, none⟩) Z.length cz :: _ :: _ :: _ :: .slice a5 xs.length c5 :: .slice a6 ys.length c6 :: _ :: _ :: _ :: _ :: _ :: _ :: _ :: _ :: _ :: _ :: _ :: _ :: _ :: _ :: _ :: _ :: _ :: _ :: _ :: _ :: _ :: _ :: _ :: _ :: _ :: _ :: _ :: _ :: _ :: _ :: _ :: _ :: _ :: _ :: _ :: _ :: _ :: .slice a5 xs.length c5 :: .slice (some ⟨gx, 0, none⟩) xs.length cx :: .bool true :: .bool false :: .bool false :: .slice a6 ys.length c6 :: .slice (some ⟨gy, 0, none⟩) ys.length cy :: .bool true :: .bool false :: .bool false :: .bool false :: .slice (some ⟨gz, 0, none⟩) Z.length cz :: .bool true :: .bool false :: .bool false :: .bool false :: .slice (some ⟨gx, 0, none⟩) xs.length cx :: .slice (some ⟨gx, 0, none⟩) xs.length cx :: .int .i64 (xs.length : Int) :: _ :: _ :: _ :: _ :: _ :: _ :: _ :: _ :: _ :: _ :: _ :: _ :: _ :: _ :: _ :: _ :: _ :: _ :: _ :: _ :: _ :: _ :: _ :: _ :: _ :: _ :: _ :: _ :: _ :: _ :: _ :: _ :: _ :: _ :: _ :: _ :: _ :: _ :: _ :: _ :: _ :: _ :: _ :: _ :: _ :: _ :: []), defers := [] } _
  refine wpAnyH_take (i := 19) (v := .int .i64 (n : Int)) rfl (by kernel_rfl) (by kernel_rfl) (by kernel_rfl) (fun _ _ _ h => h) (Or.inl ⟨by kernel_rfl, fun w hS => by go_simp⟩) hHeld ?_
  change wpAnyH _ _ _ _ _ _ _ { tmps := List.toArray (_ :: _ :: _ :: .slice (some ⟨gx, 0, none⟩) xs.length cx :: .slice (some ⟨gy, 0, none⟩) ys.length cy :: .slice (some ⟨gz, 0, none⟩) Z.length cz :: _ :: _ :: _ :: .slice a5 xs.length c5 :: .slice a6 ys.length c6 :: _ :: _ :: _ :: _ :: _ :: _ :: _ :: _ :: _ :: _ :: _ :: _ :: _ :: _ :: _ :: _ :: _ :: _ :: _ :: _ :: _ :: _ :: _ :: _ :: _ :: _ :: _ :: _ :: _ :: _ :: _ :: _ :: _ :: _ :: _ :: _ :: _ :: .slice a5 xs.length c5 :: .slice (some ⟨gx, 0, none⟩) xs.length cx :: .bool true :: .bool false :: .bool false :: .slice a6 ys.length c6 :: .slice (some ⟨gy, 0, none⟩) ys.length cy :: .bool true :: .bool false :: .bool false :: .bool false :: .slice (some ⟨gz, 0, none⟩) Z.length cz :: .bool true :: .bool false :: .bool false :: .bool false :: .slice (some ⟨gx, 0, none⟩) xs.length cx :: .slice (some ⟨gx, 0, none⟩) xs.length cx :: .int .i64 (xs.length : Int) :: .int .i64 (n : Int) :: _ :: _ :: _ :: _ :: _ :: _ :: _ :: _ :: _ :: _ :: _ :: _ :: _ :: _ :: _ :: _ :: _ :: _ :: _ :: _ :: _ :: _ :: _ :: _ :: _ :: _ :: _ :: _ :: _ :: _ :: _ :: _ :: _ :: _ :: _ :: _ :: _ :: _ :: _ :: _ :: _ :: _ :: _ :: _ :: _ :: []), defers := [] } _
  refine wpAnyH_take (i := 20) (v := .pointer (some ⟨gx, n * 4, none⟩)) rfl (by kernel_rfl) (by kernel_rfl) (by kernel_rfl) (fun _ _ _ h => h) (Or.inl ⟨by kernel_rfl, fun w hS => by go_simp⟩) hHeld ?_
  change wpAnyH _ _ _ _ _ _ _ { tmps := List.toArray (_ :: _ :: _ :: .slice (some ⟨gx, 0, none⟩) xs.length cx :: .slice (some ⟨gy, 0, none⟩) ys.length cy :: .slice (some ⟨gz, 0, none⟩) Z.length cz :: _ :: _ :: _ :: .slice a5 xs.length c5 :: .slice a6 ys.length c6 :: _ :: _ :: _ :: _ :: _ :: _ :: _ :: _ :: _ :: _ :: _ :: _ :: _ :: _ :: _ :: _ :: _ :: _ :: _ :: _ :: _ :: _ :: _ :: _ :: _ :: _ :: _ :: _ :: _ :: _ :: _ :: _ :: _ :: _ :: _ :: _ :: _ :: .slice a5 xs.length c5 :: .slice (some ⟨gx, 0, none⟩) xs.length cx :: .bool true :: .bool false :: .bool false :: .slice a6 ys.length c6 :: .slice (some ⟨gy, 0, none⟩) ys.length cy :: .bool true :: .bool false :: .bool false :: .bool false :: .slice (some ⟨gz, 0, none⟩) Z.length cz :: .bool true :: .bool false :: .bool false :: .bool false :: .slice (some ⟨gx, 0, none⟩) xs.length cx :: .slice (some ⟨gx, 0, none⟩) xs.length cx :: .int .i64 (xs.length : Int) :: .int .i64 (n : Int) :: .pointer (some ⟨gx, n * 4, none⟩) :: _ :: _ :: _ :: _ :: _ :: _ :: _ :: _ :: _ :: _ :: _ :: _ :: _ :: _ :: _ :: _ :: _ :: _ :: _ :: _ :: _ :: _ :: _ :: _ :: _ :: _ :: _ :: _ :: _ :: _ :: _ :: _ :: _ :: _ :: _ :: _ :: _ :: _ :: _ :: _ :: _ :: _ :: _ :: _ :: []), defers := [] } _
  refine wpAnyH_take (i := 21) (v := .agg #[.int .i64 xi, .int .i64 xk, .int .i64 xm, .bool xb]) rfl (by kernel_rfl) (by kernel_rfl) (by kernel_rfl) (fun _ _ _ h => h) (Or.inl ⟨by kernel_rfl, fun w hS => by (obtain ⟨hS0, hS1, hS2, hS3, hS4, hS5, hS6, hS7⟩ := hS; go_simp)⟩) hHeld ?_
  change wpAnyH _ _ _ _ _ _ _ { tmps := List.toArray (_ :: _ :: _ :: .slice (some ⟨gx, 0, none⟩) xs.length cx :: .slice (some ⟨gy, 0, none⟩) ys.length cy :: .slice (some ⟨gz, 0, none⟩) Z.length cz :: _ :: _ :: _ :: .slice a5 xs.length c5 :: .slice a6 ys.length c6 :: _ :: _ :: _ :: _ :: _ :: _ :: _ :: _ :: _ :: _ :: _ :: _ :: _ :: _ :: _ :: _ :: _ :: _ :: _ :: _ :: _ :: _ :: _ :: _ :: _ :: _ :: _ :: _ :: _ :: _ :: _ :: _ :: _ :: _ :: _ :: _ :: _ :: .slice a5 xs.length c5 :: .slice (some ⟨gx, 0, none⟩) xs.length cx :: .bool true :: .bool false :: .bool false :: .slice a6 ys.length c6 :: .slice (some ⟨gy, 0, none⟩) ys.length cy :: .bool true :: .bool false :: .bool false :: .bool false :: .slice (some ⟨gz, 0, none⟩) Z.length cz :: .bool true :: .bool false :: .bool false :: .bool false :: .slice (some ⟨gx, 0, none⟩) xs.length cx :: .slice (some ⟨gx, 0, none⟩) xs.length cx :: .int .i64 (xs.length : Int) :: .int .i64 (n : Int) :: .pointer (some ⟨gx, n * 4, none⟩) :: .agg #[.int .i64 xi, .int .i64 xk, .int .i64 xm, .bool xb] :: _ :: _ :: _ :: _ :: _ :: _ :: _ :: _ :: _ :: _ :: _ :: _ :: _ :: _ :: _ :: _ :: _ :: _ :: _ :: _ :: _ :: _ :: _ :: _ :: _ :: _ :: _ :: _ :: _ :: _ :: _ :: _ :: _ :: _ :: _ :: _ :: _ :: _ :: _ :: _ :: _ :: _ :: _ :: []), defers := [] } _
  refine wpAnyH_take (i := 22) (v := .slice (some ⟨gy, 0, none⟩) ys.length cy) rfl (by kernel_rfl) (by kernel_rfl) (by kernel_rfl) (fun _ _ _ h => h) (Or.inl ⟨by kernel_rfl, fun w hS => by go_simp⟩) hHeld ?_
  change wpAnyH _ _ _ _ _ _ _ { tmps := List.toArray (_ :: _ :: _ :: .slice (some ⟨gx, 0, none⟩) xs.length cx :: .slice (some ⟨gy, 0, none⟩) ys.length cy :: .slice (some ⟨gz, 0, none⟩) Z.length cz :: _ :: _ :: _ :: .slice a5 xs.length c5 :: .slice a6 ys.length c6 :: _ :: _ :: _ :: _ :: _ :: _ :: _ :: _ :: _ :: _ :: _ :: _ :: _ :: _ :: _ :: _ :: _ :: _ :: _ :: _ :: _ :: _ :: _ :: _ :: _ :: _ :: _ :: _ :: _ :: _ :: _ :: _ :: _ :: _ :: _ :: _ :: _ :: .slice a5 xs.length c5 :: .slice (some ⟨gx, 0, none⟩) xs.length cx :: .bool true :: .bool false :: .bool false :: .slice a6 ys.length c6 :: .slice (some ⟨gy, 0, none⟩) ys.length cy :: .bool true :: .bool false :: .bool false :: .bool false :: .slice (some ⟨gz, 0, none⟩) Z.length cz :: .bool true :: .bool false :: .bool false :: .bool false :: .slice (some ⟨gx, 0, none⟩) xs.length cx :: .slice (some ⟨gx, 0, none⟩) xs.length cx :: .int .i64 (xs.length : Int) :: .int .i64 (n : Int) :: .pointer (some ⟨gx, n * 4, none⟩) :: .agg #[.int .i64 xi, .int .i64 xk, .int .i64 xm, .bool xb] :: .slice (some ⟨gy, 0, none⟩) ys.length cy :: _ :: _ :: _ :: _ :: _ :: _ :: _ :: _ :: _ :: _ :: _ :: _ :: _ :: _ :: _ :: _ :: _ :: _ :: _ :: _ :: _ :: _ :: _ :: _ :: _ :: _ :: _ :: _ :: _ :: _ :: _ :: _ :: _ :: _ :: _ :: _ :: _ :: _ :: _ :: _ :: _ :: _ :: []), defers := [] } _
  refine wpAnyH_take (i := 23) (v := .pointer (some ⟨gy, 0, none⟩)) rfl (by kernel_rfl) (by kernel_rfl) (by kernel_rfl) (fun _ _ _ h => h) (Or.inl ⟨by kernel_rfl, fun w hS => by go_simp⟩) hHeld ?_
  change wpAnyH _ _ _ _ _ _ _ { tmps := List.toArray (_ :: _ :: _ :: .slice (some ⟨gx, 0, none⟩) xs.length cx :: .slice (some ⟨gy, 0, none⟩) ys.length cy :: .slice (some ⟨gz, 0, none⟩) Z.length cz :: _ :: _ :: _ :: .slice a5 xs.length c5 :: .slice a6 ys.length c6 :: _ :: _ :: _ :: _ :: _ :: _ :: _ :: _ :: _ :: _ :: _ :: _ :: _ :: _ :: _ :: _ :: _ :: _ :: _ :: _ :: _ :: _ :: _ :: _ :: _ :: _ :: _ :: _ :: _ :: _ :: _ :: _ :: _ :: _ :: _ :: _ :: _ :: .slice a5 xs.length c5 :: .slice (some ⟨gx, 0, none⟩) xs.length cx :: .bool true :: .bool false :: .bool false :: .slice a6 ys.length c6 :: .slice (some ⟨gy, 0, none⟩) ys.length cy :: .bool true :: .bool false :: .bool false :: .bool false :: .slice (some ⟨gz, 0, none⟩) Z.length cz :: .bool true :: .bool false :: .bool false :: .bool false :: .slice (some ⟨gx, 0, none⟩) xs.length cx :: .slice (some ⟨gx, 0, none⟩) xs.length cx :: .int .i64 (xs.length : Int) :: .int .i64 (n : Int) :: .pointer (some ⟨gx, n * 4, none⟩) :: .agg #[.int .i64 xi, .int .i64 xk, .int .i64 xm, .bool xb] :: .slice (some ⟨gy, 0, none⟩) ys.length cy :: .pointer (some ⟨gy, 0, none⟩) :: _ :: _ :: _ :: _ :: _ :: _ :: _ :: _ :: _ :: _ :: _ :: _ :: _ :: _ :: _ :: _ :: _ :: _ :: _ :: _ :: _ :: _ :: _ :: _ :: _ :: _ :: _ :: _ :: _ :: _ :: _ :: _ :: _ :: _ :: _ :: _ :: _ :: _ :: _ :: _ :: _ :: []), defers := [] } _
  refine wpAnyH_take (i := 24) (v := .agg #[.int .i64 yi, .int .i64 yk, .int .i64 ym, .bool yb]) rfl (by kernel_rfl) (by kernel_rfl) (by kernel_rfl) (fun _ _ _ h => h) (Or.inl ⟨by kernel_rfl, fun w hS => by (obtain ⟨hS0, hS1, hS2, hS3, hS4, hS5, hS6, hS7⟩ := hS; go_simp)⟩) hHeld ?_
  change wpAnyH _ _ _ _ _ _ _ { tmps := List.toArray (_ :: _ :: _ :: .slice (some ⟨gx, 0, none⟩) xs.length cx :: .slice (some ⟨gy, 0, none⟩) ys.length cy :: .slice (some ⟨gz, 0, none⟩) Z.length cz :: _ :: _ :: _ :: .slice a5 xs.length c5 :: .slice a6 ys.length c6 :: _ :: _ :: _ :: _ :: _ :: _ :: _ :: _ :: _ :: _ :: _ :: _ :: _ :: _ :: _ :: _ :: _ :: _ :: _ :: _ :: _ :: _ :: _ :: _ :: _ :: _ :: _ :: _ :: _ :: _ :: _ :: _ :: _ :: _ :: _ :: _ :: _ :: .slice a5 xs.length c5 :: .slice (some ⟨gx, 0, none⟩) xs.length cx :: .bool true :: .bool false :: .bool false :: .slice a6 ys.length c6 :: .slice (some ⟨gy, 0, none⟩) ys.length cy :: .bool true :: .bool false :: .bool false :: .bool false :: .slice (some ⟨gz, 0, none⟩) Z.length cz :: .bool true :: .bool false :: .bool false :: .bool false :: .slice (some ⟨gx, 0, none⟩) xs.length cx :: .slice (some ⟨gx, 0, none⟩) xs.length cx :: .int .i64 (xs.length : Int) :: .int .i64 (n : Int) :: .pointer (some ⟨gx, n * 4, none⟩) :: .agg #[.int .i64 xi, .int .i64 xk, .int .i64 xm, .bool xb] :: .slice (some ⟨gy, 0, none⟩) ys.length cy :: .pointer (some ⟨gy, 0, none⟩) :: .agg #[.int .i64 yi, .int .i64 yk, .int .i64 ym, .bool yb] :: _ :: _ :: _ :: _ :: _ :: _ :: _ :: _ :: _ :: _ :: _ :: _ :: _ :: _ :: _ :: _ :: _ :: _ :: _ :: _ :: _ :: _ :: _ :: _ :: _ :: _ :: _ :: _ :: _ :: _ :: _ :: _ :: _ :: _ :: _ :: _ :: _ :: _ :: _ :: _ :: []), defers := [] } _
  refine wpAnyH_ready (rs := [25]) (by kernel_rfl) (by simp) ?_
  refine AllReadyH.cons rfl (fun K hK => ?_) AllReadyH.nil
  go_simp
  go_wp2_with (go_at_call 19; refine (CF _).mono ?_; rintro e7 wd ⟨rfl, hbq⟩; have Bd := btrans Bc hbq; clear hbq)
  clear hHeld
  refine hK.out _ _ (⟨ble Bd f0, ble Bd f1, ble Bd f2, ble Bd f3, ble Bd f4, ble Bd f5, ble Bd f6, ble Bd f7⟩) (fun hHeld => ?_)
  clear hK K
  change wpAnyH _ _ _ _ _ _ _ { tmps := List.toArray (_ :: _ :: _ :: .slice (some ⟨gx, 0, none⟩) xs.length cx :: .slice (some ⟨gy, 0, none⟩) ys.length cy :: .slice (some ⟨gz, 0, none⟩) Z.length cz :: _ :: _ :: _ :: .slice a5 xs.length c5 :: .slice a6 ys.length c6 :: _ :: _ :: _ :: _ :: _ :: _ :: _ :: _ :: _ :: _ :: _ :: _ :: _ :: _ :: _ :: _ :: _ :: _ :: _ :: _ :: _ :: _ :: _ :: _ :: _ :: _ :: _ :: _ :: _ :: _ :: _ :: _ :: _ :: _ :: _ :: _ :: _ :: .slice a5 xs.length c5 :: .slice (some ⟨gx, 0, none⟩) xs.length cx :: .bool true :: .bool false :: .bool false :: .slice a6 ys.length c6 :: .slice (some ⟨gy, 0, none⟩) ys.length cy :: .bool true :: .bool false :: .bool false :: .bool false :: .slice (some ⟨gz, 0, none⟩) Z.length cz :: .bool true :: .bool false :: .bool false :: .bool false :: .slice (some ⟨gx, 0, none⟩) xs.length cx :: .slice (some ⟨gx, 0, none⟩) xs.length cx :: .int .i64 (xs.length : Int) :: .int .i64 (n : Int) :: .pointer (some ⟨gx, n * 4, none⟩) :: .agg #[.int .i64 xi, .int .i64 xk, .int .i64 xm, .bool xb] :: .slice (some ⟨gy, 0, none⟩) ys.length cy :: .pointer (some ⟨gy, 0, none⟩) :: .agg #[.int .i64 yi, .int .i64 yk, .int .i64 ym, .bool yb] :: .bool true :: _ :: _ :: _ :: _ :: _ :: _ :: _ :: _ :: _ :: _ :: _ :: _ :: _ :: _ :: _ :: _ :: _ :: _ :: _ :: _ :: _ :: _ :: _ :: _ :: _ :: _ :: _ :: _ :: _ :: _ :: _ :: _ :: _ :: _ :: _ :: _ :: _ :: _ :: _ :: []), defers := [] } _
  refine wpAnyH_take (i := 26) (v := .bool false) rfl (by kernel_rfl) (by kernel_rfl) (by kernel_rfl) (fun _ _ _ h => h) (Or.inl ⟨by kernel_rfl, fun w hS => by go_simp⟩) hHeld ?_
  change wpAnyH _ _ _ _ _ _ _ { tmps := List.toArray (_ :: _ :: _ :: .slice (some ⟨gx, 0, none⟩) xs.length cx :: .slice (some ⟨gy, 0, none⟩) ys.length cy :: .slice (some ⟨gz, 0, none⟩) Z.length cz :: _ :: _ :: _ :: .slice a5 xs.length c5 :: .slice a6 ys.length c6 :: _ :: _ :: _ :: _ :: _ :: _ :: _ :: _ :: _ :: _ :: _ :: _ :: _ :: _ :: _ :: _ :: _ :: _ :: _ :: _ :: _ :: _ :: _ :: _ :: _ :: _ :: _ :: _ :: _ :: _ :: _ :: _ :: _ :: _ :: _ :: _ :: _ :: .slice a5 xs.length c5 :: .slice (some ⟨gx, 0, none⟩) xs.length cx :: .bool true :: .bool false :: .bool false :: .slice a6 ys.length c6 :: .slice (some ⟨gy, 0, none⟩) ys.length cy :: .bool true :: .bool false :: .bool false :: .bool false :: .slice (some ⟨gz, 0, none⟩) Z.length cz :: .bool true :: .bool false :: .bool false :: .bool false :: .slice (some ⟨gx, 0, none⟩) xs.length cx :: .slice (some ⟨gx, 0, none⟩) xs.length cx :: .int .i64 (xs.length : Int) :: .int .i64 (n : Int) :: .pointer (some ⟨gx, n * 4, none⟩) :: .agg #[.int .i64 xi, .int .i64 xk, .int .i64 xm, .bool xb] :: .slice (some ⟨gy, 0, none⟩) ys.length cy :: .pointer (some ⟨gy, 0, none⟩) :: .agg #[.int .i64 yi, .int .i64 yk, .int .i64 ym, .bool yb] :: .bool true :: .bool false :: _ :: _ :: _ :: _ :: _ :: _ :: _ :: _ :: _ :: _ :: _ :: _ :: _ :: _ :: _ :: _ :: _ :: _ :: _ :: _ :: _ :: _ :: _ :: _ :: _ :: _ :: _ :: _ :: _ :: _ :: _ :: _ :: _ :: _ :: _ :: _ :: _ :: _ :: []), defers := [] } _
  refine wpAnyH_take (i := 27) (v := .bool false) rfl (by kernel_rfl) (by kernel_rfl) (by kernel_rfl) (fun _ _ _ h => h) (Or.inl ⟨by kernel_rfl, fun w hS => by go_simp⟩) hHeld ?_
  change wpAnyH _ _ _ _ _ _ _ { tmps := List.toArray (_ :: _ :: _ :: .slice (some ⟨gx, 0, none⟩) xs.length cx :: .slice (some ⟨gy, 0, none⟩) ys.length cy :: .slice (some ⟨gz, 0, none⟩) Z.length cz :: _ :: _ :: _ :: .slice a5 xs.length c5 :: .slice a6 ys.length c6 :: _ :: _ :: _ :: _ :: _ :: _ :: _ :: _ :: _ :: _ :: _ :: _ :: _ :: _ :: _ :: _ :: _ :: _ :: _ :: _ :: _ :: _ :: _ :: _ :: _ :: _ :: _ :: _ :: _ :: _ :: _ :: _ :: _ :: _ :: _ :: _ :: _ :: .slice a5 xs.length c5 :: .slice (some ⟨gx, 0, none⟩) xs.length cx :: .bool true :: .bool false :: .bool false :: .slice a6 ys.length c6 :: .slice (some ⟨gy, 0, none⟩) ys.length cy :: .bool true :: .bool false :: .bool false :: .bool false :: .slice (some ⟨gz, 0, none⟩) Z.length cz :: .bool true :: .bool false :: .bool false :: .bool false :: .slice (some ⟨gx, 0, none⟩) xs.length cx :: .slice (some ⟨gx, 0, none⟩) xs.length cx :: .int .i64 (xs.length : Int) :: .int .i64 (n : Int) :: .pointer (some ⟨gx, n * 4, none⟩) :: .agg #[.int .i64 xi, .int .i64 xk, .int .i64 xm, .bool xb] :: .slice (some ⟨gy, 0, none⟩) ys.length cy :: .pointer (some ⟨gy, 0, none⟩) :: .agg #[.int .i64 yi, .int .i64 yk, .int .i64 ym, .bool yb] :: .bool true :: .bool false :: .bool false :: _ :: _ :: _ :: _ :: _ :: _ :: _ :: _ :: _ :: _ :: _ :: _ :: _ :: _ :: _ :: _ :: _ :: _ :: _ :: _ :: _ :: _ :: _ :: _ :: _ :: _ :: _ :: _ :: _ :: _ :: _ :: _ :: _ :: _ :: _ :: _ :: _ :: []), defers := [] } _
  refine wpAnyH_take (i := 28) (v := .bool false) rfl (by kernel_rfl) (by kernel_rfl) (by kernel_rfl) (fun _ _ _ h => h) (Or.inl ⟨by kernel_rfl, fun w hS => by go_simp⟩) hHeld ?_
  change wpAnyH _ _ _ _ _ _ _ { tmps := List.toArray (_ :: _ :: _ :: .slice (some ⟨gx, 0, none⟩) xs.length cx :: .slice (some ⟨gy, 0, none⟩) ys.length cy :: .slice (some ⟨gz, 0, none⟩) Z.length cz :: _ :: _ :: _ :: .slice a5 xs.length c5 :: .slice a6 ys.length c6 :: _ :: _ :: _ :: _ :: _ :: _ :: _ :: _ :: _ :: _ :: _ :: _ :: _ :: _ :: _ :: _ :: _ :: _ :: _ :: _ :: _ :: _ :: _ :: _ :: _ :: _ :: _ :: _ :: _ :: _ :: _ :: _ :: _ :: _ :: _ :: _ :: _ :: .slice a5 xs.length c5 :: .slice (some ⟨gx, 0, none⟩) xs.length cx :: .bool true :: .bool false :: .bool false :: .slice a6 ys.length c6 :: .slice (some ⟨gy, 0, none⟩) ys.length cy :: .bool true :: .bool false :: .bool false :: .bool false :: .slice (some ⟨gz, 0, none⟩) Z.length cz :: .bool true :: .bool false :: .bool false :: .bool false :: .slice (some ⟨gx, 0, none⟩) xs.length cx :: .slice (some ⟨gx, 0, none⟩) xs.length cx :: .int .i64 (xs.length : Int) :: .int .i64 (n : Int) :: .pointer (some ⟨gx, n * 4, none⟩) :: .agg #[.int .i64 xi, .int .i64 xk, .int .i64 xm, .bool xb] :: .slice (some ⟨gy, 0, none⟩) ys.length cy :: .pointer (some ⟨gy, 0, none⟩) :: .agg #[.int .i64 yi, .int .i64 yk, .int .i64 ym, .bool yb] :: .bool true :: .bool false :: .bool false :: .bool false :: _ :: _ :: _ :: _ :: _ :: _ :: _ :: _ :: _ :: _ :: _ :: _ :: _ :: _ :: _ :: _ :: _ :: _ :: _ :: _ :: _ :: _ :: _ :: _ :: _ :: _ :: _ :: _ :: _ :: _ :: _ :: _ :: _ :: _ :: _ :: _ :: []), defers := [] } _
  refine wpAnyH_take (i := 29) (v := .slice (some ⟨gz, 0, none⟩) Z.length cz) rfl (by kernel_rfl) (by kernel_rfl) (by kernel_rfl) (fun _ _ _ h => h) (Or.inl ⟨by kernel_rfl, fun w hS => by go_simp⟩) hHeld ?_
  change wpAnyH _ _ _ _ _ _ _ { tmps := List.toArray (_ :: _ :: _ :: .slice (some ⟨gx, 0, none⟩) xs.length cx :: .slice (some ⟨gy, 0, none⟩) ys.length cy :: .slice (some ⟨gz, 0, none⟩) Z.length cz :: _ :: _ :: _ :: .slice a5 xs.length c5 :: .slice a6 ys.length c6 :: _ :: _ :: _ :: _ :: _ :: _ :: _ :: _ :: _ :: _ :: _ :: _ :: _ :: _ :: _ :: _ :: _ :: _ :: _ :: _ :: _ :: _ :: _ :: _ :: _ :: _ :: _ :: _ :: _ :: _ :: _ :: _ :: _ :: _ :: _ :: _ :: _ :: .slice a5 xs.length c5 :: .slice (some ⟨gx, 0, none⟩) xs.length cx :: .bool true :: .bool false :: .bool false :: .slice a6 ys.length c6 :: .slice (some ⟨gy, 0, none⟩) ys.length cy :: .bool true :: .bool false :: .bool false :: .bool false :: .slice (some ⟨gz, 0, none⟩) Z.length cz :: .bool true :: .bool false :: .bool false :: .bool false :: .slice (some ⟨gx, 0, none⟩) xs.length cx :: .slice (some ⟨gx, 0, none⟩) xs.length cx :: .int .i64 (xs.length : Int) :: .int .i64 (n : Int) :: .pointer (some ⟨gx, n * 4, none⟩) :: .agg #[.int .i64 xi, .int .i64 xk, .int .i64 xm, .bool xb] :: .slice (some ⟨gy, 0, none⟩) ys.length cy :: .pointer (some ⟨gy, 0, none⟩) :: .agg #[.int .i64 yi, .int .i64 yk, .int .i64 ym, .bool yb] :: .bool true :: .bool false :: .bool false :: .bool false :: .slice (some ⟨gz, 0, none⟩) Z.length cz :: _ :: _ :: _ :: _ :: _ :: _ :: _ :: _ :: _ :: _ :: _ :: _ :: _ :: _ :: _ :: _ :: _ :: _ :: _ :: _ :: _ :: _ :: _ :: _ :: _ :: _ :: _ :: _ :: _ :: _ :: _ :: _ :: _ :: _ :: _ :: []), defers := [] } _
  refine wpAnyH_take (i := 31) (v := .slice (some ⟨gx, 0, none⟩) xs.length cx) rfl (by kernel_rfl) (by kernel_rfl) (by kernel_rfl) (fun _ _ _ h => h) (Or.inl ⟨by kernel_rfl, fun w hS => by go_simp⟩) hHeld ?_
  change wpAnyH _ _ _ _ _ _ _ { tmps := List.toArray (_ :: _ :: _ :: .slice (some ⟨gx, 0, none⟩) xs.length cx :: .slice (some ⟨gy, 0, none⟩) ys.length cy :: .slice (some ⟨gz, 0, none⟩) Z.length cz :: _ :: _ :: _ :: .slice a5 xs.length c5 :: .slice a6 ys.length c6 :: _ :: _ :: _ :: _ :: _ :: _ :: _ :: _ :: _ :: _ :: _ :: _ :: _ :: _ :: _ :: _ :: _ :: _ :: _ :: _ :: _ :: _ :: _ :: _ :: _ :: _ :: _ :: _ :: _ :: _ :: _ :: _ :: _ :: _ :: _ :: _ :: _ :: .slice a5 xs.length c5 :: .slice (some ⟨gx, 0, none⟩) xs.length cx :: .bool true :: .bool false :: .bool false :: .slice a6 ys.length c6 :: .slice (some ⟨gy, 0, none⟩) ys.length cy :: .bool true :: .bool false :: .bool false :: .bool false :: .slice (some ⟨gz, 0, none⟩) Z.length cz :: .bool true :: .bool false :: .bool false :: .bool false :: .slice (some ⟨gx, 0, none⟩) xs.length cx :: .slice (some ⟨gx, 0, none⟩) xs.length cx :: .int .i64 (xs.length : Int) :: .int .i64 (n : Int) :: .pointer (some ⟨gx, n * 4, none⟩) :: .agg #[.int .i64 xi, .int .i64 xk, .int .i64 xm, .bool xb] :: .slice (some ⟨gy, 0, none⟩) ys.length cy :: .pointer (some ⟨gy, 0, none⟩) :: .agg #[.int .i64 yi, .int .i64 yk, .int .i64 ym, .bool yb] :: .bool true :: .bool false :: .bool false :: .bool false :: .slice (some ⟨gz, 0, none⟩) Z.length cz :: _ :: .slice (some ⟨gx, 0, none⟩) xs.length cx :: _ :: _ :: _ :: _ :: _ :: _ :: _ :: _ :: _ :: _ :: _ :: _ :: _ :: _ :: _ :: _ :: _ :: _ :: _ :: _ :: _ :: _ :: _ :: _ :: _ :: _ :: _ :: _ :: _ :: _ :: _ :: _ :: _ :: []), defers := [] } _
  refine wpAnyH_take (i := 33) (v := .slice (some ⟨gy, 0, none⟩) ys.length cy) rfl (by kernel_rfl) (by kernel_rfl) (by kernel_rfl) (fun _ _ _ h => h) (Or.inl ⟨by kernel_rfl, fun w hS => by go_simp⟩) hHeld ?_
  change wpAnyH _ _ _ _ _ _ _ { tmps := List.toArray (_ :: _ :: _ :: .slice (some ⟨gx, 0, none⟩) xs.length cx :: .slice (some ⟨gy, 0, none⟩) ys.length cy :: .slice (some ⟨gz, 0, none⟩) Z.length cz :: _ :: _ :: _ :: .slice a5 xs.length c5 :: .slice a6 ys.length c6 :: _ :: _ :: _ :: _ :: _ :: _ :: _ :: _ :: _ :: _ :: _ :: _ :: _ :: _ :: _ :: _ :: _ :: _ :: _ :: _ :: _ :: _ :: _ :: _ :: _ :: _ :: _ :: _ :: _ :: _ :: _ :: _ :: _ :: _ :: _ :: _ :: _ :: .slice a5 xs.length c5 :: .slice (some ⟨gx, 0, none⟩) xs.length cx :: .bool true :: .bool false :: .bool false :: .slice a6 ys.length c6 :: .slice (some ⟨gy, 0, none⟩) ys.length cy :: .bool true :: .bool false :: .bool false :: .bool false :: .slice (some ⟨gz, 0, none⟩) Z.length cz :: .bool true :: .bool false :: .bool false :: .bool false :: .slice (some ⟨gx, 0, none⟩) xs.length cx :: .slice (some ⟨gx, 0, none⟩) xs.length cx :: .int .i64 (xs.length : Int) :: .int .i64 (n : Int) :: .pointer (some ⟨gx, n * 4, none⟩) :: .agg #[.int .i64 xi, .int .i64 xk, .int .i64 xm, .bool xb] :: .slice (some ⟨gy, 0, none⟩) ys.length cy :: .pointer (some ⟨gy, 0, none⟩) :: .agg #[.int .i64 yi, .int .i64 yk, .int .i64 ym, .bool yb] :: .bool true :: .bool false :: .bool false :: .bool false :: .slice (some ⟨gz, 0, none⟩) Z.length cz :: _ :: .slice (some ⟨gx, 0, none⟩) xs.length cx :: _ :: .slice (some ⟨gy, 0, none⟩) ys.length cy :: _ :: _ :: _ :: _ :: _ :: _ :: _ :: _ :: _ :: _ :: _ :: _ :: _ :: _ :: _ :: _ :: _ :: _ :: _ :: _ :: _ :: _ :: _ :: _ :: _ :: _ :: _ :: _ :: _ :: _ :: _ :: []), defers := [] } _
  refine wpAnyH_ready (rs := [30]) (by kernel_rfl) (by simp) ?_
  refine AllReadyH.cons rfl (fun K hK => ?_) AllReadyH.nil
  go_simp
  go_wp2_with (go_at_call 20; refine (L1 _ (U3.below Bd)).mono ?_; rintro e7 we ⟨rfl, hbq⟩; have Be := btrans Bd hbq; clear hbq)
  clear hHeld
  refine hK.out _ _ (⟨ble Be f0, ble Be f1, ble Be f2, ble Be f3, ble Be f4, ble Be f5, ble Be f6, ble Be f7⟩) (fun hHeld => ?_)
  clear hK K
  change wpAnyH _ _ _ _ _ _ _ { tmps := List.toArray (_ :: _ :: _ :: .slice (some ⟨gx, 0, none⟩) xs.length cx :: .slice (some ⟨gy, 0, none⟩) ys.length cy :: .slice (some ⟨gz, 0, none⟩) Z.length cz :: _ :: _ :: _ :: .slice a5 xs.length c5 :: .slice a6 ys.length c6 :: _ :: _ :: _ :: _ :: _ :: _ :: _ :: _ :: _ :: _ :: _ :: _ :: _ :: _ :: _ :: _ :: _ :: _ :: _ :: _ :: _ :: _ :: _ :: _ :: _ :: _ :: _ :: _ :: _ :: _ :: _ :: _ :: _ :: _ :: _ :: _ :: _ :: .slice a5 xs.length c5 :: .slice (some ⟨gx, 0, none⟩) xs.length cx :: .bool true :: .bool false :: .bool false :: .slice a6 ys.length c6 :: .slice (some ⟨gy, 0, none⟩) ys.length cy :: .bool true :: .bool false :: .bool false :: .bool false :: .slice (some ⟨gz, 0, none⟩) Z.length cz :: .bool true :: .bool false :: .bool false :: .bool false :: .slice (some ⟨gx, 0, none⟩) xs.length cx :: .slice (some ⟨gx, 0, none⟩) xs.length cx :: .int .i64 (xs.length : Int) :: .int .i64 (n : Int) :: .pointer (some ⟨gx, n * 4, none⟩) :: .agg #[.int .i64 xi, .int .i64 xk, .int .i64 xm, .bool xb] :: .slice (some ⟨gy, 0, none⟩) ys.length cy :: .pointer (some ⟨gy, 0, none⟩) :: .agg #[.int .i64 yi, .int .i64 yk, .int .i64 ym, .bool yb] :: .bool true :: .bool false :: .bool false :: .bool false :: .slice (some ⟨gz, 0, none⟩) Z.length cz :: .int .i64 (lx + ly) :: .slice (some ⟨gx, 0, none⟩) xs.length cx :: _ :: .slice (some ⟨gy, 0, none⟩) ys.length cy :: _ :: _ :: _ :: _ :: _ :: _ :: _ :: _ :: _ :: _ :: _ :: _ :: _ :: _ :: _ :: _ :: _ :: _ :: _ :: _ :: _ :: _ :: _ :: _ :: _ :: _ :: _ :: _ :: _ :: _ :: _ :: []), defers := [] } _
  refine wpAnyH_ready (rs := [32]) (by kernel_rfl) (by simp) ?_
  refine AllReadyH.cons rfl (fun K hK => ?_) AllReadyH.nil
  go_simp
  go_wp2_with (go_at_call 20; refine (L2 _ (U1.below Be)).mono ?_; rintro e7 wf ⟨rfl, hbq⟩; have Bf := btrans Be hbq; clear hbq)
  clear hHeld
  refine hK.out _ _ (⟨ble Bf f0, ble Bf f1, ble Bf f2, ble Bf f3, ble Bf f4, ble Bf f5, ble Bf f6, ble Bf f7⟩) (fun hHeld => ?_)
  clear hK K
  change wpAnyH _ _ _ _ _ _ _ { tmps := List.toArray (_ :: _ :: _ :: .slice (some ⟨gx, 0, none⟩) xs.length cx :: .slice (some ⟨gy, 0, none⟩) ys.length cy :: .slice (some ⟨gz, 0, none⟩) Z.length cz :: _ :: _ :: _ :: .slice a5 xs.length c5 :: .slice a6 ys.length c6 :: _ :: _ :: _ :: _ :: _ :: _ :: _ :: _ :: _ :: _ :: _ :: _ :: _ :: _ :: _ :: _ :: _ :: _ :: _ :: _ :: _ :: _ :: _ :: _ :: _ :: _ :: _ :: _ :: _ :: _ :: _ :: _ :: _ :: _ :: _ :: _ :: _ :: .slice a5 xs.length c5 :: .slice (some ⟨gx, 0, none⟩) xs.length cx :: .bool true :: .bool false :: .bool false :: .slice a6 ys.length c6 :: .slice (some ⟨gy, 0, none⟩) ys.length cy :: .bool true :: .bool false :: .bool false :: .bool false :: .slice (some ⟨gz, 0, none⟩) Z.length cz :: .bool true :: .bool false :: .bool false :: .bool false :: .slice (some ⟨gx, 0, none⟩) xs.length cx :: .slice (some ⟨gx, 0, none⟩) xs.length cx :: .int .i64 (xs.length : Int) :: .int .i64 (n : Int) :: .pointer (some ⟨gx, n * 4, none⟩) :: .agg #[.int .i64 xi, .int .i64 xk, .int .i64 xm, .bool xb] :: .slice (some ⟨gy, 0, none⟩) ys.length cy :: .pointer (some ⟨gy, 0, none⟩) :: .agg #[.int .i64 yi, .int .i64 yk, .int .i64 ym, .bool yb] :: .bool true :: .bool false :: .bool false :: .bool false :: .slice (some ⟨gz, 0, none⟩) Z.length cz :: .int .i64 (lx + ly) :: .slice (some ⟨gx, 0, none⟩) xs.length cx :: .int .i64 lx :: .slice (some ⟨gy, 0, none⟩) ys.length cy :: _ :: _ :: _ :: _ :: _ :: _ :: _ :: _ :: _ :: _ :: _ :: _ :: _ :: _ :: _ :: _ :: _ :: _ :: _ :: _ :: _ :: _ :: _ :: _ :: _ :: _ :: _ :: _ :: _ :: _ :: _ :: []), defers := [] } _
  refine wpAnyH_ready (rs := [34]) (by kernel_rfl) (by simp) ?_
  refine AllReadyH.cons rfl (fun K hK => ?_) AllReadyH.nil
  go_simp
  go_wp2_with (go_at_call 20; refine (L3 _ (U2.below Bf)).mono ?_; rintro e7 wg ⟨rfl, hbq⟩; have Bg := btrans Bf hbq; clear hbq)
  clear hHeld
  refine hK.out _ _ (⟨ble Bg f0, ble Bg f1, ble Bg f2, ble Bg f3, ble Bg f4, ble Bg f5, ble Bg f6, ble Bg f7⟩) (fun hHeld => ?_)
  clear hK K
  change wpAnyH _ _ _ _ _ _ _ { tmps := List.toArray (_ :: _ :: _ :: .slice (some ⟨gx, 0, none⟩) xs.length cx :: .slice (some ⟨gy, 0, none⟩) ys.length cy :: .slice (some ⟨gz, 0, none⟩) Z.length cz :: _ :: _ :: _ :: .slice a5 xs.length c5 :: .slice a6 ys.length c6 :: _ :: _ :: _ :: _ :: _ :: _ :: _ :: _ :: _ :: _ :: _ :: _ :: _ :: _ :: _ :: _ :: _ :: _ :: _ :: _ :: _ :: _ :: _ :: _ :: _ :: _ :: _ :: _ :: _ :: _ :: _ :: _ :: _ :: _ :: _ :: _ :: _ :: .slice a5 xs.length c5 :: .slice (some ⟨gx, 0, none⟩) xs.length cx :: .bool true :: .bool false :: .bool false :: .slice a6 ys.length c6 :: .slice (some ⟨gy, 0, none⟩) ys.length cy :: .bool true :: .bool false :: .bool false :: .bool false :: .slice (some ⟨gz, 0, none⟩) Z.length cz :: .bool true :: .bool false :: .bool false :: .bool false :: .slice (some ⟨gx, 0, none⟩) xs.length cx :: .slice (some ⟨gx, 0, none⟩) xs.length cx :: .int .i64 (xs.length : Int) :: .int .i64 (n : Int) :: .pointer (some ⟨gx, n * 4, none⟩) :: .agg #[.int .i64 xi, .int .i64 xk, .int .i64 xm, .bool xb] :: .slice (some ⟨gy, 0, none⟩) ys.length cy :: .pointer (some ⟨gy, 0, none⟩) :: .agg #[.int .i64 yi, .int .i64 yk, .int .i64 ym, .bool yb] :: .bool true :: .bool false :: .bool false :: .bool false :: .slice (some ⟨gz, 0, none⟩) Z.length cz :: .int .i64 (lx + ly) :: .slice (some ⟨gx, 0, none⟩) xs.length cx :: .int .i64 lx :: .slice (some ⟨gy, 0, none⟩) ys.length cy :: .int .i64 ly :: _ :: _ :: _ :: _ :: _ :: _ :: _ :: _ :: _ :: _ :: _ :: _ :: _ :: _ :: _ :: _ :: _ :: _ :: _ :: _ :: _ :: _ :: _ :: _ :: _ :: _ :: _ :: _ :: _ :: _ :: []), defers := [] } _
  refine wpAnyH_take (i := 35) (v := .int .i64 (lx + ly)) rfl (by kernel_rfl) (by kernel_rfl) (by kernel_rfl) (fun _ _ _ h => h) (Or.inl ⟨by kernel_rfl, fun w hS => by go_simp⟩) hHeld ?_
  change wpAnyH _ _ _ _ _ _ _ { tmps := List.toArray (_ :: _ :: _ :: .slice (some ⟨gx, 0, none⟩) xs.length cx :: .slice (some ⟨gy, 0, none⟩) ys.length cy :: .slice (some ⟨gz, 0, none⟩) Z.length cz :: _ :: _ :: _ :: .slice a5 xs.length c5 :: .slice a6 ys.length c6 :: _ :: _ :: _ :: _ :: _ :: _ :: _ :: _ :: _ :: _ :: _ :: _ :: _ :: _ :: _ :: _ :: _ :: _ :: _ :: _ :: _ :: _ :: _ :: _ :: _ :: _ :: _ :: _ :: _ :: _ :: _ :: _ :: _ :: _ :: _ :: _ :: _ :: .slice a5 xs.length c5 :: .slice (some ⟨gx, 0, none⟩) xs.length cx :: .bool true :: .bool false :: .bool false :: .slice a6 ys.length c6 :: .slice (some ⟨gy, 0, none⟩) ys.length cy :: .bool true :: .bool false :: .bool false :: .bool false :: .slice (some ⟨gz, 0, none⟩) Z.length cz :: .bool true :: .bool false :: .bool false :: .bool false :: .slice (some ⟨gx, 0, none⟩) xs.length cx :: .slice (some ⟨gx, 0, none⟩) xs.length cx :: .int .i64 (xs.length : Int) :: .int .i64 (n : Int) :: .pointer (some ⟨gx, n * 4, none⟩) :: .agg #[.int .i64 xi, .int .i64 xk, .int .i64 xm, .bool xb] :: .slice (some ⟨gy, 0, none⟩) ys.length cy :: .pointer (some ⟨gy, 0, none⟩) :: .agg #[.int .i64 yi, .int .i64 yk, .int .i64 ym, .bool yb] :: .bool true :: .bool false :: .bool false :: .bool false :: .slice (some ⟨gz, 0, none⟩) Z.length cz :: .int .i64 (lx + ly) :: .slice (some ⟨gx, 0, none⟩) xs.length cx :: .int .i64 lx :: .slice (some ⟨gy, 0, none⟩) ys.length cy :: .int .i64 ly :: .int .i64 (lx + ly) :: _ :: _ :: _ :: _ :: _ :: _ :: _ :: _ :: _ :: _ :: _ :: _ :: _ :: _ :: _ :: _ :: _ :: _ :: _ :: _ :: _ :: _ :: _ :: _ :: _ :: _ :: _ :: _ :: _ :: []), defers := [] } _
  refine wpAnyH_take (i := 36) (v := .bool false) rfl (by kernel_rfl) (by kernel_rfl) (by kernel_rfl) (fun _ _ _ h => h) (Or.inl ⟨by kernel_rfl, fun w hS => by go_simp⟩) hHeld ?_
  change wpAnyH _ _ _ _ _ _ _ { tmps := List.toArray (_ :: _ :: _ :: .slice (some ⟨gx, 0, none⟩) xs.length cx :: .slice (some ⟨gy, 0, none⟩) ys.length cy :: .slice (some ⟨gz, 0, none⟩) Z.length cz :: _ :: _ :: _ :: .slice a5 xs.length c5 :: .slice a6 ys.length c6 :: _ :: _ :: _ :: _ :: _ :: _ :: _ :: _ :: _ :: _ :: _ :: _ :: _ :: _ :: _ :: _ :: _ :: _ :: _ :: _ :: _ :: _ :: _ :: _ :: _ :: _ :: _ :: _ :: _ :: _ :: _ :: _ :: _ :: _ :: _ :: _ :: _ :: .slice a5 xs.length c5 :: .slice (some ⟨gx, 0, none⟩) xs.length cx :: .bool true :: .bool false :: .bool false :: .slice a6 ys.length c6 :: .slice (some ⟨gy, 0, none⟩) ys.length cy :: .bool true :: .bool false :: .bool false :: .bool false :: .slice (some ⟨gz, 0, none⟩) Z.length cz :: .bool true :: .bool false :: .bool false :: .bool false :: .slice (some ⟨gx, 0, none⟩) xs.length cx :: .slice (some ⟨gx, 0, none⟩) xs.length cx :: .int .i64 (xs.length : Int) :: .int .i64 (n : Int) :: .pointer (some ⟨gx, n * 4, none⟩) :: .agg #[.int .i64 xi, .int .i64 xk, .int .i64 xm, .bool xb] :: .slice (some ⟨gy, 0, none⟩) ys.length cy :: .pointer (some ⟨gy, 0, none⟩) :: .agg #[.int .i64 yi, .int .i64 yk, .int .i64 ym, .bool yb] :: .bool true :: .bool false :: .bool false :: .bool false :: .slice (some ⟨gz, 0, none⟩) Z.length cz :: .int .i64 (lx + ly) :: .slice (some ⟨gx, 0, none⟩) xs.length cx :: .int .i64 lx :: .slice (some ⟨gy, 0, none⟩) ys.length cy :: .int .i64 ly :: .int .i64 (lx + ly) :: .bool false :: _ :: _ :: _ :: _ :: _ :: _ :: _ :: _ :: _ :: _ :: _ :: _ :: _ :: _ :: _ :: _ :: _ :: _ :: _ :: _ :: _ :: _ :: _ :: _ :: _ :: _ :: _ :: _ :: []), defers := [] } _
  refine wpAnyH_take (i := 37) (v := .bool false) rfl (by kernel_rfl) (by kernel_rfl) (by kernel_rfl) (fun _ _ _ h => h) (Or.inl ⟨by kernel_rfl, fun w hS => by go_simp⟩) hHeld ?_
  change wpAnyH _ _ _ _ _ _ _ { tmps := List.toArray (_ :: _ :: _ :: .slice (some ⟨gx, 0, none⟩) xs.length cx :: .slice (some ⟨gy, 0, none⟩) ys.length cy :: .slice (some ⟨gz, 0, none⟩) Z.length cz :: _ :: _ :: _ :: .slice a5 xs.length c5 :: .slice a6 ys.length c6 :: _ :: _ :: _ :: _ :: _ :: _ :: _ :: _ :: _ :: _ :: _ :: _ :: _ :: _ :: _ :: _ :: _ :: _ :: _ :: _ :: _ :: _ :: _ :: _ :: _ :: _ :: _ :: _ :: _ :: _ :: _ :: _ :: _ :: _ :: _ :: _ :: _ :: .slice a5 xs.length c5 :: .slice (some ⟨gx, 0, none⟩) xs.length cx :: .bool true :: .bool false :: .bool false :: .slice a6 ys.length c6 :: .slice (some ⟨gy, 0, none⟩) ys.length cy :: .bool true :: .bool false :: .bool false :: .bool false :: .slice (some ⟨gz, 0, none⟩) Z.length cz :: .bool true :: .bool false :: .bool false :: .bool false :: .slice (some ⟨gx, 0, none⟩) xs.length cx :: .slice (some ⟨gx, 0, none⟩) xs.length cx :: .int .i64 (xs.length : Int) :: .int .i64 (n : Int) :: .pointer (some ⟨gx, n * 4, none⟩) :: .agg #[.int .i64 xi, .int .i64 xk, .int .i64 xm, .bool xb] :: .slice (some ⟨gy, 0, none⟩) ys.length cy :: .pointer (some ⟨gy, 0, none⟩) :: .agg #[.int .i64 yi, .int .i64 yk, .int .i64 ym, .bool yb] :: .bool true :: .bool false :: .bool false :: .bool false :: .slice (some ⟨gz, 0, none⟩) Z.length cz :: .int .i64 (lx + ly) :: .slice (some ⟨gx, 0, none⟩) xs.length cx :: .int .i64 lx :: .slice (some ⟨gy, 0, none⟩) ys.length cy :: .int .i64 ly :: .int .i64 (lx + ly) :: .bool false :: .bool false :: _ :: _ :: _ :: _ :: _ :: _ :: _ :: _ :: _ :: _ :: _ :: _ :: _ :: _ :: _ :: _ :: _ :: _ :: _ :: _ :: _ :: _ :: _ :: _ :: _ :: _ :: _ :: []), defers := [] } _
  refine wpAnyH_done (by kernel_rfl) ?_ _
  clear U1 U2 U3 U5 U6 S1 S2 RZ L1 L2 L3 CF f0 f1 f2 f3 f4 f5 f6 f7 Ba Bb Bc Bd Be Bf z0 hHeld
  clear O5 O6
  replace HB := btrans HB Bg
  replace O1 := own_keep O1 Bg
  replace O2 := own_keep O2 Bg
  replace O3 := own_keep O3 Bg
  clear Bg
  have F := one_int wg (xs.length : Int)
  have hA := balloc wg (.cells #[.int .i64 (xs.length : Int)] 3)
  replace HB := btrans HB hA
  replace O1 := own_keep O1 hA
  replace O2 := own_keep O2 hA
  replace O3 := own_keep O3 hA
  clear hA
  have KS := cShI gz 0 cz (some ⟨wg.heap.size, 0, none⟩) 1 Z [((xs.length : Nat) : Int)] _ (Us.own O3) F (by unfold maxLen; omega) (by simp)
  rw [CP.out.sh] at KS
  go_wp2_with fail
  refine KS.mono ?_
  rintro e wh ⟨v7, rfl, O7, hb⟩
  replace HB := btrans HB hb
  replace O1 := own_keep O1 hb
  replace O2 := own_keep O2 hb
  replace O3 := own_keep O3 hb
  clear hb
  clear KS F
  obtain ⟨N, hN⟩ : ∃ N, N = ys ++ turned xs := ⟨_, rfl⟩
  have P2 := hide CP.out.part2
  rw [← hN] at O7 P2
  have lN : N.length ≤ 200 := by rw [hN, List.length_append, turned_len]; omega
  have pN : 0 < N.length := by rw [hN, List.length_append]; omega
  clear hN
  obtain ⟨a7, c7, rfl⟩ := own_form O7
  obtain ⟨g7, rfl, m1, m2⟩ := own_some O7 pN
  have KP := cPartI g7 0 c7 N (ys.length : Nat) wh (Us.own O7) m1 m2
  rw [P2.out.1, P2.out.2] at KP
  go_wp2_with fail
  refine KP.mono ?_
  rintro e wi ⟨v8, v9, B9, rfl, O8, O9, -, -, hb⟩
  replace HB := btrans HB hb
  replace O1 := own_keep O1 hb
  replace O2 := own_keep O2 hb
  replace O3 := own_keep O3 hb
  replace O7 := own_keep O7 hb
  clear hb
  clear KP
  obtain ⟨a8, c8, rfl⟩ := own_form O8
  obtain ⟨a9, c9, rfl⟩ := own_form O9
  rw [turned_len] at O9 ⊢
  go_wp2_with fail
  refine (cSame a8 (some ⟨gy, 0, none⟩) c8 cy ys _ (Us.own O8) (Us.own O2) (by omega)).mono ?_
  rintro e w11 ⟨rfl, hb⟩
  replace HB := btrans HB hb
  replace O1 := own_keep O1 hb
  replace O2 := own_keep O2 hb
  replace O3 := own_keep O3 hb
  replace O7 := own_keep O7 hb
  replace O8 := own_keep O8 hb
  replace O9 := own_keep O9 hb
  clear hb
  have KT := fun w h => cTurnI (some ⟨gx, 0, none⟩) cx xs w h (by unfold maxLen; omega)
  rw [CP.out.turn] at KT
  go_wp2_with fail
  refine (KT _ (Us.own O1)).mono ?_
  rintro e wj ⟨vA, rfl, OA, hb⟩
  replace HB := btrans HB hb
  replace O1 := own_keep O1 hb
  replace O2 := own_keep O2 hb
  replace O3 := own_keep O3 hb
  replace O7 := own_keep O7 hb
  replace O8 := own_keep O8 hb
  replace O9 := own_keep O9 hb
  clear hb
  clear KT
  obtain ⟨aA, cA, rfl⟩ := own_form OA
  have KQ := cSame a9 aA c9 cA (turned xs) wj (Us.own O9) (Us.own OA) (by rw [turned_len]; omega)
  rw [turned_len] at KQ OA ⊢
  go_wp2_with fail
  refine KQ.mono ?_
  rintro e wk ⟨rfl, hb⟩
  clear KQ
  replace HB := btrans HB hb
  replace O1 := own_keep O1 hb
  replace O2 := own_keep O2 hb
  replace O3 := own_keep O3 hb
  replace O7 := own_keep O7 hb
  replace O8 := own_keep O8 hb
  replace O9 := own_keep O9 hb
  replace OA := own_keep OA hb
  clear hb
  have K0 := cShI gz 0 cz none 0 Z [] wk (Us.own O3) (Or.inl rfl) (by unfold maxLen; omega) (by simp)
  rw [CP.out.sh0] at K0
  go_wp2_with fail
  refine K0.mono ?_
  rintro e wl ⟨vB, rfl, OB, hb⟩
  clear K0
  replace HB := btrans HB hb
  replace O1 := own_keep O1 hb
  replace O2 := own_keep O2 hb
  replace O3 := own_keep O3 hb
  replace O7 := own_keep O7 hb
  replace O8 := own_keep O8 hb
  replace O9 := own_keep O9 hb
  replace OA := own_keep OA hb
  clear hb
  obtain ⟨aB, cB, rfl⟩ := own_form OB
  go_wp2_with fail
  refine (cSame aB (some ⟨gz, 0, none⟩) cB cz Z _ (Us.own OB) (Us.own O3) (by omega)).mono ?_
  rintro e w12 ⟨rfl, hb⟩
  replace HB := btrans HB hb
  replace O1 := own_keep O1 hb
  replace O2 := own_keep O2 hb
  replace O3 := own_keep O3 hb
  replace O7 := own_keep O7 hb
  replace O8 := own_keep O8 hb
  replace O9 := own_keep O9 hb
  replace OA := own_keep OA hb
  clear hb
  go_wp2
  go_ret
  exact ⟨rfl, HB⟩
end Go.Proofs.Ytfffnekbdegclaa
