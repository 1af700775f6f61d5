/- FnStock: parted, turned, printed and read: the walk of the law. -/
import Derived.Test.YtnddhpdhbmbikaaDoorPN
import Derived.Test.YtnddhpdhbmbikaaDoorCK
import Derived.Test.YtnddhpdhbmbikaaDoorWRS
import Derived.ArgAppend
import Derived.Maps.AppendAt
import Derived.Lib.AppendZeros
import Derived.BigQuiet
namespace Go.Proofs.YtnddhpdhbmbikaaDoor
open Go.RowKit
set_option maxRecDepth 20000 in
set_option maxHeartbeats 1600000 in
theorem cSame (a1 a2 : Option Addr) (c1 c2 : Nat) (l : List UV) (w : World) (h1 : Us w a1 l) (h2 : Us w a2 l) (hl : l.length ≤ 1048576) :
    Calls Tryd.prog 11 #[.slice a1 l.length c1, .slice a2 l.length c2] w fun e w' => e = .returned (.bool true) ∧ Below w.heap.size w w' := by
  go_enter Tryd.func11, Tryd.ntmps11
  go_wp2
  go_loopw [5] (fun i wr => ∃ k : Nat, k ≤ l.length ∧ i = .int .i64 k ∧ Below w.heap.size w wr) (fun i _ => l.length - (intOf i).toNat)
  case atStart => exact ⟨0, Nat.zero_le _, rfl, Below.refl _ _⟩
  case round =>
    obtain ⟨k, hk, rfl, hb⟩ := hrel
    by_cases hlt : k < l.length
    · rcases h1 with h | ⟨b1, o1, rfl, q1⟩
      · simp [h] at hlt
      rcases h2 with h | ⟨b2, o2, rfl, q2⟩
      · simp [h] at hlt
      obtain ⟨p0, p1, p2, p3⟩ := q1 k hlt
      obtain ⟨r0, r1, r2, r3⟩ := q2 k hlt
      replace p0 := ble hb p0
      replace p1 := ble hb p1
      replace p2 := ble hb p2
      replace p3 := ble hb p3
      replace r0 := ble hb r0
      replace r1 := ble hb r1
      replace r2 := ble hb r2
      replace r3 := ble hb r3
      clear q1 q2
      generalize l.getD k UV.zero = y at *
      obtain ⟨yi, yc, ym, yb⟩ := y
      dsimp only at *
      go_wp2_with fail
      go_quiet (fail)
      go_wp2
      go_roundw
      case rel => exact ⟨k + 1, by omega, by go_num, bdraw hb _⟩
      case measure => simp [intOf]; omega
    · obtain rfl : k = l.length := by omega
      clear h1 h2
      go_wp2
      go_ret
      exact ⟨rfl, hb⟩


theorem fitB_symm (a b : UV) : fitB a b = fitB b a := by
  unfold fitB
  congr 1
  apply propext
  omega
theorem fitB_turn (a b : UV) : fitB (turnU a) (turnU b) = fitB a b := rfl
theorem turned_get {l : List UV} {k : Nat} (hk : k < l.length) : (turned l).getD k UV.zero = turnU (l.getD (l.length - 1 - k) UV.zero) := by
  have h1 : k < (turned l).length := by rw [turned_len]; exact hk
  rw [List.getD, List.getElem?_eq_getElem h1, List.getD, List.getElem?_eq_getElem (show l.length - 1 - k < l.length by omega)]
  simp [turned]
theorem fit_turned1 {l : List UV} (h : FitTo l l.length) : FitTo (turned l) (turned l).length := by
  intro k hk
  rw [turned_len] at hk
  rw [turned_get (by omega), turned_get (by omega), fitB_turn, fitB_symm]
  have := h (l.length - 1 - (k + 1)) (by omega)
  rwa [show l.length - 1 - (k + 1) + 1 = l.length - 1 - k by omega] at this
theorem run_turned (l : List UV) : runB (turned l) = runB l := by
  rw [Bool.eq_iff_iff, runB_iff, runB_iff, form_turned]
  have hne : turned l ≠ [] ↔ l ≠ [] := by
    rw [← List.length_pos_iff, ← List.length_pos_iff, turned_len]
  constructor
  · rintro ⟨h1, h2, h3⟩
    refine ⟨h1, hne.1 h2, ?_⟩
    have := fit_turned1 h3
    rwa [turned_twice] at this
  · rintro ⟨h1, h2, h3⟩
    exact ⟨h1, hne.2 h2, fit_turned1 h3⟩
theorem metres_turned (l : List UV) : metres (turned l) = metres l := by
  unfold metres turned
  rw [List.map_map, show UV.m ∘ turnU = UV.m from rfl, List.map_reverse, List.sum_reverse]
theorem len_turned {l : List UV} (h : formB l = true) : lenV (turned l) = lenV l := by
  unfold lenV; rw [form_turned, if_pos h, metres_turned, if_pos h]
theorem len_parts {l : List UV} (h : formB l = true) (q : Nat) : lenV l = lenV (l.take q) + lenV (l.drop q) ∧ 0 ≤ lenV (l.take q) ∧ lenV (l.take q) ≤ 6000 ∧ 0 ≤ lenV (l.drop q) ∧ lenV (l.drop q) ≤ 6000 := by
  have h1 := form_take q h
  have h2 := form_drop q h
  have b1 := metres_bound (form_oks h1)
  have b2 := metres_bound (form_oks h2)
  have l1 := (formB_iff.1 h1).1
  have l2 := (formB_iff.1 h2).1
  unfold lenV
  rw [if_pos h, if_pos h1, if_pos h2, ← metres_app, List.take_append_drop]
  exact ⟨rfl, by omega, by omega, by omega, by omega⟩
/-- Units put behind a row of units. -/
theorem app_us {w : World} {B : Nat} {v : Value} {xs ys : List UV} (h : w.ownsRow B 34 4 v xs.length (flatUs xs)) (a : Option Addr) (c : Nat) (hy : Us w a ys) (hl : xs.length + ys.length ≤ 1000000) (hB : B ≤ w.heap.size) :
    ∃ v2 w2, (Builtin.append_ #[24, 24] 24 #[v, .slice a ys.length c]).run Tryd.prog w = .ok v2 w2 ∧ w2.ownsRow B 34 4 v2 (xs ++ ys).length (flatUs (xs ++ ys)) ∧ w.grownBy w2 v.ownBlock := by
  obtain ⟨i0, hi, hz0, hz1, hz2⟩ := info_parts infoUs
  by_cases h0 : ys = []
  · subst h0
    obtain ⟨va, vc, rfl, hroom, _⟩ := own_room h
    exact ⟨_, _, append0 va a xs.length vc c _ hroom w, by simpa using h, World.grownBy.refl _ _⟩
  · rcases hy with hy | ⟨b, off, rfl, hc⟩
    · exact absurd hy h0
    · have F := FlatAt.of_us hc
      obtain ⟨v2, w2, hr, h2, h3, _, h5⟩ := run_append_own_at (P := Tryd.prog) w B 24 24 34 i0 (.agg #[.int .i64 0, .int .i64 0, .int .i64 0, .bool false]) 4 32 Tryd.underlying24 hi hz0 hz1 hz2 rfl (by decide) v xs.length (flatUs xs) h ⟨b, off, none⟩ ys.length c (flatUs ys) (by rw [flatUs_len]) (us_cells F) flatUs_one (by unfold maxLen; omega) (by omega) hB
      refine ⟨v2, w2, hr, ?_, h3⟩
      rw [flatUs_app, List.length_append]
      exact h2
set_option maxRecDepth 100000 in
set_option maxHeartbeats 6400000 in
theorem walkStock (a : Option Addr) (cap : Nat) (bs : List Int) (w : World) (b : Addr) (hv : w.cell? ⟨0, 0, none⟩ = some (.iface 127 (.pointer (some b)))) (ht : Tab w) (hz : Bytes w a bs) (hn : bs.length ≤ maxLen) :
    Calls Tryd.prog 3 #[.slice a bs.length cap] w fun e w' => e = .returned (.bool true) ∧ Below w.heap.size w w' := by
  by_cases hbig : 1048576 < bs.length
  · have hd : decide (1048576 < bs.length) = true := by simp [hbig]
    go_enter Tryd.func3, Tryd.ntmps3
    go_wp2_with fail
    refine (cbig a cap bs.length _ hn).mono ?_
    rintro e w1 ⟨rfl, hw⟩
    subst w1
    rw [hd]
    go_wp2
    go_ret
    exact ⟨rfl, Below.refl _ _⟩
  have hd : decide (1048576 < bs.length) = false := by simp; omega
  have hl : bs.length ≤ 1048576 := by omega
  have hat := atZ_in hz 3
  go_enter Tryd.func3, Tryd.ntmps3
  go_wp2_with fail
  refine (cbig a cap bs.length _ hn).mono ?_
  rintro e w1 ⟨rfl, hw⟩
  subst w1
  rw [hd]
  clear hd hbig hn
  go_wp2_with fail
  refine (cDrawF cap a bs _ hz hl).mono ?_
  rintro e w1 ⟨L, v, rfl, hL30, hf, O, HB⟩
  obtain ⟨va, vc, rfl, r1, r2, -, -⟩ := own_room O
  go_wp2_with fail
  refine (cat a cap bs 3 _ (hz.below HB) hl (by omega)).mono ?_
  rintro e w2 ⟨rfl, hw⟩
  subst w2
  generalize atZ bs 3 = z at *
  obtain ⟨q1, q2, q3⟩ := rem_in (x := z) (n := (L.length : Int) + 1) hat.1 (by omega) (by omega)
  obtain ⟨q, hq⟩ : ∃ q : Nat, z % ((L.length : Int) + 1) = (q : Int) := ⟨(z % ((L.length : Int) + 1)).toNat, by omega⟩
  have hqn : q ≤ L.length := by omega
  rw [hq] at q1
  have e1 : z.tmod ((L.length : Int) + 1) = (q : Int) := by rw [Int.tmod_eq_emod_of_nonneg hat.1]; exact hq
  clear q2 q3 hat
  have hfh := hide hf
  go_wp2_with fail
  refine (cPartO q _ hqn hf O).mono ?_
  rintro e w3 ⟨v1, v2, B2, rfl, O1, O2, hB2, hlt1, hb⟩
  replace O := own_keep O hb
  replace HB := btrans HB hb
  clear hb hq q1 hf e1
  have hW := balloc w3 (.cells #[] 34)
  have J0 : (w3.alloc (.cells #[] 34)).ownsRow w3.heap.size 34 4 (.slice (some ⟨w3.heap.size, 0, none⟩) 0 0) ([] : List UV).length (flatUs []) := World.ownsRow_made w3 #[] 0 (Nat.le_refl _) (by unfold maxLen; omega) (by simp)
  obtain ⟨va1, vc1, rfl⟩ := own_form O1
  obtain ⟨va2, vc2, rfl⟩ := own_form O2
  have lt : (L.take q).length = q := by simp; omega
  have ld : (L.drop q).length = L.length - q := by simp
  obtain ⟨v3, w4, hr1, J1, g1⟩ := app_us J0 va1 vc1 (Us.own (own_keep O1 hW)) (by simp; omega) (by simp)
  rw [List.nil_append] at J1
  have hj0 := own_from J0 (Nat.le_refl _)
  have hb4 : Below w3.heap.size w3 w4 := hW.grown g1 hW.size hj0
  obtain ⟨v4, w5, hr2, J2, g2⟩ := app_us J1 va2 vc2 (Us.own (own_keep O2 hb4)) (by simp; omega) hb4.size
  have hj1 := own_from J1 (Nat.le_refl _)
  have hb5 : Below w3.heap.size w3 w5 := hb4.grown g2 hb4.size hj1
  rw [List.take_append_drop] at J2
  have U1 := Us.own (own_keep O1 hb5)
  have U2 := Us.own (own_keep O2 hb5)
  rw [lt] at hr1 ⊢
  rw [ld] at hr2 ⊢
  obtain ⟨va4, vc4, rfl⟩ := own_form J2
  obtain ⟨va3, vc3, rfl⟩ := own_form J1
  rw [lt] at hr1 hr2
  replace O := own_keep O hb5
  have UJ := Us.own J2
  have UL := Us.own O
  have HB5 := btrans HB hb5
  clear J0 J1 J2 O1 O2 g1 g2 hj0 hj1 hW hb4 hb5 hlt1 HB
  have hLz : L.length ≤ maxLen := by unfold maxLen; omega
  go_wp2_with (first
    | (at_builtin; have h0 := hr1; refine Go.Lib.wpList_append_run _ rfl _ _ _ _ rfl _ _ rfl rfl _ _ hr1 ?_; clear hr1 h0)
    | (at_builtin; have h0 := hr2; refine Go.Lib.wpList_append_run _ rfl _ _ _ _ rfl _ _ rfl rfl _ _ hr2 ?_; clear hr2 h0))
  refine (cTurnI va vc L _ UL hLz).mono ?_
  rintro e w6 ⟨vt, rfl, OT, hb⟩
  rw [turn_yes hfh.out] at OT
  obtain ⟨vta, vtc, rfl, t1, t2, -, -⟩ := own_room OT
  have UT := Us.own OT
  rw [turned_len] at t1 ⊢
  replace UL := UL.below hb
  replace U1 := U1.below hb
  replace U2 := U2.below hb
  replace UJ := UJ.below hb
  replace HB5 := btrans HB5 hb
  clear hb OT O
  have CF := cFormI va vc L
  rw [hfh.out] at CF
  go_wp2_with fail
  refine (CF _ UL hLz).mono ?_
  rintro e w7 ⟨rfl, hb⟩
  replace UL := UL.below hb
  replace U1 := U1.below hb
  replace U2 := U2.below hb
  replace UJ := UJ.below hb
  replace UT := UT.below hb
  replace HB5 := btrans HB5 hb
  clear hb CF
  go_wp2_with fail
  refine (cSame va4 va vc4 vc L _ UJ UL (by omega)).mono ?_
  rintro e w8 ⟨rfl, hb⟩
  replace UL := UL.below hb
  replace U1 := U1.below hb
  replace U2 := U2.below hb
  replace UT := UT.below hb
  replace HB5 := btrans HB5 hb
  clear hb UJ
  have CT := fun W (h : Us W vta (turned L)) => cTurnI vta vtc (turned L) W h (by rw [turned_len]; exact hLz)
  rw [turned_len, turn_yes (by rw [form_turned]; exact hfh.out), turned_twice] at CT
  go_wp2_with fail
  refine (CT _ UT).mono ?_
  rintro e w9 ⟨vu, rfl, OU, hb⟩
  obtain ⟨vua, vuc, rfl⟩ := own_form OU
  replace UL := UL.below hb
  replace U1 := U1.below hb
  replace U2 := U2.below hb
  replace UT := UT.below hb
  replace HB5 := btrans HB5 hb
  clear hb CT
  go_wp2_with fail
  refine (cSame vua va vuc vc L _ (Us.own OU) UL (by omega)).mono ?_
  rintro e w10 ⟨rfl, hb⟩
  replace UL := UL.below hb
  replace U1 := U1.below hb
  replace U2 := U2.below hb
  replace UT := UT.below hb
  replace HB5 := btrans HB5 hb
  clear hb OU
  obtain ⟨p1, p2, p3, p4, p5⟩ := len_parts hfh.out q
  have CL0 := fun W (h : Us W va L) => cLenI va vc L W h hLz
  have CL1 := fun W (h : Us W va1 (L.take q)) => cLenI va1 vc1 (L.take q) W h (by rw [lt]; unfold maxLen; omega)
  have CL2 := fun W (h : Us W va2 (L.drop q)) => cLenI va2 vc2 (L.drop q) W h (by rw [ld]; unfold maxLen; omega)
  have CLT := fun W (h : Us W vta (turned L)) => cLenI vta vtc (turned L) W h (by rw [turned_len]; exact hLz)
  rw [lt] at CL1
  rw [ld] at CL2
  rw [turned_len, len_turned hfh.out] at CLT
  rw [p1] at CL0 CLT
  generalize lenV (L.take q) = A1 at *
  generalize lenV (L.drop q) = A2 at *
  have ew : IntKind.i64.wrap (A1 + A2) = A1 + A2 := wrap_in _ (by omega) (by omega)
  clear p1
  go_wp2_with fail
  refine (CL0 _ UL).mono ?_
  rintro e w11 ⟨rfl, hb⟩
  replace UL := UL.below hb
  replace U1 := U1.below hb
  replace U2 := U2.below hb
  replace UT := UT.below hb
  replace HB5 := btrans HB5 hb
  clear hb
  go_wp2_with fail
  refine (CL1 _ U1).mono ?_
  rintro e w12 ⟨rfl, hb⟩
  replace UL := UL.below hb
  replace U2 := U2.below hb
  replace UT := UT.below hb
  replace HB5 := btrans HB5 hb
  clear hb U1 CL1
  go_wp2_with fail
  refine (CL2 _ U2).mono ?_
  rintro e w13 ⟨rfl, hb⟩
  replace UL := UL.below hb
  replace UT := UT.below hb
  replace HB5 := btrans HB5 hb
  clear hb U2 CL2
  go_wp2_with fail
  refine (CLT _ UT).mono ?_
  rintro e w14 ⟨rfl, hb⟩
  replace UL := UL.below hb
  replace UT := UT.below hb
  replace HB5 := btrans HB5 hb
  clear hb CLT
  go_wp2_with fail
  refine (CL0 _ UL).mono ?_
  rintro e w15 ⟨rfl, hb⟩
  replace UL := UL.below hb
  replace UT := UT.below hb
  replace HB5 := btrans HB5 hb
  clear hb CL0
  have CRT := fun W (h : Us W vta (turned L)) => cRunI vta vtc (turned L) W h (by rw [turned_len]; exact t1) t2
  rw [turned_len, run_turned] at CRT
  have CRL := fun W (h : Us W va L) => cRunI va vc L W h r1 r2
  generalize runB L = rb at *
  go_wp2_with fail
  refine (CRT _ UT).mono ?_
  rintro e w16 ⟨rfl, hb⟩
  replace UL := UL.below hb
  replace UT := UT.below hb
  replace HB5 := btrans HB5 hb
  clear hb CRT
  go_wp2_with fail
  refine (CRL _ UL).mono ?_
  rintro e w17 ⟨rfl, hb⟩
  replace UL := UL.below hb
  replace UT := UT.below hb
  replace HB5 := btrans HB5 hb
  clear hb CRL
  have hrb : (rb != rb) = false := by simp
  go_wp2_with fail
  go_cut [116] from 86 (fun cv wc => cv = .bool false ∧ Below w17.heap.size w17 wc)
  case first =>
    by_cases hp : 0 < L.length
    · have d1 : decide ((0 : Int) < (L.length : Int)) = true := decide_eq_true (by omega)
      obtain ⟨m, hm⟩ : ∃ m, L.length - 1 = m := ⟨_, rfl⟩
      have hw1 : IntKind.i64.wrap ((L.length : Int) - 1) = (m : Int) := (wrap_in _ (by omega) (by omega)).trans (by omega)
      have hg := turned_get (l := L) (k := 0) hp
      rw [show L.length - 1 - 0 = m by omega] at hg
      rcases UT with h | ⟨tb, to_, rfl, tc⟩
      · exfalso; have := congrArg List.length h; rw [turned_len, List.length_nil] at this; omega
      rcases UL with h | ⟨lb, lo, rfl, lc⟩
      · exfalso; rw [h] at hp; simp at hp
      obtain ⟨x0, -, -, x3⟩ := tc 0 (by rw [turned_len]; exact hp)
      obtain ⟨y0, -, -, y3⟩ := lc m (by omega)
      rw [hg] at x0 x3
      generalize L.getD m UV.zero = y at *
      obtain ⟨yi, yc, ym, yb⟩ := y
      simp only [turnU, Nat.zero_mul, Nat.add_zero] at x0 x3 y0 y3
      have m0 : (0 : Int) ≤ (m : Int) := by omega
      have m1 : (m : Int) < (L.length : Int) := by omega
      have m2 : (0 : Int) < (L.length : Int) := by omega
      have n1 : (yi != yi) = false := by simp
      have n2 : ((!yb) == yb) = false := by cases yb <;> rfl
      replace hm := hide hm
      replace hg := hide hg
      clear tc lc
      go_quiet (fail)
      go_wp2_with fail
      go_meet
      exact ⟨rfl, bdraw (Below.refl _ _) _⟩
    · have d1 : decide ((0 : Int) < (L.length : Int)) = false := decide_eq_false (by omega)
      have d2 : decide (0 < L.length) = false := decide_eq_false hp
      have hL0 : L.length = 0 := by omega
      replace hp := hide hp
      go_quiet (fail)
      go_wp2_with fail
      go_meet
      exact ⟨rfl, bdraw (Below.refl _ _) _⟩
  case rest =>
  obtain ⟨rfl, hb⟩ := hcut
  replace UL := UL.below hb
  replace HB5 := btrans HB5 hb
  clear hb UT
  have CK := fun W (h : Us W va L) ht => cStockI va vc L W ht h hLz
  have CS := fun W (h : Us W va L) => cStockS va vc L W h hLz
  have hS : Hid (RdS (stockL L) (some L) ∨ stockL L = []) := hide (by
    by_cases h : stockL L = []
    · exact .inr h
    · exact .inl (.inl ⟨L, rfl, hfh.out, rfl, h⟩))
  have hl120 : (stockL L).length ≤ 120 := by
    unfold stockL
    split
    · split
      · simp
      · split
        · assumption
        · simp
    · simp
  have CR := fun W (h1 : W.cell? ⟨0, 0, none⟩ = some (.iface 127 (.pointer (some b)))) (h2 : Tab W) => cReadI (stockL L) W b h1 h2 (by omega)
  unfold S at CK CS
  generalize stockL L = T at *
  go_wp2_with fail
  refine (CK _ UL (ht.below HB5)).mono ?_
  rintro e w18 ⟨rfl, hb⟩
  replace UL := UL.below hb
  replace HB5 := btrans HB5 hb
  clear hb CK
  rcases hS.out with hR | h0
  · have hne : (⟨T.toArray⟩ : ByteArray).toList.isEmpty = false := by
      rw [ByteArray.toList_eq]
      rcases hR with ⟨us, h1, h2, h3, h4⟩ | ⟨h, _⟩
      · cases T with
        | nil => exact absurd rfl h4
        | cons x y => rfl
      · cases h
    have hRh := hide hR
    clear hR hS CS
    generalize (⟨T.toArray⟩ : ByteArray) = tx at *
    go_wp2_with fail
    refine (CR _ (ble HB5 hv) (ht.below HB5)).mono ?_
    rintro e w19 hA
    obtain ⟨us, ok, v5, hR5, rfl, O5, hb⟩ := hA.one
    obtain ⟨rfl, rfl⟩ := hR5.unique (.inl ⟨hRh.out, rfl⟩ : Rd1 T L true)
    obtain ⟨va5, vc5, rfl⟩ := own_form O5
    replace UL := UL.below hb
    replace HB5 := btrans HB5 hb
    clear hb hA hR5 CR
    go_wp2_with fail
    refine (cSame va5 va vc5 vc us _ (Us.own O5) UL (by omega)).mono ?_
    rintro e w20 ⟨rfl, hb⟩
    replace HB5 := btrans HB5 hb
    go_wp2
    go_ret
    exact ⟨rfl, HB5⟩
  · subst h0
    have he : (⟨([] : List UInt8).toArray⟩ : ByteArray) = ⟨#[]⟩ := rfl
    rw [he] at CS ⊢
    clear hS CR hl120
    go_wp2_with fail
    refine (CS _ UL).mono ?_
    rintro e w19 ⟨rfl, hb⟩
    replace HB5 := btrans HB5 hb
    go_wp2
    go_ret
    exact ⟨rfl, HB5⟩
end Go.Proofs.YtnddhpdhbmbikaaDoor
