/- The walk of FnJourney. -/
import Derived.Test.YtajeiiebddnchaaGreatDoorDX
import Derived.Test.YtajeiiebddnchaaGreatDoorJX
import Derived.Test.YtajeiiebddnchaaGreatDoorJN
import Derived.Test.YtajeiiebddnchaaGreatDoorJT
import Derived.Deep.Cut
import Derived.Deep.CutRange
import Derived.Deep.RegionHeld3
namespace Go.Proofs.YtajeiiebddnchaaGreatDoor
open Go.RowKit
theorem jn_text {ts : List TripV} {es : List LegV} {ch : Int} {l : List UInt8} (h : LegsP ts es ch) (h0 : 0 < es.length) (hj : J.JtAns ts es ch l) : l ≠ [] := by
  rcases hj with ⟨_, rfl⟩ | ⟨h1, _⟩
  · cases es with
    | nil => simp at h0
    | cons x xs => simp [J.jnL, J.join_all, J.legL]
  · exact absurd h h1
theorem Trips.form {w : World} {ao : Option Addr} {ts : List TripV} (h : Trips w ao ts) {i : Nat} (h0 : i < ts.length) : ∃ b off, ao = some ⟨b, off, none⟩ := by
  obtain ⟨b, off, _, _, hE, _⟩ := h.at h0
  exact ⟨b, off, hE⟩
theorem Trips.callL {w : World} {b off : Nat} {ts : List TripV} (h : Trips w (some ⟨b, off, none⟩) ts) {i : Nat} (hi : i < ts.length) : ∃ n c, w.cell? ⟨b, off + i * 2 + 1, none⟩ = some (.slice n (ncA ts i) c) ∧ Halts w n (ts.getD i TripV.zero).calls := by
  obtain ⟨b2, off2, n, c, hE, -, c2, -, hH⟩ := h.at hi
  simp only [Option.some.injEq, Addr.mk.injEq, and_true] at hE
  obtain ⟨rfl, rfl⟩ := hE
  exact ⟨n, c, c2, hH⟩
theorem Legs.form {w : World} {a : Option Addr} {es : List LegV} (h : Legs w a es) (h0 : 0 < es.length) : ∃ b off, a = some ⟨b, off, none⟩ := by
  rcases h with h | ⟨b, off, ha, _⟩
  · rw [h] at h0; simp at h0
  · exact ⟨b, off, ha⟩
theorem Legs.three {w : World} {b off : Nat} {es : List LegV} (h : Legs w (some ⟨b, off, none⟩) es) {i : Nat} (hi : i < es.length) : w.cell? ⟨b, off + i * 3, none⟩ = some (.int .i64 (es.getD i LegV.zero).t) ∧ w.cell? ⟨b, off + i * 3 + 1, none⟩ = some (.int .i64 (es.getD i LegV.zero).o) ∧ w.cell? ⟨b, off + i * 3 + 2, none⟩ = some (.int .i64 (es.getD i LegV.zero).f) := by
  rcases h with h | ⟨b2, off2, hE, hc⟩
  · rw [h] at hi; simp at hi
  · simp only [Option.some.injEq, Addr.mk.injEq, and_true] at hE
    obtain ⟨rfl, rfl⟩ := hE
    exact hc i hi
/-- A journey's first and last call, by their places. -/
theorem journey_nat {ts : List TripV} {f u m ch h r : Int} {L : List LegV} (q : AskP ts f u m ch h) (hs : SoonAns ts f u m ch h r) (hj : JnAns ts f u m ch h L) (hr : 0 ≤ r) (hne : f ≠ u) :
    ∃ T O PT PF : Nat, (0 < L.length ∧ L.length ≤ 5 ∧ (L.length : Int) ≤ h) ∧ LegsP ts L ch ∧ ((L.getD 0 LegV.zero).t = T ∧ (L.getD 0 LegV.zero).o = O ∧ T < ts.length ∧ O < ncA ts T) ∧
      ((L.getD (L.length - 1) LegV.zero).t = PT ∧ (L.getD (L.length - 1) LegV.zero).f = PF ∧ PT < ts.length ∧ PF < ncA ts PT) ∧
      ((hcA ts T O).n = f ∧ m ≤ (hcA ts T O).d ∧ (hcA ts PT PF).n = u ∧ (hcA ts PT PF).a = r) ∧ ∀ r', SoonAns ts f u m ch ((L.length : Int) - 1) r' → r' ≠ r := by
  obtain ⟨a1, a2, a3, a4, a5, a6, a7, a8⟩ := (journey_is q hs hj).2.2 hr hne
  obtain ⟨⟨b1, b2⟩, b3, b4, b5⟩ := a3.2.2.2.1 0 a1
  obtain ⟨⟨c1, c2⟩, c3, c4, c5⟩ := a3.2.2.2.1 (L.length - 1) (by omega)
  exact ⟨_, _, _, _, ⟨a1, a3.2.2.1, a2⟩, a3, ⟨(Int.toNat_of_nonneg b1).symm, (Int.toNat_of_nonneg b3).symm, by omega, by omega⟩, ⟨(Int.toNat_of_nonneg c1).symm, (Int.toNat_of_nonneg (by omega)).symm, by omega, by omega⟩, ⟨a4, a5, a6, a7⟩, a8⟩
theorem cLegsIN (a : Option Addr) (cap : Nat) (ts : List TripV) (la : Option Addr) (lc : Nat) (es : List LegV) (N : Nat) (hN : es.length = N) (ch : Int) (w : World) (hz : Trips w a ts) (hS : Small ts) (he : Legs w la es) (hel : es.length ≤ 1048576) :
    Calls Tryz.prog 10 #[.slice a ts.length cap, .slice la N lc, .int .i64 ch] w (AnsIff w (LegsP ts es ch)) := by
  subst hN
  exact cLegsI a cap ts la lc es ch w hz hS he hel
theorem cLegsSN (a : Option Addr) (cap : Nat) (ts : List TripV) (la : Option Addr) (lc : Nat) (es : List LegV) (N : Nat) (hN : es.length = N) (ch : Int) (w : World) (hz : Trips w a ts) (hS : Small ts) (he : Legs w la es) :
    Calls Tryz.prog 11 #[.slice a ts.length cap, .slice la N lc, .int .i64 ch] w (AnsIff w (LegsP ts es ch)) := by
  subst hN
  exact cLegsS a cap ts la lc es ch w hz hS he
theorem cJtIN (a : Option Addr) (cap : Nat) (ts : List TripV) (la : Option Addr) (lc : Nat) (es : List LegV) (N : Nat) (hN : es.length = N) (ch : Int) (w : World) (ht : J.Tab w) (hz : Trips w a ts) (hS : Small ts) (he : Legs w la es) (hel : es.length ≤ 1048576) :
    Calls Tryz.prog 12 #[.slice a ts.length cap, .slice la N lc, .int .i64 ch] w (J.JtPost ts es ch w) := by
  subst hN
  exact J.cJtI a cap ts la lc es ch w ht hz hS he hel

set_option maxRecDepth 100000 in
set_option maxHeartbeats 6400000 in
theorem walkJourneyD (a : Option Addr) (cap : Nat) (zs : List Int) (w : World) (htab : J.Tab w) (hz : Bytes w a zs) (hm : zs.length ≤ maxLen) :
    Calls Tryz.prog 3 #[.slice a zs.length cap] w fun e w' => e = .returned (.bool true) ∧ Below w.heap.size w w' := by
  by_cases hbig : 1048576 < zs.length
  · have hd : decide (1048576 < zs.length) = true := by simp [hbig]
    go_enter Tryz.func3, Tryz.ntmps3
    go_wp2_with fail
    refine (cbig a cap zs.length _ hm).mono ?_
    rintro e w1 ⟨rfl, hw⟩
    subst w1
    rw [hd]
    go_wp2
    go_ret
    exact ⟨rfl, Below.refl _ _⟩
  have hd : decide (1048576 < zs.length) = false := by simp; omega
  have hl : zs.length ≤ 1048576 := by omega
  have hat := atZ_in hz 5
  go_enter Tryz.func3, Tryz.ntmps3
  go_wp2_with fail
  refine (cbig a cap zs.length _ hm).mono ?_
  rintro e w1 ⟨rfl, hw⟩
  subst w1
  rw [hd]
  clear hd hbig hm
  go_wp2_with fail
  refine (cDrawQ a cap zs _ hz hl).mono ?_
  rintro e w1 ⟨ao, cp, ts, f, u, m, ch, rfl, hT, hS, hTab, ⟨f0, f1⟩, ⟨u0, u1⟩, ⟨m0, m1⟩, ⟨c0, c1⟩, HB⟩
  go_wp2_with fail
  refine (cat a cap zs 5 _ (hz.below HB) hl (by omega)).mono ?_
  rintro e w2 ⟨rfl, hw⟩
  subst w2
  generalize atZ zs 5 = z at *
  obtain ⟨q1, q2, q3⟩ := rem_in (x := z) (n := 5) hat.1 (by omega) (by omega)
  obtain ⟨h, hh⟩ : ∃ h, h = 1 + z % 5 := ⟨_, rfl⟩
  have hh1 : 1 ≤ h := by omega
  have hh5 : h ≤ 5 := by omega
  have q : Hid (AskP ts f u m ch h) := ⟨hTab, inB_yes (by omega) (by omega), inB_yes (by omega) (by omega), inB_yes (by omega) (by omega), inB_yes (by omega) (by omega), inB_yes (by omega) (by omega)⟩
  have hg := hide (table_gd hTab)
  have hl24 := hg.out.few
  replace hS := hide hS
  replace hT := hide hT
  replace htab := hide (htab.below HB)
  go_wp2_with fail
  rw [← hh]
  clear hh q1 q2 q3 hat hTab
  refine (cSoonI ao cp ts f u m ch h _ hT.out hS.out).mono ?_
  rintro e w3 ⟨r, rfl, hr, hb⟩
  replace HB := btrans HB hb
  replace hT := hide (hT.out.below hb)
  replace htab := hide (htab.out.below hb)
  replace hr := hide hr
  clear hb
  go_wp2_with fail
  refine (cJourneyI ao cp ts f u m ch h _ hT.out hS.out).mono ?_
  rintro e w4 ⟨v, rfl, L, hL, O4, hb⟩
  obtain ⟨la, lc, rfl⟩ := own_form O4
  have hLg := hide (Legs.own O4)
  replace HB := btrans HB hb
  replace hT := hide (hT.out.below hb)
  replace htab := hide (htab.out.below hb)
  replace hL := hide hL
  clear hb O4
  go_wp2_with fail
  refine (cSoonS ao cp ts f u m ch h _ hT.out hS.out).mono ?_
  rintro e w5 ⟨r2, rfl, hr2, hb⟩
  obtain rfl : r = r2 := hr.out.uniq hr2
  replace HB := btrans HB hb
  replace hT := hide (hT.out.below hb)
  replace htab := hide (htab.out.below hb)
  replace hLg := hide (hLg.out.below hb)
  clear hb hr2
  obtain ⟨hj1, hj2, -⟩ := journey_is q.out hr.out hL.out
  by_cases hfu : f = u
  · obtain ⟨rfl, hrm⟩ := hj2 hfu
    clear hj1 hj2 hLg
    subst hrm
    have hr0 : ¬ r < 0 := by omega
    subst hfu
    go_wp2
    go_ret
    exact ⟨rfl, HB⟩
  by_cases hr0 : r < 0
  · obtain rfl := hj1 hr0
    clear hj1 hj2 hLg
    go_wp2
    go_ret
    exact ⟨rfl, HB⟩
  obtain ⟨T, O, PT, PF, ⟨hL0, hL5, hLh⟩, hLP, ⟨e1, e2, hTl, hOl⟩, ⟨e3, e4, hPTl, hPFl⟩, ⟨x1, x2, x3, x4⟩, hno⟩ := journey_nat q.out hr.out hL.out (by omega) hfu
  obtain ⟨N, hN⟩ : ∃ N, L.length = N := ⟨_, rfl⟩
  rw [hN] at hL0 hL5 hLh e3 e4 hno
  rw [hN]
  replace hN := hide hN
  replace hLP := hide hLP
  replace hno := hide hno
  have hL0' : (0 : Int) < (N : Int) := by omega
  have hLn : ¬ ((N : Int) = 0) := by omega
  have hLn2 : ¬ (N = 0) := by omega
  have hLh' : ¬ (h < (N : Int)) := by omega
  clear hj1 hj2
  replace x1 := hide x1
  replace x2 := hide x2
  replace x3 := hide x3
  replace x4 := hide x4
  replace e1 := hide e1
  replace e2 := hide e2
  replace e3 := hide e3
  replace e4 := hide e4
  have g1 : decide (r < 0) = false := decide_eq_false hr0
  have g2 : decide (f = u) = false := decide_eq_false hfu
  have g3 : ((N : Int) == 0) = false := by rw [beq_eq_false_iff_ne]; exact hLn
  have g4 : decide (h < (N : Int)) = false := decide_eq_false hLh'
  go_wp2_with fail
  refine (cLegsIN ao cp ts la lc L N hN.out ch _ hT.out hS.out hLg.out (by rw [hN.out]; omega)).mono ?_
  rintro e w6 ⟨ok, rfl, hok, hb⟩
  obtain rfl : ok = true := hok.2 hLP.out
  replace HB := btrans HB hb
  replace hT := hide (hT.out.below hb)
  replace htab := hide (htab.out.below hb)
  replace hLg := hide (hLg.out.below hb)
  clear hb hok
  go_wp2_with fail
  refine (cLegsSN ao cp ts la lc L N hN.out ch _ hT.out hS.out hLg.out).mono ?_
  rintro e w7 ⟨ok, rfl, hok, hb⟩
  obtain rfl : ok = true := hok.2 hLP.out
  replace HB := btrans HB hb
  replace hT := hide (hT.out.below hb)
  replace htab := hide (htab.out.below hb)
  replace hLg := hide (hLg.out.below hb)
  clear hb hok
  obtain ⟨tb, tof, rfl⟩ := hT.out.form hTl
  obtain ⟨lb, lof, rfl⟩ := hLg.out.form (by rw [hN.out]; exact hL0)
  obtain ⟨n1, k1, t1, hH1⟩ := hT.out.callL hTl
  obtain ⟨b1, o1, rfl, y0, y1, y2⟩ := call_cells hH1 hOl
  obtain ⟨p0, p1, -⟩ := hLg.out.three (i := 0) (by rw [hN.out]; exact hL0)
  rw [e1.out] at p0
  rw [e2.out] at p1
  simp only [Nat.zero_mul, Nat.add_zero] at p0 p1
  have hT0 : (0 : Int) ≤ (T : Int) := by omega
  have hTl' : (T : Int) < (ts.length : Int) := by omega
  have hO0 : (0 : Int) ≤ (O : Int) := by omega
  have hOl' : (O : Int) < (ncA ts T : Int) := by omega
  have s1 := cell_lt y0
  have s2 := cell_lt p0
  have s3 := cell_lt t1
  obtain ⟨X, hX⟩ : ∃ X, hcA ts T O = X := ⟨_, rfl⟩
  rw [hX] at y0 y1 y2 x1 x2
  obtain ⟨xn, xa, xd⟩ := X
  replace hX := hide hX
  clear hH1
  have d1 : w7.heap.size ≠ b1 := Nat.ne_of_gt s1
  have d2 : w7.heap.size ≠ lb := Nat.ne_of_gt s2
  have d3 : w7.heap.size ≠ tb := Nat.ne_of_gt s3
  dsimp only at y0 y1 y2 x1 x2
  go_upto_region 13 with fail
  go_cut [11] from 97 to 111 (fun cv wc => GotOne w7 xn xa xd cv wc)
  case first =>
    go_region_held3 (fun w' => w'.cell? ⟨lb, lof, none⟩ = some (.int .i64 T) ∧ w'.cell? ⟨lb, lof + 1, none⟩ = some (.int .i64 O) ∧ w'.cell? ⟨tb, tof + T * 2 + 1, none⟩ = some (.slice (some ⟨b1, o1, none⟩) (ncA ts T) k1) ∧ w'.cell? ⟨b1, o1 + O * 3, none⟩ = some (.int .i64 xn) ∧ w'.cell? ⟨b1, o1 + O * 3 + 1, none⟩ = some (.int .i64 xa) ∧ w'.cell? ⟨b1, o1 + O * 3 + 2, none⟩ = some (.int .i64 xd)) (go_keep) (fail)
    go_wp2_with fail
    go_meet
    first | exact GotOne.mk _ _ _ _ _ | exact GotOne.mk1 _ _ _ _
  case rest =>
  obtain ⟨bq, rfl, Q0, B2⟩ := hcut
  replace HB := btrans HB B2
  replace hT := hide (hT.out.below B2)
  replace htab := hide (htab.out.below B2)
  replace hLg := hide (hLg.out.below B2)
  clear B2 y0 y1 y2 p0 p1 t1 s1 s2 s3 d1 d2 d3
  obtain ⟨n2, k2, t2, hH2⟩ := hT.out.callL hPTl
  obtain ⟨b2, o2, rfl, y0, y1, y2⟩ := call_cells hH2 hPFl
  obtain ⟨j, hj⟩ : ∃ j, j = N - 1 := ⟨_, rfl⟩
  rw [← hj] at e3 e4
  have hjl : j < N := by omega
  have hjl' : (j : Int) < (N : Int) := by omega
  have hj0 : (0 : Int) ≤ (j : Int) := by omega
  have hw4 : IntKind.i64.wrap ((N : Int) - 1) = (j : Int) := by rw [wrap_in _ (by omega) (by omega)]; omega
  have hj1 : (j : Int) = (N : Int) - 1 := by omega
  replace hj := hide hj
  replace hj1 := hide hj1
  obtain ⟨p0, -, p2⟩ := hLg.out.three (i := j) (by rw [hN.out]; exact hjl)
  rw [e3.out] at p0
  rw [e4.out] at p2
  have hPT0 : (0 : Int) ≤ (PT : Int) := by omega
  have hPTl' : (PT : Int) < (ts.length : Int) := by omega
  have hPF0 : (0 : Int) ≤ (PF : Int) := by omega
  have hPFl' : (PF : Int) < (ncA ts PT : Int) := by omega
  have s1 := cell_lt y0
  have s2 := cell_lt p0
  have s3 := cell_lt t2
  obtain ⟨Y, hY⟩ : ∃ Y, hcA ts PT PF = Y := ⟨_, rfl⟩
  rw [hY] at y0 y1 y2 x3 x4
  obtain ⟨yn, ya, yd⟩ := Y
  replace hY := hide hY
  have d1 : wc.heap.size ≠ b2 := Nat.ne_of_gt s1
  have d2 : wc.heap.size ≠ lb := Nat.ne_of_gt s2
  have d3 : wc.heap.size ≠ tb := Nat.ne_of_gt s3
  dsimp only at y0 y1 y2 x3 x4
  clear hH2
  have Qh := hide Q0
  clear Q0
  go_upto_region 14 with fail
  go_cut [12] from 111 to 131 (fun cv wd => GotOne wc yn ya yd cv wd)
  case first =>
    go_region_held3 (fun w' => w'.cell? ⟨lb, lof + j * 3, none⟩ = some (.int .i64 PT) ∧ w'.cell? ⟨lb, lof + j * 3 + 2, none⟩ = some (.int .i64 PF) ∧ w'.cell? ⟨tb, tof + PT * 2 + 1, none⟩ = some (.slice (some ⟨b2, o2, none⟩) (ncA ts PT) k2) ∧ w'.cell? ⟨b2, o2 + PF * 3, none⟩ = some (.int .i64 yn) ∧ w'.cell? ⟨b2, o2 + PF * 3 + 1, none⟩ = some (.int .i64 ya) ∧ w'.cell? ⟨b2, o2 + PF * 3 + 2, none⟩ = some (.int .i64 yd)) (go_keep) (fail)
    go_wp2_with fail
    go_meet
    first | exact GotOne.mk _ _ _ _ _ | exact GotOne.mk1 _ _ _ _
  case rest =>
  obtain ⟨bp, rfl, P0, B2⟩ := hcut
  have Q1 := keepB B2 Qh.out
  replace HB := btrans HB B2
  replace hT := hide (hT.out.below B2)
  replace htab := hide (htab.out.below B2)
  replace hLg := hide (hLg.out.below B2)
  clear B2 y0 y1 y2 p0 p2 t2 s1 s2 s3 d1 d2 d3 Qh
  obtain ⟨⟨u0', u1', u2'⟩, -⟩ := threeC P0
  obtain ⟨⟨v0, v1, v2⟩, -⟩ := threeC Q1
  have x1' := x1.out
  have x2' := x2.out
  have x3' := x3.out
  have x4' := x4.out
  clear x1 x2 x3 x4 P0 Q1 hX hY e1 e2 e3 e4
  subst x1' x3' x4'
  have x5 : ¬ (xd < m) := by omega
  by_cases h1 : N = 1
  · have h1' : ¬ ((1 : Int) < (N : Int)) := by omega
    clear h1
    go_wp2
    go_loopw [13] (fun ii wr => ∃ i : Nat, i ≤ ts.length ∧ ii = .int .i64 i ∧ wc = wr) (fun ii _ => ts.length - (intOf ii).toNat)
    case atStart => exact ⟨0, Nat.zero_le _, rfl, rfl⟩
    case round =>
      clear u0' u1' u2' v0 v1 v2
      obtain ⟨i, hil, rfl, rfl⟩ := hrel
      by_cases hilt : i < ts.length
      · have hilt' : (i : Int) < (ts.length : Int) := by omega
        obtain ⟨n, cn, c2, hHl⟩ := hT.out.callL hilt
        have hnc := (hg.out.len i hilt).2
        replace hHl := hide hHl
        go_wp2
        go_loopw [15] (fun kk wr => ∃ k : Nat, k ≤ ncA ts i ∧ kk = .int .i64 k ∧ wc = wr) (fun kk _ => ncA ts i - (intOf kk).toNat)
        case atStart => exact ⟨0, Nat.zero_le _, rfl, rfl⟩
        case round =>
          obtain ⟨k, hkl, rfl, rfl⟩ := hrel
          by_cases hklt : k < ncA ts i
          · have hklt' : (k : Int) < (ncA ts i : Int) := by omega
            have hwk : IntKind.i64.wrap ((k : Int) + 1) = (k : Int) + 1 := wrap_in _ (by omega) (by omega)
            go_wp2
            go_loopw [16] (fun mm wr => ∃ l : Nat, k + 1 ≤ l ∧ l ≤ ncA ts i ∧ mm = .int .i64 l ∧ wc = wr) (fun mm _ => ncA ts i - (intOf mm).toNat)
            case atStart => exact ⟨k + 1, Nat.le_refl _, hklt, by go_num, (by first | rfl | trivial)⟩
            case round =>
              obtain ⟨l, hkl2, hll, rfl, rfl⟩ := hrel
              by_cases hllt : l < ncA ts i
              · have hllt' : (l : Int) < (ncA ts i : Int) := by omega
                obtain ⟨b3, o3, rfl, g0, g1, g2⟩ := call_cells hHl.out hklt
                obtain ⟨b4, o4, hE, j0, j1, j2⟩ := call_cells hHl.out hllt
                simp only [Option.some.injEq, Addr.mk.injEq, and_true] at hE
                obtain ⟨rfl, rfl⟩ := hE
                have hone := hide (fun e1 e2 e3 => (one_later q.out hh1 hr.out (i := i) (k := k) (l := l) ⟨hilt, by omega, hllt⟩ e1 e2 e3).2)
                generalize hcA ts i k = x at *
                generalize hcA ts i l = y at *
                obtain ⟨zn, za, zd⟩ := x
                obtain ⟨sn, sa, sd⟩ := y
                dsimp only at g0 g1 g2 j0 j1 j2 hone
                clear hT htab hLg hg c2 hHl g1 j2
                by_cases E1 : zn = xn
                · by_cases E2 : m ≤ zd
                  · by_cases E3 : sn = yn
                    · have E4 := hone.out E1 E2 E3
                      have E5 : ¬ (sa < ya) := by omega
                      go_wp2
                      go_roundw
                      case rel => first | exact ⟨l + 1, by omega, by omega, by go_num, (by first | rfl | trivial)⟩ | ((repeat apply Exists.intro); refine ⟨?_, rfl⟩; exact ⟨l + 1, by omega, by omega, by go_num, (by first | rfl | trivial)⟩)
                      case measure => simp [intOf]; omega
                    · go_wp2
                      go_roundw
                      case rel => first | exact ⟨l + 1, by omega, by omega, by go_num, (by first | rfl | trivial)⟩ | ((repeat apply Exists.intro); refine ⟨?_, rfl⟩; exact ⟨l + 1, by omega, by omega, by go_num, (by first | rfl | trivial)⟩)
                      case measure => simp [intOf]; omega
                  · go_wp2
                    go_roundw
                    case rel => first | exact ⟨l + 1, by omega, by omega, by go_num, (by first | rfl | trivial)⟩ | ((repeat apply Exists.intro); refine ⟨?_, rfl⟩; exact ⟨l + 1, by omega, by omega, by go_num, (by first | rfl | trivial)⟩)
                    case measure => simp [intOf]; omega
                · go_wp2
                  go_roundw
                  case rel => first | exact ⟨l + 1, by omega, by omega, by go_num, (by first | rfl | trivial)⟩ | ((repeat apply Exists.intro); refine ⟨?_, rfl⟩; exact ⟨l + 1, by omega, by omega, by go_num, (by first | rfl | trivial)⟩)
                  case measure => simp [intOf]; omega
              · have hllt' : ¬ ((l : Int) < (ncA ts i : Int)) := by omega
                go_wp2
                go_roundw
                case rel => first | exact ⟨k + 1, by omega, by go_num, (by first | rfl | trivial)⟩ | ((repeat apply Exists.intro); refine ⟨?_, rfl⟩; exact ⟨k + 1, by omega, by go_num, (by first | rfl | trivial)⟩)
                case measure => simp [intOf]; omega
          · have hklt' : ¬ ((k : Int) < (ncA ts i : Int)) := by omega
            go_wp2
            go_roundw
            case rel => first | exact ⟨i + 1, by omega, by go_num, (by first | rfl | trivial)⟩ | ((repeat apply Exists.intro); refine ⟨?_, rfl⟩; exact ⟨i + 1, by omega, by go_num, (by first | rfl | trivial)⟩)
            case measure => simp [intOf]; omega
      · have hilt' : ¬ ((i : Int) < (ts.length : Int)) := by omega
        go_wp2_with fail
        refine (cJtIN (some ⟨tb, tof, none⟩) cp ts (some ⟨lb, lof, none⟩) lc L N hN.out ch wc htab.out hT.out hS.out hLg.out (by rw [hN.out]; omega)).mono ?_
        rintro e wz ⟨s, rfl, hs, hb⟩
        have hne := jn_text hLP.out (by rw [hN.out]; exact hL0) hs
        have hse : s.isEmpty = false := by cases s with
          | nil => exact absurd rfl hne
          | cons _ _ => rfl
        clear hs hT htab hLg hg hS q hr hLP hno
        go_wp2
        go_ret
        exact ⟨rfl, btrans HB hb⟩
  · have h1' : (1 : Int) < (N : Int) := by omega
    clear h1
    go_wp2_with fail
    refine (cSoonI _ cp ts _ _ m ch j _ hT.out hS.out).mono ?_
    rintro e w9 ⟨r9, rfl, hr9, hb⟩
    have hne9 := hno.out r9 (by rw [← hj1.out]; exact hr9)
    replace HB := btrans HB hb
    replace hT := hide (hT.out.below hb)
    replace htab := hide (htab.out.below hb)
    replace hLg := hide (hLg.out.below hb)
    clear hb hr9 u0' u1' u2' v0 v1 v2
    go_wp2
    have hbz : (r9 == ya) = false := by simpa using hne9
    rw [hbz]
    clear hne9 hbz
    go_loopw [13] (fun ii wr => ∃ i : Nat, i ≤ ts.length ∧ ii = .int .i64 i ∧ w9 = wr) (fun ii _ => ts.length - (intOf ii).toNat)
    case atStart => exact ⟨0, Nat.zero_le _, rfl, rfl⟩
    case round =>
      obtain ⟨i, hil, rfl, rfl⟩ := hrel
      by_cases hilt : i < ts.length
      · have hilt' : (i : Int) < (ts.length : Int) := by omega
        obtain ⟨n, cn, c2, hHl⟩ := hT.out.callL hilt
        have hnc := (hg.out.len i hilt).2
        replace hHl := hide hHl
        go_wp2
        go_loopw [15] (fun kk wr => ∃ k : Nat, k ≤ ncA ts i ∧ kk = .int .i64 k ∧ w9 = wr) (fun kk _ => ncA ts i - (intOf kk).toNat)
        case atStart => exact ⟨0, Nat.zero_le _, rfl, rfl⟩
        case round =>
          obtain ⟨k, hkl, rfl, rfl⟩ := hrel
          by_cases hklt : k < ncA ts i
          · have hklt' : (k : Int) < (ncA ts i : Int) := by omega
            have hwk : IntKind.i64.wrap ((k : Int) + 1) = (k : Int) + 1 := wrap_in _ (by omega) (by omega)
            go_wp2
            go_loopw [16] (fun mm wr => ∃ l : Nat, k + 1 ≤ l ∧ l ≤ ncA ts i ∧ mm = .int .i64 l ∧ w9 = wr) (fun mm _ => ncA ts i - (intOf mm).toNat)
            case atStart => exact ⟨k + 1, Nat.le_refl _, hklt, by go_num, (by first | rfl | trivial)⟩
            case round =>
              obtain ⟨l, hkl2, hll, rfl, rfl⟩ := hrel
              by_cases hllt : l < ncA ts i
              · have hllt' : (l : Int) < (ncA ts i : Int) := by omega
                obtain ⟨b3, o3, rfl, g0, g1, g2⟩ := call_cells hHl.out hklt
                obtain ⟨b4, o4, hE, j0, j1, j2⟩ := call_cells hHl.out hllt
                simp only [Option.some.injEq, Addr.mk.injEq, and_true] at hE
                obtain ⟨rfl, rfl⟩ := hE
                have hone := hide (fun e1 e2 e3 => (one_later q.out hh1 hr.out (i := i) (k := k) (l := l) ⟨hilt, by omega, hllt⟩ e1 e2 e3).2)
                generalize hcA ts i k = x at *
                generalize hcA ts i l = y at *
                obtain ⟨zn, za, zd⟩ := x
                obtain ⟨sn, sa, sd⟩ := y
                dsimp only at g0 g1 g2 j0 j1 j2 hone
                clear hT htab hLg hg c2 hHl g1 j2
                by_cases E1 : zn = xn
                · by_cases E2 : m ≤ zd
                  · by_cases E3 : sn = yn
                    · have E4 := hone.out E1 E2 E3
                      have E5 : ¬ (sa < ya) := by omega
                      go_wp2
                      go_roundw
                      case rel => first | exact ⟨l + 1, by omega, by omega, by go_num, (by first | rfl | trivial)⟩ | ((repeat apply Exists.intro); refine ⟨?_, rfl⟩; exact ⟨l + 1, by omega, by omega, by go_num, (by first | rfl | trivial)⟩)
                      case measure => simp [intOf]; omega
                    · go_wp2
                      go_roundw
                      case rel => first | exact ⟨l + 1, by omega, by omega, by go_num, (by first | rfl | trivial)⟩ | ((repeat apply Exists.intro); refine ⟨?_, rfl⟩; exact ⟨l + 1, by omega, by omega, by go_num, (by first | rfl | trivial)⟩)
                      case measure => simp [intOf]; omega
                  · go_wp2
                    go_roundw
                    case rel => first | exact ⟨l + 1, by omega, by omega, by go_num, (by first | rfl | trivial)⟩ | ((repeat apply Exists.intro); refine ⟨?_, rfl⟩; exact ⟨l + 1, by omega, by omega, by go_num, (by first | rfl | trivial)⟩)
                    case measure => simp [intOf]; omega
                · go_wp2
                  go_roundw
                  case rel => first | exact ⟨l + 1, by omega, by omega, by go_num, (by first | rfl | trivial)⟩ | ((repeat apply Exists.intro); refine ⟨?_, rfl⟩; exact ⟨l + 1, by omega, by omega, by go_num, (by first | rfl | trivial)⟩)
                  case measure => simp [intOf]; omega
              · have hllt' : ¬ ((l : Int) < (ncA ts i : Int)) := by omega
                go_wp2
                go_roundw
                case rel => first | exact ⟨k + 1, by omega, by go_num, (by first | rfl | trivial)⟩ | ((repeat apply Exists.intro); refine ⟨?_, rfl⟩; exact ⟨k + 1, by omega, by go_num, (by first | rfl | trivial)⟩)
                case measure => simp [intOf]; omega
          · have hklt' : ¬ ((k : Int) < (ncA ts i : Int)) := by omega
            go_wp2
            go_roundw
            case rel => first | exact ⟨i + 1, by omega, by go_num, (by first | rfl | trivial)⟩ | ((repeat apply Exists.intro); refine ⟨?_, rfl⟩; exact ⟨i + 1, by omega, by go_num, (by first | rfl | trivial)⟩)
            case measure => simp [intOf]; omega
      · have hilt' : ¬ ((i : Int) < (ts.length : Int)) := by omega
        go_wp2_with fail
        refine (cJtIN (some ⟨tb, tof, none⟩) cp ts (some ⟨lb, lof, none⟩) lc L N hN.out ch w9 htab.out hT.out hS.out hLg.out (by rw [hN.out]; omega)).mono ?_
        rintro e wz ⟨s, rfl, hs, hb⟩
        have hne := jn_text hLP.out (by rw [hN.out]; exact hL0) hs
        have hse : s.isEmpty = false := by cases s with
          | nil => exact absurd rfl hne
          | cons _ _ => rfl
        clear hs hT htab hLg hg hS q hr hLP hno
        go_wp2
        go_ret
        exact ⟨rfl, btrans HB hb⟩
end Go.Proofs.YtajeiiebddnchaaGreatDoor
