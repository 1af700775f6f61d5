/- Legs that are right: the model's answer. -/
import Derived.Test.YtajeiiebddnchaaGreatDoorJM
namespace Go.Proofs.YtajeiiebddnchaaGreatDoor
open Go.RowKit

/-- A call in a box of its own. -/
def GotOne (W : World) (n a d : Int) (cv : Value) (wc : World) : Prop := ∃ q, cv = .pointer (some ⟨q, 0, none⟩) ∧ wc.heap[q]? = some (.cells #[.int .i64 n, .int .i64 a, .int .i64 d] 33 (0, 0)) ∧ Below W.heap.size W wc
theorem GotOne.mk (W : World) (n a d : Int) (k : Nat) : GotOne W n a d (.pointer (some ⟨W.heap.size, 0, none⟩)) ((W.drewN k).alloc (.cells #[.int .i64 n, .int .i64 a, .int .i64 d] 33)) :=
  ⟨_, rfl, one_block (W.drewN k) _, btrans (bdraw (Below.refl _ _) k) (balloc _ _)⟩
theorem GotOne.mk2 (W : World) (o : Obj) (n a d : Int) (k : Nat) : GotOne (W.alloc o) n a d (.pointer (some ⟨W.heap.size + 1, 0, none⟩)) (((W.alloc o).drewN k).alloc (.cells #[.int .i64 n, .int .i64 a, .int .i64 d] 33)) := by
  have h := GotOne.mk (W.alloc o) n a d k
  rw [sz1] at h
  exact h
theorem GotOne.mk1 (W : World) (n a d : Int) : GotOne W n a d (.pointer (some ⟨W.heap.size, 0, none⟩)) ((W.drew).alloc (.cells #[.int .i64 n, .int .i64 a, .int .i64 d] 33)) := GotOne.mk W n a d 1

set_option maxRecDepth 20000 in
set_option maxHeartbeats 6400000 in
theorem cLegsS (a : Option Addr) (cap : Nat) (ts : List TripV) (la : Option Addr) (lc : Nat) (es : List LegV) (ch : Int) (w : World) (hz : Trips w a ts) (hS : Small ts) (he : Legs w la es) :
    Calls Tryz.prog 11 #[.slice a ts.length cap, .slice la es.length lc, .int .i64 ch] w (AnsIff w (LegsP ts es ch)) := by
  go_enter Tryz.func11, Tryz.ntmps11
  go_wp2_with fail
  refine (cTableS a cap ts _ hz hS).mono ?_
  rintro e w1 ⟨r, rfl, hr, HB⟩
  cases r
  · have hF : Hid (¬ LegsP ts es ch) := hide (fun q => absurd (hr.2 q.1) (by decide))
    clear hr
    go_wp2
    go_ret
    exact AnsIff.no hF.out HB
  have hT := hide (hr.1 rfl)
  have hg := table_gd hT.out
  have hl24 := hg.few
  clear hr
  go_wp2_with fail
  refine (cChangeS ch _).mono ?_
  rintro e w2 ⟨rfl, hw⟩
  subst w2
  cases hc : inB ch 0 60
  · have hF : Hid (¬ LegsP ts es ch) := hide (fun q => by have := q.2.1; rw [hc] at this; cases this)
    clear hg
    go_wp2
    go_ret
    exact AnsIff.no hF.out HB
  obtain ⟨hc0, hc1⟩ := inB_true hc
  by_cases h5 : 5 < es.length
  · have h5' : (5 : Int) < (es.length : Int) := by omega
    have hF : Hid (¬ LegsP ts es ch) := hide (fun q => by have := q.2.2.1; omega)
    clear hg hc
    go_wp2
    go_ret
    exact AnsIff.no hF.out HB
  have h5' : ¬ ((5 : Int) < (es.length : Int)) := by omega
  have h5n : es.length ≤ 5 := by omega
  replace hc := hide hc
  go_wp2
  go_loopw [7] (fun ii wr => ∃ k : Nat, k ≤ es.length ∧ ii = .int .i64 k ∧ Hid ((∀ i, i < k → LegG ts (es.getD i LegV.zero)) ∧ ∀ i, i + 1 < k → JoinG ts ch (es.getD i LegV.zero) (es.getD (i + 1) LegV.zero)) ∧ Below w.heap.size w wr) (fun ii _ => es.length - (intOf ii).toNat)
  case atStart => exact ⟨0, Nat.zero_le _, rfl, hide ⟨fun i h => by omega, fun i h => by omega⟩, HB⟩
  case round =>
    clear HB
    obtain ⟨k, hk, rfl, hI, hb⟩ := hrel
    by_cases hlt : k < es.length
    · have hlt' : (k : Int) < (es.length : Int) := by omega
      rcases he with h | ⟨b, off, rfl, hcs⟩
      · simp [h] at hlt
      obtain ⟨q0, q1, q2⟩ := hcs k hlt
      replace q0 := ble hb q0
      replace q1 := ble hb q1
      replace q2 := ble hb q2
      have hNo : Hid (¬ LegG ts (es.getD k LegV.zero) → ¬ LegsP ts es ch) := hide (fun h q => h (q.2.2.2.1 k hlt))
      have hEk : Hid (∀ Z, Z = es.getD k LegV.zero → LegG ts Z → ((∀ i, i < k + 1 → LegG ts (es.getD i LegV.zero)))) := hide (fun Z hZ h i hi => by
        by_cases e : i = k
        · subst e; rw [← hZ]; exact h
        · exact hI.out.1 i (by omega))
      obtain ⟨Z, hZ⟩ : ∃ Z, Z = es.getD k LegV.zero := ⟨_, rfl⟩
      rw [← hZ] at q0 q1 q2 hNo
      have hZ' := hide hZ
      clear hZ
      obtain ⟨t, o, f⟩ := Z
      dsimp only at q0 q1 q2
      have hG : Hid (LegG ts ⟨t, o, f⟩ ↔ ((0 ≤ t ∧ t ≤ (ts.length : Int) - 1) ∧ 0 ≤ o ∧ o < f ∧ f < (ncA ts t.toNat : Int))) := hide Iff.rfl
      have hba := balloc wr (.cells #[.int .i64 t, .int .i64 o, .int .i64 f] 38)
      have LB := one_block wr (.cells #[.int .i64 t, .int .i64 o, .int .i64 f] 38)
      have hb1 := btrans hb hba
      have hbs := cell_lt q0
      have C1 := fun V => cIn t 0 ((ts.length : Int) - 1) V
      have hw1 : IntKind.i64.wrap ((ts.length : Int) - 1) = (ts.length : Int) - 1 := wrap_in _ (by omega) (by omega)
      cases hin : inB t 0 ((ts.length : Int) - 1)
      · have hF := hide (hNo.out (fun q => by have := inB_ff hin; have := (hG.out.1 q).1; omega))
        rw [hin] at C1
        clear hG hNo hEk hI hcs
        go_wp2_with fail
        go_quiet (first | (go_at_call 30; with_reducible refine Calls.quiet_of_same (C1 _)))
        go_wp2
        go_ret
        exact AnsIff.no hF.out (bdraw hb1 _)
      rw [hin] at C1
      obtain ⟨h0, h1⟩ := inB_true hin
      obtain ⟨T, rfl⟩ : ∃ T : Nat, t = T := ⟨t.toNat, by omega⟩
      have hTl : T < ts.length := by omega
      have hTl' : (T : Int) < (ts.length : Int) := by omega
      have hT0 : (0 : Int) ≤ (T : Int) := by omega
      rw [show ((T : Int)).toNat = T from rfl] at hG
      obtain ⟨tb, tof, na, cn, rfl, -, c2, -, hHl⟩ := hz.at hTl
      have c2' : wr.cell? ⟨tb, tof + T * 2 + 1, none⟩ = some (.slice na (ncA ts T) cn) := ble hb c2
      have htl := cell_lt c2'
      have hn12 := (hg.len T hTl).2
      have C2 := fun V => cIn f 0 ((ncA ts T : Int) - 1) V
      have hw2 : IntKind.i64.wrap ((ncA ts T : Int) - 1) = (ncA ts T : Int) - 1 := wrap_in _ (by omega) (by omega)
      cases hin2 : inB f 0 ((ncA ts T : Int) - 1)
      · have hF := hide (hNo.out (fun q => by have := inB_ff hin2; have := (hG.out.1 q).2; omega))
        rw [hin2] at C2
        clear hG hNo hEk hI hcs
        go_wp2_with fail
        go_quiet (first | (go_at_call 30; with_reducible refine Calls.quiet_of_same (C1 _)) | (go_at_call 30; with_reducible refine Calls.quiet_of_same (C2 _)))
        go_wp2
        go_ret
        exact AnsIff.no hF.out (bdraw hb1 _)
      rw [hin2] at C2
      obtain ⟨h2, h3⟩ := inB_true hin2
      obtain ⟨F, rfl⟩ : ∃ F : Nat, f = F := ⟨f.toNat, by omega⟩
      have C3 := fun V => cIn o 0 ((F : Int) - 1) V
      have hw3 : IntKind.i64.wrap ((F : Int) - 1) = (F : Int) - 1 := wrap_in _ (by omega) (by omega)
      cases hin3 : inB o 0 ((F : Int) - 1)
      · have hF := hide (hNo.out (fun q => by have := inB_ff hin3; have := (hG.out.1 q).2; omega))
        rw [hin3] at C3
        clear hG hNo hEk hI hcs
        go_wp2_with fail
        go_quiet (first | (go_at_call 30; with_reducible refine Calls.quiet_of_same (C1 _)) | (go_at_call 30; with_reducible refine Calls.quiet_of_same (C2 _)) | (go_at_call 30; with_reducible refine Calls.quiet_of_same (C3 _)))
        go_wp2
        go_ret
        exact AnsIff.no hF.out (bdraw hb1 _)
      rw [hin3] at C3
      obtain ⟨h6, h7⟩ := inB_true hin3
      obtain ⟨O, rfl⟩ : ∃ O : Nat, o = O := ⟨o.toNat, by omega⟩
      have hGk : LegG ts ⟨T, O, F⟩ := hG.out.2 ⟨⟨h0, h1⟩, h6, by omega, by omega⟩
      have hAll := hide (hEk.out _ hZ'.out hGk)
      clear hin hin2 hin3 hNo hEk
      by_cases hk0 : k = 0
      · have hI2 : Hid ((∀ i, i < k + 1 → LegG ts (es.getD i LegV.zero)) ∧ ∀ i, i + 1 < k + 1 → JoinG ts ch (es.getD i LegV.zero) (es.getD (i + 1) LegV.zero)) := hide ⟨hAll.out, fun i h => by omega⟩
        have hk0' : ¬ ((0 : Int) < (k : Int)) := by omega
        clear hI hcs hG hGk hg hk0
        go_wp2_with fail
        go_quiet (first | (go_at_call 30; with_reducible refine Calls.quiet_of_same (C1 _)) | (go_at_call 30; with_reducible refine Calls.quiet_of_same (C2 _)) | (go_at_call 30; with_reducible refine Calls.quiet_of_same (C3 _)))
        go_wp2
        go_roundw
        case rel => exact ⟨k + 1, by omega, by go_num, hI2, bdraw hb1 _⟩
        case measure => simp [intOf]; omega
      have hk0' : (0 : Int) < (k : Int) := by omega
      obtain ⟨j, hj⟩ : ∃ j, j + 1 = k := ⟨k - 1, by omega⟩
      have hw4 : IntKind.i64.wrap ((k : Int) - 1) = (j : Int) := by rw [wrap_in _ (by omega) (by omega)]; omega
      have hjl : (j : Int) < (es.length : Int) := by omega
      have hj0 : (0 : Int) ≤ (j : Int) := by omega
      have hjn : j < es.length := by omega
      have hGj := hI.out.1 j (by omega)
      obtain ⟨p0, p1, p2⟩ := hcs j hjn
      replace p0 := ble hb p0
      replace p1 := ble hb p1
      replace p2 := ble hb p2
      have hNoJ : Hid (¬ JoinG ts ch (es.getD j LegV.zero) ⟨T, O, F⟩ → ¬ LegsP ts es ch) := hide (fun h q => h (by have := q.2.2.2.2 j (by omega); rw [hj, ← hZ'.out] at this; exact this))
      have hYesJ : Hid (JoinG ts ch (es.getD j LegV.zero) ⟨T, O, F⟩ → ∀ i, i + 1 < k + 1 → JoinG ts ch (es.getD i LegV.zero) (es.getD (i + 1) LegV.zero)) := hide (fun h i hi => by
        by_cases e : i = j
        · subst e; rw [hj, ← hZ'.out]; exact h
        · exact hI.out.2 i (by omega))
      generalize es.getD j LegV.zero = P at *
      obtain ⟨pt, po, pf⟩ := P
      obtain ⟨⟨g1, g2⟩, g3, g4, g5⟩ := hGj
      dsimp only at *
      obtain ⟨PT, rfl⟩ : ∃ n : Nat, pt = n := ⟨pt.toNat, by omega⟩
      obtain ⟨PF, rfl⟩ : ∃ n : Nat, pf = n := ⟨pf.toNat, by omega⟩
      rw [show ((PT : Int)).toNat = PT from rfl] at g5
      have hPl : PT < ts.length := by omega
      have hPl' : (PT : Int) < (ts.length : Int) := by omega
      have hPF : PF < ncA ts PT := by omega
      have hPF' : (PF : Int) < (ncA ts PT : Int) := by omega
      have hO : O < ncA ts T := by omega
      have hO' : (O : Int) < (ncA ts T : Int) := by omega
      obtain ⟨tb2, tof2, na2, cn2, hE2, -, d2, -, hHl2⟩ := hz.at hPl
      simp only [Option.some.injEq, Addr.mk.injEq, and_true] at hE2
      obtain ⟨rfl, rfl⟩ := hE2
      have d2' : wr.cell? ⟨tb, tof + PT * 2 + 1, none⟩ = some (.slice na2 (ncA ts PT) cn2) := ble hb d2
      obtain ⟨hb3, ho3, rfl, x0, x1, x2⟩ := call_cells (hHl2.below hb) hPF
      obtain ⟨hb4, ho4, rfl, y0, y1, y2⟩ := call_cells (hHl.below hb) hO
      have hJ : Hid (JoinG ts ch ⟨PT, po, PF⟩ ⟨T, O, F⟩ ↔ ((hcA ts T O).n = (hcA ts PT PF).n ∧ (hcA ts PT PF).a + ch ≤ (hcA ts T O).d)) := hide Iff.rfl
      have hrn := hg.rng PT PF hPl hPF
      have s1 := cell_lt x0
      have s2 := cell_lt y0
      have s3 := cell_lt p0
      generalize hcA ts PT PF = x at *
      generalize hcA ts T O = y at *
      generalize ncA ts PT = nP at *
      generalize ncA ts T = nT at *
      obtain ⟨xn, xa, xd⟩ := x
      obtain ⟨yn, ya, yd⟩ := y
      dsimp only at *
      replace hj := hide hj
      have hw5 : IntKind.i64.wrap (xa + ch) = xa + ch := wrap_in _ (by omega) (by omega)
      have hN2 : Hid (¬ (yn = xn ∧ xa + ch ≤ yd) → ¬ LegsP ts es ch) := hide (fun h => hNoJ.out (fun k => h (hJ.out.1 k)))
      have hY2 := hide (fun (h : yn = xn ∧ xa + ch ≤ yd) => hYesJ.out (hJ.out.2 h))
      clear hI hcs hG hGk hg hNoJ hYesJ hJ c2 d2 hHl hHl2 hZ'
      go_wp2_with fail
      go_quiet (first | (go_at_call 30; with_reducible refine Calls.quiet_of_same (C1 _)) | (go_at_call 30; with_reducible refine Calls.quiet_of_same (C2 _)) | (go_at_call 30; with_reducible refine Calls.quiet_of_same (C3 _)))
      go_upto_region 10 with fail
      go_cut [9] from 24 to 107 (fun cv wc => GotOne (wr.alloc (.cells #[.int .i64 T, .int .i64 O, .int .i64 F] 38)) xn xa xd cv wc)
      case first =>
        go_region_held3 (fun w' => w'.cell? ⟨b, off + j * 3, none⟩ = some (.int .i64 PT) ∧ w'.cell? ⟨b, off + j * 3 + 2, none⟩ = some (.int .i64 PF) ∧ w'.cell? ⟨tb, tof + PT * 2 + 1, none⟩ = some (.slice (some ⟨hb3, ho3, none⟩) nP cn2) ∧ w'.cell? ⟨hb3, ho3 + PF * 3, none⟩ = some (.int .i64 xn) ∧ w'.cell? ⟨hb3, ho3 + PF * 3 + 1, none⟩ = some (.int .i64 xa) ∧ w'.cell? ⟨hb3, ho3 + PF * 3 + 2, none⟩ = some (.int .i64 xd)) (go_keep) (fail)
        go_wp2_with fail
        go_meet
        exact GotOne.mk2 _ _ _ _ _ _
      case rest =>
      obtain ⟨bq, rfl, Q0, B2⟩ := hcut
      have LB2 := keepB B2 LB
      have hb6 := btrans hb1 B2
      have B3 := btrans hba B2
      replace y0 := ble B3 y0
      replace y1 := ble B3 y1
      replace y2 := ble B3 y2
      replace c2' := ble B3 c2'
      have l1 := cell_lt y0
      have l2 := cell_lt c2'
      obtain ⟨⟨z0, z1, z2⟩, -⟩ := threeC LB2
      have l3 := cell_lt z0
      clear p0 p1 p2 x0 x1 x2 d2' q0 q1 q2 B2 B3 hb1 hba LB LB2 hb
      generalize wr.heap.size = gl at *
      have hq0 := lt_of_block Q0
      have n1 : wc.heap.size ≠ gl := Nat.ne_of_gt l3
      have n2 : wc.heap.size ≠ tb := Nat.ne_of_gt l2
      have n3 : wc.heap.size ≠ hb4 := Nat.ne_of_gt l1
      go_upto_region 11 with fail
      go_cut [10] from 24 to 107 (fun cv wd => GotOne wc yn ya yd cv wd)
      case first =>
        go_region_held3 (fun w' => w'.cell? ⟨gl, 0, none⟩ = some (.int .i64 T) ∧ w'.cell? ⟨gl, 1, none⟩ = some (.int .i64 O) ∧ w'.cell? ⟨tb, tof + T * 2 + 1, none⟩ = some (.slice (some ⟨hb4, ho4, none⟩) nT cn) ∧ w'.cell? ⟨hb4, ho4 + O * 3, none⟩ = some (.int .i64 yn) ∧ w'.cell? ⟨hb4, ho4 + O * 3 + 1, none⟩ = some (.int .i64 ya) ∧ w'.cell? ⟨hb4, ho4 + O * 3 + 2, none⟩ = some (.int .i64 yd)) (go_keep) (fail)
        go_wp2_with fail
        go_meet
        first | exact GotOne.mk _ _ _ _ _ | exact GotOne.mk1 _ _ _ _
      case rest =>
      obtain ⟨bp, rfl, P0, B2⟩ := hcut
      have Q1 := keepB B2 Q0
      have hb7 := btrans hb6 B2
      obtain ⟨⟨u0, u1, u2⟩, -⟩ := threeC P0
      obtain ⟨⟨v0, v1, v2⟩, -⟩ := threeC Q1
      clear y0 y1 y2 c2' z0 z1 z2 Q0 Q1 P0 B2 hb6
      by_cases e1 : yn = xn
      · subst e1
        by_cases e2 : yd < xa + ch
        · have hF := hide (hN2.out (fun h => by omega))
          clear hN2 hY2
          go_wp2
          go_ret
          exact AnsIff.no hF.out hb7
        · have hF : Hid ((∀ i, i < k + 1 → LegG ts (es.getD i LegV.zero)) ∧ ∀ i, i + 1 < k + 1 → JoinG ts ch (es.getD i LegV.zero) (es.getD (i + 1) LegV.zero)) := hide ⟨hAll.out, hY2.out ⟨rfl, by omega⟩⟩
          clear hN2 hY2
          go_wp2
          go_roundw
          case rel => exact ⟨k + 1, by omega, by go_num, hF, hb7⟩
          case measure => simp [intOf]; omega
      · have hF := hide (hN2.out (fun h => e1 h.1))
        have e1' : ¬ (xn = yn) := fun e => e1 e.symm
        clear hN2 hY2
        go_wp2
        go_ret
        exact AnsIff.no hF.out hb7
    · have hlt' : ¬ (k : Int) < (es.length : Int) := by omega
      have hkk : k = es.length := by omega
      have hF : Hid (LegsP ts es ch) := hide ⟨hT.out, hc.out, h5n, by rw [← hkk]; exact hI.out.1, by rw [← hkk]; exact hI.out.2⟩
      clear hI hkk hg
      go_wp2
      go_ret
      exact AnsIff.yes hF.out hb
end Go.Proofs.YtajeiiebddnchaaGreatDoor
