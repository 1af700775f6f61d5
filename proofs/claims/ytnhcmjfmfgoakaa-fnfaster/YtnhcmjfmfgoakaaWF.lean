/- The walk of the law on what is faster. -/
import Derived.Test.YtnhcmjfmfgoakaaNS
import Derived.Test.YtnhcmjfmfgoakaaZA
import Derived.Deep.CutRange
import Derived.Deep.RegionHeld3
namespace Go.Proofs.Ytnhcmjfmfgoakaa
open Go.RowKit

theorem own_form2 {w : World} {base e sz n : Nat} {v : Value} {xs : List Value} (h : w.ownsRow base e sz v n xs) : ∃ a c, v = .slice a n c ∧ n ≤ c := by
  rcases h.2 with ⟨rfl, h0⟩ | ⟨g, cap', cur, rfl, _, _, hc, _⟩
  · exact ⟨none, 0, by rw [h0], by omega⟩
  · exact ⟨_, _, rfl, hc⟩

theorem Bx3.c0 {w : World} {b : Nat} {c0 c1 c2 : Value} (h : Bx3 w b c0 c1 c2) : w.cell? ⟨b, 0, none⟩ = some c0 := h.1
theorem Bx3.c1 {w : World} {b : Nat} {c0 c1 c2 : Value} (h : Bx3 w b c0 c1 c2) : w.cell? ⟨b, 1, none⟩ = some c1 := h.2.1
theorem Bx3.c2 {w : World} {b : Nat} {c0 c1 c2 : Value} (h : Bx3 w b c0 c1 c2) : w.cell? ⟨b, 2, none⟩ = some c2 := h.2.2
theorem c22l2 (a : Option Addr) (cap : Nat) (zs : List Int) (w : World) (hz : Bytes w a zs) (hl : zs.length ≤ 1048576) :
    Calls Try.prog 22 #[.slice a zs.length cap, .int .i64 2] w fun e w' => e = .returned (.int .i64 (atZ zs 2)) ∧ w' = w := c22v a cap zs 2 w hz hl (by omega)
theorem c22l3 (a : Option Addr) (cap : Nat) (zs : List Int) (w : World) (hz : Bytes w a zs) (hl : zs.length ≤ 1048576) :
    Calls Try.prog 22 #[.slice a zs.length cap, .int .i64 3] w fun e w' => e = .returned (.int .i64 (atZ zs 3)) ∧ w' = w := c22v a cap zs 3 w hz hl (by omega)
theorem c22l4 (a : Option Addr) (cap : Nat) (zs : List Int) (w : World) (hz : Bytes w a zs) (hl : zs.length ≤ 1048576) :
    Calls Try.prog 22 #[.slice a zs.length cap, .int .i64 4] w fun e w' => e = .returned (.int .i64 (atZ zs 4)) ∧ w' = w := c22v a cap zs 4 w hz hl (by omega)
theorem c22l5 (a : Option Addr) (cap : Nat) (zs : List Int) (w : World) (hz : Bytes w a zs) (hl : zs.length ≤ 1048576) :
    Calls Try.prog 22 #[.slice a zs.length cap, .int .i64 5] w fun e w' => e = .returned (.int .i64 (atZ zs 5)) ∧ w' = w := c22v a cap zs 5 w hz hl (by omega)
theorem c22l6 (a : Option Addr) (cap : Nat) (zs : List Int) (w : World) (hz : Bytes w a zs) (hl : zs.length ≤ 1048576) :
    Calls Try.prog 22 #[.slice a zs.length cap, .int .i64 6] w fun e w' => e = .returned (.int .i64 (atZ zs 6)) ∧ w' = w := c22v a cap zs 6 w hz hl (by omega)
theorem c22l7 (a : Option Addr) (cap : Nat) (zs : List Int) (w : World) (hz : Bytes w a zs) (hl : zs.length ≤ 1048576) :
    Calls Try.prog 22 #[.slice a zs.length cap, .int .i64 7] w fun e w' => e = .returned (.int .i64 (atZ zs 7)) ∧ w' = w := c22v a cap zs 7 w hz hl (by omega)

set_option maxRecDepth 20000 in
set_option maxHeartbeats 20000000 in
theorem walk4 (a : Option Addr) (cap : Nat) (bs : List Int) (w : World) (hz : Bytes w a bs) (hl : bs.length ≤ maxLen) :
    Calls Try.prog 4 #[.slice a bs.length cap] w fun e w' => e = .returned (.bool true) ∧ Below w.heap.size w w' := by
  obtain ⟨i0, hi, hz0, hz1, hz2⟩ := info_parts info3
  by_cases hbig : 1048576 < bs.length
  · have hb : decide (1048576 < bs.length) = true := by simpa using hbig
    go_enter Try.func4, Try.ntmps4
    go_wp2_with (go_at_call 15; refine (c15 _ _ _ _ hl).mono ?_; rintro e w2 ⟨rfl, hw⟩; obtain rfl := hw.symm)
    go_ret
    exact ⟨rfl, Below.refl _ _⟩
  have hb : decide (1048576 < bs.length) = false := by simpa using hbig
  have hl2 : bs.length ≤ 1048576 := by omega
  clear hbig
  go_enter Try.func4, Try.ntmps4
  go_wp2_with fail
  refine (c15 _ _ _ _ hl).mono ?_
  rintro e w1 ⟨rfl, hw⟩
  obtain rfl := hw.symm
  rw [hb]
  go_wp2_with fail
  refine (c16 a cap bs _ hz hl2).mono ?_
  rintro e w1 ⟨m, v, zs, rfl, hD, ho, h0, h1, hall, hb1⟩
  have R := Right.drawn hD h0 h1 hall
  have hl1 : zs.length ≤ 1048576 := by omega
  obtain ⟨ao, cp, rfl, hcp⟩ := own_form2 ho
  have hI := ints_own ho rfl
  have CR := hide (fun (a' : Option Addr) (c' n' : Nat) (m' : MotorV) (zs' : List Int) (w' : World) => cn20 a' c' n' m' zs' w')
  have CP := fun (w' : World) (hz' : Ints w' ao zs) => c21 ao cp m zs w' hz' hl1
  have CW := hide (fun (x : Int) (w' : World) (hz' : Ints w' ao zs) => c23 ao cp m zs x w' hz' hl1 hcp)
  have hlen : (sqs m zs).length = zs.length + 1 := by rw [sqs_yes R.mB R.cB]; simp
  have p1 : (passL (sqs m zs)).length = zs.length + 1 := by rw [passL_len, hlen]
  have p2 : (passL (sqs m zs)).getD zs.length 0 = runT (sqs m zs) := by rw [passL_get _ (by omega), runT_eq R]; rfl
  have p3 : (passL (sqs m zs)).getD 0 0 = 0 := by rw [passL_get _ (by omega)]; rfl
  rw [hlen] at CP
  generalize passL (sqs m zs) = PL at *
  have tpos := runT_pos R
  have tin := (runT_in _ (sqs_len m zs)).2
  have A2 := atZ_in hz 2
  have A3 := atZ_in hz 3
  have A4 := atZ_in hz 4
  have A5 := atZ_in hz 5
  have A6 := atZ_in hz 6
  have A7 := atZ_in hz 7
  have hST := hide (strong_right hD R (p := atZ bs 2 % 20) (q := atZ bs 3 % 20) (r := atZ bs 4 % 20) (by omega) (by omega) (by omega))
  have hHI := hide (fun (k : Nat) (hk : k < zs.length) => high_right hall R hk (p := atZ bs 6 % 20) (by omega))
  have hSP := hide (fun (x : Nat) (h0 : 1 ≤ x) (h1 : x < zs.length) => stop_ge R h0 h1)
  have hmB := R.mB
  have hcB := R.cB
  have hZ : Hid (∀ i, i < zs.length → 1 ≤ zs.getD i 0 ∧ zs.getD i 0 ≤ 60) := fun i hi => by
    have := hall zs[i] (List.getElem_mem hi)
    have e : zs.getD i 0 = zs[i] := by simp [List.getD, hi]
    rw [e]; exact this
  have Dm : 1 ≤ m.u ∧ m.u ≤ 60 ∧ 1 ≤ m.d ∧ m.d ≤ 120 ∧ 2 ≤ m.t ∧ m.t ≤ 51 := hD
  clear hD hall R hlen
  obtain ⟨u, d, t⟩ := m
  unfold MotorV.val at *
  obtain ⟨u0, u1, d0, d1, t0, t1⟩ := Dm
  replace u0 : 1 ≤ u := u0
  replace u1 : u ≤ 60 := u1
  replace d0 : 1 ≤ d := d0
  replace d1 : d ≤ 120 := d1
  replace t0 : 2 ≤ t := t0
  replace t1 : t ≤ 51 := t1
  have CR0 := fun (w' : World) (h : Ints w' ao zs) => CR.out ao cp zs.length ⟨u, d, t⟩ zs w' rfl h hl1
  generalize htt : runT (sqs ⟨u, d, t⟩ zs) = tt at *
  have htt := hide htt
  have X1 := Bx3.new w1 (.int .i64 u) (.int .i64 d) (.int .i64 t) 25
  have I1 := hI.below (balloc w1 (.cells #[.int .i64 u, .int .i64 d, .int .i64 t] 25))
  have Z1 := (hz.below hb1).below (balloc w1 (.cells #[.int .i64 u, .int .i64 d, .int .i64 t] 25))
  have HB1 := btrans hb1 (balloc w1 (.cells #[.int .i64 u, .int .i64 d, .int .i64 t] 25))
  clear hb1 hI ho
  go_wp2_with fail
  refine (CR0 _ I1).mono ?_
  rintro e w2 ⟨rfl, hb⟩
  have X2 := X1.below hb
  have I2 := I1.below hb
  have Z2 := Z1.below hb
  have HB2 := btrans HB1 hb
  clear X1 I1 Z1 HB1 hb CR0
  obtain ⟨x0, x1, x2⟩ := id X2
  go_wp2_with fail
  refine (CP _ I2).mono ?_
  rintro e w3 ⟨v3, rfl, o3, hb⟩
  obtain ⟨a3, cp3, rfl⟩ := own_form o3
  have J3 := ints_own o3 p1
  have X3 := X2.below hb
  have I3 := I2.below hb
  have Z3 := Z2.below hb
  have HB3 := btrans HB2 hb
  clear X2 I2 Z2 HB2 hb CP o3 x0 x1 x2
  rcases J3 with J3 | ⟨b, o, rfl, hc⟩
  · rw [J3] at p1; simp at p1
  have c0 : w3.cell? ⟨b, o, none⟩ = some (.int .i64 0) := by have := hc 0 (by omega); rwa [p3, Nat.add_zero] at this
  have c1 : w3.cell? ⟨b, o + zs.length, none⟩ = some (.int .i64 tt) := by have := hc zs.length (by omega); rwa [p2] at this
  clear hc p1 p2 p3
  obtain ⟨x0, x1, x2⟩ := id X3
  have hq0 : (0 : Int) ≤ (zs.length : Int) := by omega
  have hq1 : (zs.length : Int) < (zs.length : Int) + 1 := by omega
  have hn0 : ¬ tt < 0 := by omega
  have ee2 : IntKind.i64.wrap (u + (atZ bs 2).tmod 20) = u + atZ bs 2 % 20 := by rw [Int.tmod_eq_emod_of_nonneg A2.1]; exact wrap_in _ (by omega) (by omega)
  have ee3 : IntKind.i64.wrap (d + (atZ bs 3).tmod 20) = d + atZ bs 3 % 20 := by rw [Int.tmod_eq_emod_of_nonneg A3.1]; exact wrap_in _ (by omega) (by omega)
  have ee4 : IntKind.i64.wrap (t + (atZ bs 4).tmod 20) = t + atZ bs 4 % 20 := by rw [Int.tmod_eq_emod_of_nonneg A4.1]; exact wrap_in _ (by omega) (by omega)
  replace ee2 := hide ee2
  replace ee3 := hide ee3
  replace ee4 := hide ee4
  go_upto_region 8 with fail
  go_cut [7] from 49 (fun sv wc => ∃ bx, sv = .pointer (some ⟨bx, 0, none⟩) ∧ Bx3 wc bx (.int .i64 (u + atZ bs 2 % 20)) (.int .i64 (d + atZ bs 3 % 20)) (.int .i64 (t + atZ bs 4 % 20)) ∧ Below w3.heap.size w3 wc)
  case first =>
    have Zd : Bytes w3.drew a bs := Z3.below (Below.refl _ w3).drew
    go_region_held3 (fun w' => w'.cell? ⟨w1.heap.size, 0, none⟩ = some (.int .i64 u) ∧ w'.cell? ⟨w1.heap.size, 1, none⟩ = some (.int .i64 d) ∧ w'.cell? ⟨w1.heap.size, 2, none⟩ = some (.int .i64 t)) (go_keep) (first | (go_at_call 22; with_reducible refine (c22l2 a cap bs _ (by first | with_reducible exact Zd | with_reducible exact Zd.below (balloc _ _)) hl2).mono ?_; rintro e w' ⟨rfl, hw⟩; obtain rfl := hw.symm) | (go_at_call 22; with_reducible refine (c22l3 a cap bs _ (by first | with_reducible exact Zd | with_reducible exact Zd.below (balloc _ _)) hl2).mono ?_; rintro e w' ⟨rfl, hw⟩; obtain rfl := hw.symm) | (go_at_call 22; with_reducible refine (c22l4 a cap bs _ (by first | with_reducible exact Zd | with_reducible exact Zd.below (balloc _ _)) hl2).mono ?_; rintro e w' ⟨rfl, hw⟩; obtain rfl := hw.symm))
    all_goals (go_wp2_with fail; go_meet)
    all_goals exact ⟨_, rfl, by rw [← ee2.out, ← ee3.out, ← ee4.out]; exact Bx3.new w3 _ _ _ 25, (balloc w3 _).drew⟩
  case rest =>
    obtain ⟨bx, rfl, Y4, hb⟩ := hcut
    have X4 := X3.below hb
    have I4 := I3.below hb
    have Z4 := Z3.below hb
    have HB4 := btrans HB3 hb
    clear X3 I3 Z3 HB3 hb c0 c1 x0 x1 x2
    obtain ⟨y0, y1, y2⟩ := id Y4
    have CR1 := fun (w' : World) (h : Ints w' ao zs) => CR.out ao cp zs.length ⟨u + atZ bs 2 % 20, d + atZ bs 3 % 20, t + atZ bs 4 % 20⟩ zs w' rfl h hl1
    unfold MotorV.val at CR1
    have hST1 : runT (sqs ⟨u + atZ bs 2 % 20, d + atZ bs 3 % 20, t + atZ bs 4 % 20⟩ zs) ≤ tt := hST.out
    clear hST
    go_wp2_with fail
    refine (CR1 _ I4).mono ?_
    rintro e w5 ⟨rfl, hb⟩
    have X5 := X4.below hb
    have I5 := I4.below hb
    have Z5 := Z4.below hb
    have HB5 := btrans HB4 hb
    clear X4 I4 Z4 HB4 hb CR1 y0 y1 y2 Y4
    dsimp only at hST1 ⊢
    generalize runT (sqs ⟨u + atZ bs 2 % 20, d + atZ bs 3 % 20, t + atZ bs 4 % 20⟩ zs) = T2 at *
    have hT2 : ¬ tt < T2 := by omega
    rcases I5 with hnil | ⟨b', o', hao, hcz⟩
    · simp [hnil] at h0
    subst hao
    have I5 : Ints w5 (some ⟨b', o', none⟩) zs := .inr ⟨b', o', rfl, hcz⟩
    have hbw5 := cell_lt (hcz 0 h0)
    go_wp2_with (at_builtin; refine wpList_append_own _ rfl _ _ 26 rfl w5.heap.size 3 i0 (.int .i64 0) 1 8 Try.underlying26 hi hz0 hz1 hz2 rfl (by decide) _ 0 [] rfl (World.ownsRow_made w5 #[] 0 (Nat.le_refl _) (by omega) rfl) ⟨b', o', none⟩ zs.length cp (zs.map (Value.int .i64)) rfl (by simp) ?c1 ?c2 ?c3 ?c4 ?c5 ?_)
    case c1 =>
      intro j x hj
      have hlt : j < zs.length := by
        have := List.getElem?_eq_some_iff.1 hj
        exact this.1
      rw [hcz j hlt]
      simp [List.getD, hj]
    case c2 => intro x _; rfl
    case c3 => unfold maxLen; omega
    case c4 => omega
    all_goals try omega
    intro v6 w6 hown6 hgrow _
    have hown6' : w6.ownsRow w5.heap.size 3 1 v6 zs.length (zs.map (Value.int .i64)) := by simpa using hown6
    have hb6 : Below w5.heap.size w5 w6 := ((Below.refl _ w5).alloc (Nat.le_refl _) _).grown hgrow (by simp) (fun k e => by simp [Value.ownBlock] at e; omega)
    have Z6 := Z5.below hb6
    have HB6 := btrans HB5 hb6
    have hs5 := HB5.size
    have hv6 := own_from hown6' (Nat.le_refl _)
    clear hown6 hgrow Z5 HB5 hcz hbw5
    rcases hown6'.2 with ⟨_, hbad⟩ | ⟨g, c6, cur, rfl, hg0, _, hc6, hc6m, _, _⟩
    · omega
    clear hv6
    go_wp2_with fail
    refine (c22l5 a cap bs _ Z6 hl2).mono ?_
    rintro e w7 ⟨rfl, hw⟩
    obtain rfl := hw.symm
    obtain ⟨r1, r2, r3⟩ := rem_in (x := atZ bs 5) (n := (zs.length : Int)) A5.1 (by omega) (by omega)
    obtain ⟨K, hK⟩ : ∃ K : Nat, atZ bs 5 % (zs.length : Int) = (K : Int) := ⟨(atZ bs 5 % (zs.length : Int)).toNat, by omega⟩
    have hKl : K < zs.length := by omega
    rw [hK] at r1
    clear r2 r3
    have hKi : (K : Int) < (zs.length : Int) := by omega
    have r0' : ¬ ((zs.length : Int) = 0) := by omega
    have hyb := hZ.out K hKl
    have ck : w6.cell? ⟨g, K, none⟩ = some (.int .i64 (zs.getD K 0)) := by rw [hown6'.cellAt K (by omega)]; simp [List.getD, hKl]
    have fk := hown6'.frozenAt K
    obtain ⟨o7, g7⟩ := hown6'.stored K (.int .i64 (zs.getD K 0 + 1 + atZ bs 6 % 20))
    rw [← List.map_set] at o7
    have hHI1 : runT (sqs ⟨u, d, t⟩ (zs.set K (zs.getD K 0 + 1 + atZ bs 6 % 20))) ≤ tt := hHI.out K hKl
    have l7 : (zs.set K (zs.getD K 0 + 1 + atZ bs 6 % 20)).length = zs.length := by simp
    generalize zs.set K (zs.getD K 0 + 1 + atZ bs 6 % 20) = HS at *
    generalize zs.getD K 0 = y at *
    have ee6 : IntKind.i64.wrap (y + 1 + (atZ bs 6).tmod 20) = y + 1 + atZ bs 6 % 20 := by rw [Int.tmod_eq_emod_of_nonneg A6.1]; exact wrap_in _ (by omega) (by omega)
    have ee6 := hide ee6
    have b7 : Below w5.heap.size w5 (w6.setCell ⟨g, K, none⟩ (.int .i64 (y + 1 + atZ bs 6 % 20))) := hb6.setCell (p := ⟨g, K, none⟩) (show w5.heap.size ≤ g from hg0) _
    have b7w : Below w.heap.size w (w6.setCell ⟨g, K, none⟩ (.int .i64 (y + 1 + atZ bs 6 % 20))) := HB6.setCell (p := ⟨g, K, none⟩) (show w.heap.size ≤ g by omega) _
    have Zd6 : Bytes w6.drew a bs := Z6.below (Below.refl _ w6).drew
    go_upto_region 13 with fail
    go_cut [9] from 76 (fun _ wc => wc.ownsRow w5.heap.size 3 1 (.slice (some ⟨g, 0, none⟩) zs.length c6) zs.length (HS.map (Value.int .i64)) ∧ Below w5.heap.size w5 wc ∧ Below w.heap.size w wc)
    case first =>
      go_region_with (go_at_call 22; with_reducible refine (c22l6 a cap bs _ Zd6 hl2).mono ?_; rintro e w' ⟨rfl, hw⟩; obtain rfl := hw.symm)
      all_goals (go_wp2_with fail; go_meet)
      all_goals rw [wrap_in (y + 1) (by omega) (by omega), ee6.out]
      all_goals exact ⟨o7, b7.drew, b7w.drew⟩
    case rest =>
      obtain ⟨o8, b8, B8⟩ := hcut
      have X8 := X5.below b8
      have I8 := I5.below b8
      have Z8 : Bytes wc a bs := hz.below B8
      have J8 : Ints wc (some ⟨g, 0, none⟩) HS := ints_own o8 l7
      clear o8 b8 o7 g7 b7 b7w ck fk hown6' hb6 Z6 HB6 X5 I5 Zd6
      have CR2 := fun (w' : World) (h : Ints w' (some ⟨g, 0, none⟩) HS) => CR.out (some ⟨g, 0, none⟩) c6 zs.length ⟨u, d, t⟩ HS w' l7 h hl1
      unfold MotorV.val at CR2
      obtain ⟨x0, x1, x2⟩ := id X8
      go_wp2_with fail
      refine (CR2 _ J8).mono ?_
      rintro e w9 ⟨rfl, hb⟩
      have X9 := X8.below hb
      have I9 := I8.below hb
      have Z9 := Z8.below hb
      have HB9 := btrans B8 hb
      clear X8 I8 Z8 B8 J8 hb CR2 x0 x1 x2
      generalize runT (sqs ⟨u, d, t⟩ HS) = T3 at *
      have hT3 : ¬ tt < T3 := by omega
      obtain ⟨x0, x1, x2⟩ := id X9
      by_cases h2 : zs.length < 2
      · have hst : stopT ⟨u, d, t⟩ zs 1 = -1 := by
          have : inB 1 1 ((zs.length : Int) - 1) = false := by unfold inB; simp only [decide_eq_false_iff_not]; omega
          simp [stopT, this]
        have C1 := CW.out 1 w9 I9
        rw [hst] at C1
        have h2' : (zs.length : Int) < 2 := by omega
        clear CW CR hSP
        go_wp2_with fail
        refine C1.mono ?_
        rintro e w10 ⟨rfl, hb⟩
        have HB10 := btrans HB9 hb
        clear C1 hb HB9 X9 I9 Z9 x0 x1 x2
        go_wp2
        go_ret
        exact ⟨rfl, HB10⟩
      · have h2' : ¬ (zs.length : Int) < 2 := by omega
        go_wp2_with fail
        refine (c22l7 a cap bs _ Z9 hl2).mono ?_
        rintro e w10 ⟨rfl, hw⟩
        obtain rfl := hw.symm
        obtain ⟨r4, r5, r6⟩ := rem_in (x := atZ bs 7) (n := (zs.length : Int) - 1) A7.1 (by omega) (by omega)
        obtain ⟨Q, hQ⟩ : ∃ Q : Nat, 1 + atZ bs 7 % ((zs.length : Int) - 1) = (Q : Int) := ⟨(1 + atZ bs 7 % ((zs.length : Int) - 1)).toNat, by omega⟩
        have q0 : 1 ≤ Q := by omega
        have q1 : Q < zs.length := by omega
        have hin : inB (Q : Int) 1 ((zs.length : Int) - 1) = true := by unfold inB; simp only [decide_eq_true_eq]; omega
        have hsp := stopT_in hmB hcB hin
        rw [Int.toNat_natCast] at hsp
        have hge := hSP.out Q q0 q1
        have hlt : Hid ((zs.take Q).length = Q) := by show _ = _; rw [List.length_take]; omega
        have hld : Hid ((zs.drop Q).length = zs.length - Q) := by show _ = _; rw [List.length_drop]
        rcases I9 with hnil | ⟨b9, o9, hao, hc9⟩
        · simp [hnil] at h0
        simp only [Option.some.injEq, Addr.mk.injEq, and_true] at hao
        obtain ⟨rfl, rfl⟩ := hao
        have hzt : Ints w9 (some ⟨b', o', none⟩) (zs.take Q) := Ints.take (.inr ⟨b', o', rfl, hc9⟩) Q
        have hzd : Ints w9 (some ⟨b', o' + Q, none⟩) (zs.drop Q) := Ints.drop hc9 Q
        have I9 : Ints w9 (some ⟨b', o', none⟩) zs := .inr ⟨b', o', rfl, hc9⟩
        clear hc9
        have C1 := fun (w' : World) (h : Ints w' (some ⟨b', o', none⟩) (zs.take Q)) => CR.out (some ⟨b', o', none⟩) cp Q ⟨u, d, t⟩ (zs.take Q) w' hlt.out h (by omega)
        have C2 := fun (w' : World) (h : Ints w' (some ⟨b', o' + Q, none⟩) (zs.drop Q)) => CR.out (some ⟨b', o' + Q, none⟩) (cp - Q) (zs.length - Q) ⟨u, d, t⟩ (zs.drop Q) w' hld.out h (by omega)
        have C3 := fun (w' : World) (h : Ints w' (some ⟨b', o', none⟩) zs) => CW.out (Q : Int) w' h
        unfold MotorV.val at C1 C2
        rw [hsp] at C3
        have rr1 := (runT_in _ (sqs_len ⟨u, d, t⟩ (zs.take Q)))
        have rr2 := (runT_in _ (sqs_len ⟨u, d, t⟩ (zs.drop Q)))
        replace hge : tt ≤ runT (sqs ⟨u, d, t⟩ (zs.take Q)) + runT (sqs ⟨u, d, t⟩ (zs.drop Q)) := hge
        clear hsp CR CW hSP hHI htt
        generalize runT (sqs ⟨u, d, t⟩ (zs.take Q)) = T4 at *
        generalize runT (sqs ⟨u, d, t⟩ (zs.drop Q)) = T5 at *
        have es : IntKind.i64.wrap (T4 + T5) = T4 + T5 := wrap_in _ (by omega) (by omega)
        have hgb : decide (tt ≤ T4 + T5) = true := by simpa using hge
        have p1 : (0 : Int) ≤ (Q : Int) := by omega
        have p2 : (Q : Int) ≤ (zs.length : Int) := by omega
        have p3 : (Q : Int) ≤ (cp : Int) := by omega
        have p4 : cp ≠ Q := by omega
        have p5 : ¬ (cp - Q = 0) := by omega
        have hQ' := hide hQ
        have es2 : IntKind.i64.wrap (1 + (Q : Int) - 1) = (Q : Int) := by rw [show 1 + (Q : Int) - 1 = Q by omega]; exact wrap_in _ (by omega) (by omega)
        have HB0 : Below w9.heap.size w9 w9.drew := (Below.refl _ w9).drew
        have r0'' : ¬ ((zs.length : Int) - 1 = 0) := by omega
        have es3 : IntKind.i64.wrap (1 + atZ bs 7 % ((zs.length : Int) - 1)) = (Q : Int) := by rw [hQ]; exact wrap_in _ (by omega) (by omega)
        clear r5 r6 hQ
        go_upto_region 19 with fail
        go_region_held3 (fun w' => w'.cell? ⟨w1.heap.size, 0, none⟩ = some (.int .i64 u) ∧ w'.cell? ⟨w1.heap.size, 1, none⟩ = some (.int .i64 d) ∧ w'.cell? ⟨w1.heap.size, 2, none⟩ = some (.int .i64 t)) (go_keep) (first
          | (go_at_call 20; with_reducible refine (C2 _ (hzd.below HBc)).mono ?_; rintro e wD ⟨rfl, hbD⟩; have HBd := btrans HBc hbD; have y0 := Bx3.c0 (X9.below HBd); have y1 := Bx3.c1 (X9.below HBd); have y2 := Bx3.c2 (X9.below HBd))
          | (go_at_call 20; with_reducible refine (C1 _ (hzt.below HBb)).mono ?_; rintro e wC ⟨rfl, hbC⟩; have HBc := btrans HBb hbC; have y0 := Bx3.c0 (X9.below HBc); have y1 := Bx3.c1 (X9.below HBc); have y2 := Bx3.c2 (X9.below HBc))
          | (go_at_call 23; with_reducible refine (C3 _ (I9.below HBa)).mono ?_; rintro e wB ⟨rfl, hbB⟩; have HBb := btrans HBa hbB; have y0 := Bx3.c0 (X9.below HBb); have y1 := Bx3.c1 (X9.below HBb); have y2 := Bx3.c2 (X9.below HBb))
          | (go_at_call 23; with_reducible refine (C3 _ (I9.below HB0)).mono ?_; rintro e wA ⟨rfl, hbA⟩; have HBa := btrans HB0 hbA; have y0 := Bx3.c0 (X9.below HBa); have y1 := Bx3.c1 (X9.below HBa); have y2 := Bx3.c2 (X9.below HBa)))
        all_goals go_wp2
        all_goals go_ret
        all_goals first
          | exact ⟨rfl, btrans HB9 HBd⟩
          | exact ⟨ret_bool (by simp [hge]), btrans HB9 HBd⟩
          | exact ⟨ret_bool (by simp; omega), btrans HB9 HBd⟩
end Go.Proofs.Ytnhcmjfmfgoakaa
