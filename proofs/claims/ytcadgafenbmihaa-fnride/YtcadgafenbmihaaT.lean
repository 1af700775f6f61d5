/- The walk of the law on rides in parts. -/
import Derived.Test.YtcadgafenbmihaaS
import Derived.Deep.CutRange
namespace Go.Proofs.Ytcadgafenbmihaa
open Go.RowKit Fl

attribute [local go_sem] run_store_float

theorem cars_own {w : World} {base n c : Nat} {a : Option Addr} {es : List CarV} (h : w.ownsRow base 27 4 (.slice a n c) n (flat es)) (hn : es.length = n) : Cars w a es := by
  rcases h.2 with ⟨_, h0⟩ | ⟨g, cap', cur, he, _⟩
  · left; cases es <;> simp_all
  · simp only [Value.slice.injEq] at he
    obtain ⟨rfl, _, rfl⟩ := he
    exact Cars.of_owns h
theorem own_some {w : World} {base e sz n : Nat} {v : Value} {xs : List Value} (h : w.ownsRow base e sz v n xs) (hn : 0 < n) : ∃ g c, v = .slice (some ⟨g, 0, none⟩) n c ∧ n ≤ c := by
  rcases h.2 with ⟨rfl, h0⟩ | ⟨g, cap', cur, rfl, _, _, hc, _⟩
  · omega
  · exact ⟨_, _, rfl, hc⟩
theorem Flts.drop {w : World} {g : Nat} {zs : List Nat} (h : Flts w (some ⟨g, 0, none⟩) zs) {k : Nat} (hk : k ≤ zs.length) : Flts w (some ⟨g, k, none⟩) (zs.drop k) := by
  rcases h with h | ⟨b, off, ha, hc⟩
  · subst h; left; simp
  · simp only [Option.some.injEq, Addr.mk.injEq, and_true] at ha
    obtain ⟨rfl, rfl⟩ := ha
    refine .inr ⟨g, k, rfl, fun i hi => ?_⟩
    simp at hi
    have := hc (k + i) (by omega)
    rw [Nat.zero_add] at this
    rw [this]
    simp [List.getD]
theorem Flts.take {w : World} {a : Option Addr} {zs : List Nat} (h : Flts w a zs) (k : Nat) : Flts w a (zs.take k) := by
  rcases h with h | ⟨b, off, ha, hc⟩
  · subst h; left; simp
  · refine .inr ⟨b, off, ha, fun i hi => ?_⟩
    have hi' : i < k ∧ i < zs.length := by simp at hi; omega
    rw [hc i hi'.2]
    simp [List.getD, hi'.1]
theorem c39n (l : LocoV) (a az : Option Addr) (cap cz v sp n : Nat) (es : List CarV) (zs : List Nat) (w : World) (hn : zs.length = n) (he : Cars w a es) (hl : es.length ≤ 1048576) (hz : Flts w az zs) (hzl : n ≤ 200) (h1 : locoOk l = true) (h2 : trainOk es = true) (h3 : spd v = true) (h4 : spn sp = true) (h5 : zs.all slp = true) :
    Calls Try.prog 39 #[LocoV.val l, .slice a es.length cap, .float .f64 v, .slice az n cz, .float .f64 sp] w fun e w' => ∃ u, e = .returned u ∧
      w'.ownsRow w.heap.size 22 1 u n ((rides l es sp v zs n).map (Value.float .f64)) ∧ Below w.heap.size w w' := by
  subst hn
  have := c39 l a az cap cz v sp es zs w he hl hz (by omega)
  rw [ride_yes h1 h2 h3 h4 hzl h5, rides_len] at this
  exact this

set_option maxRecDepth 20000 in
set_option maxHeartbeats 12800000 in
theorem walk14 (a : Option Addr) (cap : Nat) (bs : List Int) (w : World) (hz : Bytes w a bs) (hl : bs.length ≤ maxLen) :
    Calls Try.prog 14 #[.slice a bs.length cap] w fun e w' => e = .returned (.bool true) ∧ Below w.heap.size w w' := by
  by_cases hbig : 1048576 < bs.length
  · have hb : decide (1048576 < bs.length) = true := by simpa using hbig
    go_enter Try.func14, Try.ntmps14
    go_wp2_with (go_at_call 48; refine (cbig _ _ _ _ hl).mono ?_; rintro e w2 ⟨rfl, hw⟩; obtain rfl := hw.symm)
    go_ret
    exact ⟨rfl, Below.refl _ _⟩
  have hb : decide (1048576 < bs.length) = false := by simpa using hbig
  have hl2 : bs.length ≤ 1048576 := by omega
  clear hbig
  have A1 := atZ_in hz 1
  have A12 := atZ_in hz 12
  have AK := fun k => atZ_in hz k
  obtain ⟨i0, hi, hz0, hz1, hz2⟩ := info_parts2 info22
  go_enter Try.func14, Try.ntmps14
  go_wp2_with fail
  refine (cbig _ _ _ _ hl).mono ?_
  rintro e w2 ⟨rfl, hw⟩
  obtain rfl := hw.symm
  clear hl
  rw [hb]
  go_wp2_with fail
  refine (c49 a cap bs _ hz hl2).mono ?_
  rintro e w1 ⟨p, g, v, sp, uc, es, rfl, h1, h2, h64, h3, hsv, h4, oc, hb1⟩
  have HB1 := hb1
  clear hb1 hb
  obtain ⟨ac, cc, rfl⟩ := own_form oc
  have hle : es.length ≤ 1048576 := by have := train_len h2; omega
  have HB2 := btrans HB1 (balloc w1 (.cells #[.float .f64 p, .float .f64 g] 33))
  have X2 : Bx2 (w1.alloc (.cells #[.float .f64 p, .float .f64 g] 33)) w1.heap.size ⟨p, g⟩ := ⟨by simp, by simp⟩
  have oc2 := own_keep oc (balloc w1 (.cells #[.float .f64 p, .float .f64 g] 33))
  have hsz : (w1.alloc (.cells #[.float .f64 p, .float .f64 g] 33)).heap.size = w1.heap.size + 1 := by simp
  have hlc := own_blk_lt oc
  have hwb3 := HB1.size
  go_wp2_with fail
  generalize w1.alloc (.cells #[.float .f64 p, .float .f64 g] 33) = w2 at *
  generalize w1.heap.size = b3 at *
  have HB3 := btrans HB2 (balloc w2 (.cells #[] 22))
  have X3 := X2.below (balloc w2 (.cells #[] 22))
  have oc3 := own_keep oc2 (balloc w2 (.cells #[] 22))
  have os3 : (w2.alloc (.cells #[] 22)).ownsRow (b3 + 1) 22 1 (.slice (some ⟨b3 + 1, 0, none⟩) 0 0) 0 [] := by
    have : (w2.alloc (.cells #[] 22)).ownsRow (b3 + 1) 22 1 (.slice (some ⟨w2.heap.size, 0, none⟩) 0 0) 0 [] := World.ownsRow_made w2 #[] 0 (by omega) (by omega) rfl
    rwa [hsz] at this
  have hw3 : b3 + 1 ≤ (w2.alloc (.cells #[] 22)).heap.size := by simp; omega
  clear HB1 HB2 X2 oc oc2
  obtain ⟨N, hN⟩ : ∃ N : Nat, 2 + atZ bs 1 % 9 = (N : Int) := ⟨(2 + atZ bs 1 % 9).toNat, by omega⟩
  have hN2 : 2 ≤ N := by omega
  have hN10 : N ≤ 10 := by omega
--CUT0
  go_loopw [7, 8] (fun u ii wr => ∃ (L : List Nat) (k : Nat), L.length = k ∧ k ≤ N ∧ ii = .int .i64 k ∧ L.all slp = true ∧ wr.ownsRow (b3 + 1) 22 1 u k (L.map (Value.float .f64)) ∧ Bx2 wr b3 ⟨p, g⟩ ∧ wr.ownsRow w.heap.size 27 4 (.slice ac es.length cc) es.length (flat es) ∧ Below w.heap.size w wr ∧ b3 + 1 ≤ wr.heap.size) (fun _ ii _ => N - (intOf ii).toNat)
  case atStart => exact ⟨[], 0, rfl, by omega, rfl, rfl, os3, X3, oc3, HB3, hw3⟩
  case round =>
    clear os3 X3 oc3 HB3 hw3
    obtain ⟨L, k, hLk, hkN, rfl, hall, os, X, oc, HB, hw⟩ := hrel
    have C1 := cat a cap bs 1 wr (hz.below HB) hl2 (by omega)
    by_cases hk : k < N
    · have hk' : (k : Int) < 2 + atZ bs 1 % 9 := by omega
      have C2 := cat a cap bs (k + 2) wr (hz.below HB) hl2 (by omega)
      have A2 := AK (k + 2)
      rw [show ((k + 2 : Nat) : Int) = (k : Int) + 2 by omega] at C2
      generalize atZ bs (k + 2) = ak at *
      obtain ⟨s1, s2⟩ := slope_in (n := ak % 64) (by omega) (by omega)
      have o1 := fop s1
      clear s1
      generalize fdiv (floatOfInt .f64 (ak % 64 - 30)) k256 = sv at *
      go_wp2_with fail
      refine C1.mono ?_
      rintro e w4 ⟨rfl, hw⟩
      obtain rfl := hw.symm
      go_wp2_with fail
      refine C2.mono ?_
      rintro e w4 ⟨rfl, hw⟩
      obtain rfl := hw.symm
      go_wp2_with (at_builtin; refine wpList_append_own _ rfl _ _ 52 rfl (b3 + 1) 22 i0 (.float .f64 0) 1 8 Try.underlying52 hi hz0 hz1 hz2 rfl (by decide) _ _ _ rfl (os.alloc _) ⟨wr.heap.size, 0, none⟩ 1 1 [.float .f64 sv] rfl rfl ?c1 ?c2 ?c3 ?c4 ?c5 ?_)
      case c1 =>
        intro j u hj
        match j, hj with
        | 0, hj => simp at hj; subst hj; simp [Addr.add]
      case c2 => intro u hu; simp at hu; subst hu; rfl
      case c3 => unfold maxLen; omega
      case c4 => omega
      case c5 => simp; omega
      intro v' w5 hown' hgrow _
      have hr := own_from os (Nat.le_refl _)
      have HB5 : Below w.heap.size w w5 := (btrans HB (balloc _ _)).grown hgrow (by have := HB.size; simp; omega) (fun j e => by have := hr j e; omega)
      have X5 : Bx2 w5 b3 ⟨p, g⟩ := (X.below (balloc _ _)).grow hgrow (fun h => by have := hr _ h.symm; omega)
      have oc5 := own_far (own_keep oc (balloc _ _)) hgrow (fun j hj h => by have := hr j h.symm; have := hlc j hj; omega)
      have hw5 : b3 + 1 ≤ w5.heap.size := by have := hgrow.size; simp at this; omega
      have os5 : w5.ownsRow (b3 + 1) 22 1 v' (k + 1) ((L ++ [sv]).map (Value.float .f64)) := by
        rw [List.map_append]; exact hown'
      clear os hown' hgrow HB X oc hr C1 C2
      go_wp2
      go_roundw
      case rel => exact ⟨L ++ [sv], k + 1, by simp; omega, by omega, by go_num, by simp [hall, s2], os5, X5, oc5, HB5, hw5⟩
      case measure => simp [intOf]; omega
    · obtain rfl : k = N := by omega
      have hk' : ¬ ((k : Int) < 2 + atZ bs 1 % 9) := by omega
      obtain ⟨gs, cs, rfl, hcs⟩ := own_some os (by omega)
      have hwx : b3 < wr.heap.size := by omega
--CUT1
      go_wp2_with fail
      refine C1.mono ?_
      rintro e w4 ⟨rfl, hw⟩
      obtain rfl := hw.symm
      obtain ⟨b0, b1⟩ := id X
      dsimp only at b0 b1
      go_wp2_with fail
      clear b0 b1 C1
      refine (c39n ⟨p, g⟩ ac _ cc cs v sp k es L _ hLk (cars_own oc rfl) hle (flts_own os hLk) (by omega) h1 h2 h3 h4 hall).mono ?_
      rintro e w6 ⟨u1, rfl, o1, hb⟩
      have HB6 := btrans HB hb
      have X6 := X.below hb
      have oc6 := own_keep oc hb
      have os6 := own_keep os hb
      clear hb HB X oc os
      obtain ⟨g1, c1, rfl, hc1⟩ := own_some o1 (by omega)
      have C12 := cat a cap bs 12 w6 (hz.below HB6) hl2 (by omega)
      obtain ⟨q1, q2, q3⟩ := rem_in (x := atZ bs 12) (n := (k : Int) - 1) A12.1 (by omega) (by omega)
      obtain ⟨K, hK⟩ : ∃ K : Nat, 1 + atZ bs 12 % ((k : Int) - 1) = (K : Int) := ⟨(1 + atZ bs 12 % ((k : Int) - 1)).toNat, by omega⟩
      have hK1 : 1 ≤ K := by omega
      have hK2 : K < k := by omega
      go_wp2_with fail
      refine C12.mono ?_
      rintro e w7 ⟨rfl, hw⟩
      obtain rfl := hw.symm
      clear C12
      obtain ⟨M, hMK⟩ : ∃ M, K = M + 1 := ⟨K - 1, by omega⟩
      have hKm : IntKind.i64.wrap (M : Int) = (M : Int) := wrap_in _ (by omega) (by omega)
      have hKm' : (K : Int) - 1 = (M : Int) := by omega
      have d0 : (0 : Int) ≤ (K : Int) := by omega
      have d1 : (K : Int) ≤ (k : Int) := by omega
      have d2 : (k : Int) ≤ (cs : Int) := by omega
      have d3 : cs ≠ K := by omega
      have d6 : (K : Int) ≤ (cs : Int) := by omega
      have d4 : (0 : Int) ≤ (M : Int) := by omega
      have d5 : (M : Int) < (k : Int) := by omega
      have hvk : spd (vAt ⟨p, g⟩ es sp v L K) = true := vAt_spd h1 h2 h3 h4 hall _ (by omega)
      have hcM : w6.cell? ⟨g1, M, none⟩ = some (.float .f64 (vAt ⟨p, g⟩ es sp v L K)) := by
        have := o1.cellAt M (by omega)
        rw [this, hMK]; simp [rides, show M < k by omega]
      have hbx := cell_lt X6.1
      have hgx := cell_lt hcM
      obtain ⟨b0, b1⟩ := id X6
      dsimp only at b0 b1
      have CR := fun w' hc hf => c39n ⟨p, g⟩ ac (some ⟨gs, K, none⟩) cc (cs - K) (vAt ⟨p, g⟩ es sp v L K) sp (k - K) es (L.drop K) w' (by simp; omega) hc hle hf (by omega) h1 h2 hvk h4 (by rw [List.all_eq_true] at hall ⊢; exact fun x hx => hall x (List.mem_of_mem_drop hx))
      unfold LocoV.val at CR
      have zc6 := cars_own oc6 rfl
      have zf6 := (flts_own os6 hLk).drop (k := K) (by omega)
      generalize hvM : vAt ⟨p, g⟩ es sp v L K = vM at *
      replace hvM := hide hvM
      replace hMK := hide hMK
      go_upto_region 13 with fail
      go_cut [11] from 63 (fun s wc => wc.ownsRow w6.heap.size 22 1 s (k - K) ((rides ⟨p, g⟩ es sp vM (L.drop K) (k - K)).map (Value.float .f64)) ∧ Below w6.heap.size w6 wc)
      case first =>
        go_region_held3 (fun w' => w'.cell? ⟨b3, 0, none⟩ = some (.float .f64 p) ∧ w'.cell? ⟨b3, 1, none⟩ = some (.float .f64 g) ∧ w'.cell? ⟨g1, M, none⟩ = some (.float .f64 vM)) (go_keep) (first | (go_at_call 39; with_reducible refine (CR _ (zc6.below (Below.refl _ _).drew) (zf6.below (Below.refl _ _).drew)).mono ?_; rintro e w7 ⟨u2, rfl, o2, hb⟩; have hb7 := undrew hb; obtain ⟨hc, hf⟩ := bcell hb7; clear hb))
        go_wp2_with fail
        go_meet
        exact ⟨o2, hb7⟩
      case rest =>
        obtain ⟨o2, hb⟩ := hcut
        have HB7 := btrans HB6 hb
        have X7 := X6.below hb
        have oc7 := own_keep oc6 hb
        have os7 := own_keep os6 hb
        have o17 := own_keep o1 hb
        clear hb HB6 X6 oc6 os6 o1 hcM b0 b1 zc6 zf6 CR hbx hgx
        obtain ⟨g2, c2, rfl, hc2⟩ := own_some o2 (by omega)
        obtain ⟨R, hR⟩ : ∃ R, k - K = R := ⟨_, rfl⟩
        rw [hR] at o2 hc2 ⊢
        have hR1 : (k : Int) - (K : Int) = (R : Int) := by omega
        have hR2 : 0 < R := by omega
        replace hR := hide hR
        obtain ⟨b0, b1⟩ := id X7
        dsimp only at b0 b1
        have CP := fun w' hc hf => c39n ⟨p, g⟩ ac (some ⟨gs, 0, none⟩) cc cs v sp K es (L.take K) w' (by simp; omega) hc hle hf (by omega) h1 h2 h3 h4 (by rw [List.all_eq_true] at hall ⊢; exact fun x hx => hall x (List.mem_of_mem_take hx))
        unfold LocoV.val at CP
        have zc7 := cars_own oc7 rfl
        have zf7 := (flts_own os7 hLk).take K
        have hbx := cell_lt b0
        go_upto_region 14 with fail
        go_cut [12] from 63 (fun s wd => wd.ownsRow wc.heap.size 22 1 s K ((rides ⟨p, g⟩ es sp v (L.take K) K).map (Value.float .f64)) ∧ Below wc.heap.size wc wd)
        case first =>
          go_region_held3 (fun w' => w'.cell? ⟨b3, 0, none⟩ = some (.float .f64 p) ∧ w'.cell? ⟨b3, 1, none⟩ = some (.float .f64 g)) (go_keep) (first | (go_at_call 39; with_reducible refine (CP _ (zc7.below (Below.refl _ _).drew) (zf7.below (Below.refl _ _).drew)).mono ?_; rintro e w8 ⟨u3, rfl, o3, hb⟩; have hb8 := undrew hb; obtain ⟨hc, hf⟩ := bcell hb8; clear hb))
          go_wp2_with fail
          go_meet
          exact ⟨o3, hb8⟩
        case rest =>
          obtain ⟨o3, hb⟩ := hcut
          have HB8 := btrans HB7 hb
          have X8 := X7.below hb
          have oc8 := own_keep oc7 hb
          have os8 := own_keep os7 hb
          have o18 := own_keep o17 hb
          have o28 := own_keep o2 hb
          clear hb HB7 X7 oc7 os7 o17 o2 b0 b1 zc7 zf7 CP hbx
          obtain ⟨g3, c3, rfl, hc3⟩ := own_some o3 (by omega)
          -- what lies where
          have V1 : ∀ i, i < k → wc.cell? ⟨g1, i, none⟩ = some (.float .f64 (vAt ⟨p, g⟩ es sp v L (i + 1))) := fun i hi => by
            rw [o18.cellAt i (by omega)]; simp [rides, hi]
          have V3 : ∀ i, i < K → wc.cell? ⟨g3, i, none⟩ = some (.float .f64 (vAt ⟨p, g⟩ es sp v L (i + 1))) := fun i hi => by
            rw [o3.cellAt i (by omega)]; simp [rides, hi, vAt_take ⟨p, g⟩ es sp v L (show i + 1 ≤ K by omega)]
          have V2 : ∀ i, i < R → wc.cell? ⟨g2, i, none⟩ = some (.float .f64 (vAt ⟨p, g⟩ es sp v L (K + i + 1))) := fun i hi => by
            rw [o28.cellAt i (by omega), ← hvM.out]; simp [rides, hi, vAt_drop ⟨p, g⟩ es sp v L K (i + 1), Nat.add_assoc]
          have VS : ∀ i, i < k → spd (vAt ⟨p, g⟩ es sp v L (i + 1)) = true := fun i hi => vAt_spd h1 h2 h3 h4 hall _ (by omega)
          have hL0 : 0 < L.length := by omega
          have hcS : wc.cell? ⟨gs, 0, none⟩ = some (.float .f64 (L[0]'hL0)) := by
            rw [os8.cellAt 0 (by omega)]; simp [hL0]
          have hF : vAt ⟨p, g⟩ es sp v L 1 = pull ⟨p, g⟩ es v (L[0]'hL0) sp := vAt_succ (k := 0) hL0
          have hsl : slp (L[0]'hL0) = true := (List.all_eq_true.1 hall) _ (List.getElem_mem hL0)
          have h0v := pull_none (sl := L[0]'hL0) h1 h2 h3 hsl
          have h0c := V1 0 (by omega)
          rw [Nat.zero_add, hF] at h0c
          clear o18 o3 o28 hF
          generalize L[0]'hL0 = sl0 at *
          generalize vAt ⟨p, g⟩ es sp v L = VA at *
          have hKR : (K : Int) + (R : Int) = (k : Int) := by omega
          have hk0p : (0 : Int) < (k : Int) := by omega
          have hk0n : 0 < k := by omega
          have hk0m : 1 ≤ k := by omega
          clear hR1 hKm hKm' hK q1 q2 q3 hc1 hc2 hc3 d3
          go_wp2_with fail
          go_loop [13, 14] (fun ii _ => ∃ i : Nat, i ≤ k ∧ ii = .int .i64 i) (fun ii _ => k - (intOf ii).toNat)
          case atStart => exact ⟨0, by omega, rfl⟩
          case round =>
            obtain ⟨i, hik, rfl⟩ := hrel
            by_cases hlt : i < k
            · have z1 := V1 i hlt
              have zs := VS i hlt
              by_cases hiK : i < K
              · have z3 := V3 i hiK
                clear V1 V2 V3 VS h0c hcS h0v
                generalize VA (i + 1) = y at *
                go_wp2_with fail
                refine (c51 y _).mono ?_
                rintro e w9 ⟨rfl, hw⟩
                obtain rfl := hw.symm
                go_wp2_with fail
                refine (c16 y 0 k200 _).mono ?_
                rintro e w9 ⟨rfl, hw⟩
                obtain rfl := hw.symm
                rw [show inR y 0 k200 = _ from zs]
                go_wp2
                go_round
                case rel => exact ⟨i + 1, by omega, by go_num⟩
                case measure => simp [intOf]; omega
              · obtain ⟨J, hJ⟩ : ∃ J, i = K + J := ⟨i - K, by omega⟩
                have z2 := V2 J (by omega)
                rw [← hJ] at z2
                have hJ1 : (i : Int) - (K : Int) = (J : Int) := by omega
                have hJ2 : (J : Int) < (R : Int) := by omega
                replace hJ := hide hJ
                clear V1 V2 V3 VS h0c hcS h0v
                generalize VA (i + 1) = y at *
                go_wp2_with fail
                refine (c51 y _).mono ?_
                rintro e w9 ⟨rfl, hw⟩
                obtain rfl := hw.symm
                go_wp2_with fail
                refine (c16 y 0 k200 _).mono ?_
                rintro e w9 ⟨rfl, hw⟩
                obtain rfl := hw.symm
                rw [show inR y 0 k200 = _ from zs]
                go_wp2
                go_round
                case rel => exact ⟨i + 1, by omega, by go_num⟩
                case measure => simp [intOf]; omega
            · obtain rfl : i = k := by omega
              clear V1 V2 V3 VS hlt
              obtain ⟨b0, b1⟩ := id X8
              dsimp only at b0 b1
              have zc8 := cars_own oc8 rfl
              have hbx := cell_lt b0
              have hgx := cell_lt hcS
              have hg1 := cell_lt h0c
              have CF := fun w' hc => c36 ⟨p, g⟩ ac cc v sl0 sp es w' hc hle
              have CG := fun w' hc => c35 ⟨p, g⟩ ac cc v sl0 sp es w' hc hle h64
              have CH := fun w' hc => c36 ⟨p, g⟩ ac cc v sl0 0 es w' hc hle
              unfold LocoV.val at CF CG CH
              generalize pull ⟨p, g⟩ es v sl0 sp = F at *
              generalize pull ⟨p, g⟩ es v sl0 0 = F0 at *
              have h0v' : FloatKind.f64.format.order F0 v = some .eq := by unfold feq ford at h0v; simpa using h0v
              clear h0v
              go_upto_region 26 with fail
              go_cut [15] from 63 (fun s wd => s = .float .f64 F ∧ Below wc.heap.size wc wd)
              case first =>
                go_region_held3 (fun w' => w'.cell? ⟨b3, 0, none⟩ = some (.float .f64 p) ∧ w'.cell? ⟨b3, 1, none⟩ = some (.float .f64 g) ∧ w'.cell? ⟨gs, 0, none⟩ = some (.float .f64 sl0)) (go_keep) (first | (go_at_call 36; with_reducible refine (CF _ (zc8.below (Below.refl _ _).drew)).mono ?_; rintro e w9 ⟨rfl, hb⟩; have hb9 := undrew hb; obtain ⟨hc, hf⟩ := bcell hb9; clear hb))
                go_wp2_with fail
                go_meet
                exact ⟨rfl, hb9⟩
              case rest =>
                obtain ⟨rfl, hb⟩ := hcut
                have HB9 := btrans HB8 hb
                have X9 := X8.below hb
                have zc9 := zc8.below hb
                have hcS9 := ble hb hcS
                have h0c9 := ble hb h0c
                clear hb HB8 X8 zc8 hcS h0c b0 b1 hbx hgx hg1 oc8 os8 CF
                obtain ⟨b0, b1⟩ := X9
                dsimp only at b0 b1
                have hbx := cell_lt b0
                have hgx := cell_lt hcS9
                have hg1 := cell_lt h0c9
                go_wp2_with fail
                go_region_held3 (fun w' => w'.cell? ⟨b3, 0, none⟩ = some (.float .f64 p) ∧ w'.cell? ⟨b3, 1, none⟩ = some (.float .f64 g) ∧ w'.cell? ⟨gs, 0, none⟩ = some (.float .f64 sl0) ∧ w'.cell? ⟨g1, 0, none⟩ = some (.float .f64 F)) (go_keep) (first
                  | (go_at_call 51; with_reducible refine (c51 F _).mono ?_; rintro e w' ⟨rfl, hw⟩; obtain rfl := hw.symm)
                  | (go_at_call 36; with_reducible refine (CH _ (zc9.below hb10)).mono ?_; rintro e w11 ⟨rfl, hb⟩; have hb11 := btrans hb10 hb; obtain ⟨hc2, hf2⟩ := bcell hb11; clear hb)
                  | (go_at_call 35; with_reducible refine (CG _ (zc9.below (Below.refl _ _).drew)).mono ?_; rintro e w10 ⟨rfl, hb⟩; have hb10 := undrew hb; obtain ⟨hc, hf⟩ := bcell hb10; clear hb))
                go_wp2
                go_ret
                exact ⟨rfl, btrans HB9 hb11⟩
end Go.Proofs.Ytcadgafenbmihaa
