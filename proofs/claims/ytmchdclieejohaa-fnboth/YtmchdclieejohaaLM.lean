/- The walk of the law on the pattern of both. -/
import Derived.Test.YtmchdclieejohaaLG
import Derived.Test.YtmchdclieejohaaLH
import Derived.Test.YtmchdclieejohaaLL
import Derived.Deep.CutRange
import Derived.Deep.RegionHeld3
namespace Go.Proofs.Ytmchdclieejohaa
open Go.RowKit

set_option maxRecDepth 20000 in
set_option maxHeartbeats 12800000 in
theorem walkBothD (a : Option Addr) (cap : Nat) (bs : List Int) (w : World) (hz : Bytes w a bs) (hm : bs.length ≤ maxLen) :
    Calls Try.prog 3 #[.slice a bs.length cap] w fun e w' => e = .returned (.bool true) ∧ Below w.heap.size w w' := by
  by_cases hl2 : 1048576 < bs.length
  · go_enter Try.func3, Try.ntmps3
    go_wp2_with fail
    refine (cbig a cap bs.length _ hm).mono ?_
    rintro e w1 ⟨rfl, hw⟩
    subst w1
    rw [decide_eq_true hl2]
    go_wp2
    go_ret
    exact ⟨rfl, Below.refl _ _⟩
  have hl : bs.length ≤ 1048576 := by omega
  go_enter Try.func3, Try.ntmps3
  go_wp2_with fail
  refine (cbig a cap bs.length _ hm).mono ?_
  rintro e w1 ⟨rfl, hw⟩
  subst w1
  rw [decide_eq_false hl2]
  go_wp2_with fail
  refine (cDrawBoth a cap bs _ hz hl).mono ?_
  rintro e w1 ⟨a1, p1, a2, p2, b1, q1, b2, q2, R, S, rfl, lx, ly, lu, lv, I1, I2, J1, J2, HB1⟩
  obtain ⟨W, F, T, xs, ys⟩ := R
  obtain ⟨V, G, H, us, vs⟩ := S
  dsimp only at *
  have hA := btrans (balloc w1 (.cells #[.int .i64 W, .int .i64 F, .int .i64 T, .slice a1 xs.length p1, .slice a2 ys.length p2] 26)) (balloc (w1.alloc (.cells #[.int .i64 W, .int .i64 F, .int .i64 T, .slice a1 xs.length p1, .slice a2 ys.length p2] 26)) (.cells #[.int .i64 V, .int .i64 G, .int .i64 H, .slice b1 us.length q1, .slice b2 vs.length q2] 26))
  have KP0 : ((w1.alloc (.cells #[.int .i64 W, .int .i64 F, .int .i64 T, .slice a1 xs.length p1, .slice a2 ys.length p2] 26)).alloc (.cells #[.int .i64 V, .int .i64 G, .int .i64 H, .slice b1 us.length q1, .slice b2 vs.length q2] 26)).heap[w1.heap.size]? = some (.cells #[.int .i64 W, .int .i64 F, .int .i64 T, .slice a1 xs.length p1, .slice a2 ys.length p2] 26 (0, 0)) := old5 _ (new5 _ _ _ rfl)
  have KQ0 : ((w1.alloc (.cells #[.int .i64 W, .int .i64 F, .int .i64 T, .slice a1 xs.length p1, .slice a2 ys.length p2] 26)).alloc (.cells #[.int .i64 V, .int .i64 G, .int .i64 H, .slice b1 us.length q1, .slice b2 vs.length q2] 26)).heap[w1.heap.size + 1]? = some (.cells #[.int .i64 V, .int .i64 G, .int .i64 H, .slice b1 us.length q1, .slice b2 vs.length q2] 26 (0, 0)) := new5 _ _ _ (by simp)
  go_wp2_with fail
  refine (c13 a1 a2 b1 b2 p1 p2 q1 q2 xs ys us vs W F T V G H _ (I1.below hA) (I2.below hA) (J1.below hA) (J2.below hA) (by omega) (by omega) (by omega) (by omega)).mono ?_
  rintro e w2 ⟨c1, k1, c2, k2, rfl, O1, O2, -, hb2⟩
  have L1 := ints_of_own O1
  have L2 := ints_of_own O2
  clear O1 O2
  have hcs := both_cases W F T xs ys V G H us vs
  obtain ⟨hn1, hn2⟩ := bothR_len (W := W) (F := F) (T := T) (zs := xs) (es := ys) (V := V) (G := G) (H := H) (ys := us) (ds := vs)
  have CB0 := fun w' h1 h2 h3 h4 => c15 a1 a2 b1 b2 p1 p2 q1 q2 xs ys us vs W F T V G H w' h1 h2 h3 h4 (by omega) (by omega) (by omega) (by omega)
  generalize bothR W F T xs ys V G H us vs = R at *
  obtain ⟨X, A, B, ks, js⟩ := R
  dsimp only at *
  have hAR := balloc w2 (.cells #[.int .i64 X, .int .i64 A, .int .i64 B, .slice c1 ks.length k1, .slice c2 js.length k2] 26)
  have KR : (w2.alloc (.cells #[.int .i64 X, .int .i64 A, .int .i64 B, .slice c1 ks.length k1, .slice c2 js.length k2] 26)).heap[w2.heap.size]? = some (.cells #[.int .i64 X, .int .i64 A, .int .i64 B, .slice c1 ks.length k1, .slice c2 js.length k2] 26 (0, 0)) := new5 _ _ _ rfl
  have KP := old5 (.cells #[.int .i64 X, .int .i64 A, .int .i64 B, .slice c1 ks.length k1, .slice c2 js.length k2] 26) ((hb2.block _ (lt_of_block KP0)).trans KP0)
  have KQ := old5 (.cells #[.int .i64 X, .int .i64 A, .int .i64 B, .slice c1 ks.length k1, .slice c2 js.length k2] 26) ((hb2.block _ (lt_of_block KQ0)).trans KQ0)
  have HBB := btrans (btrans (btrans HB1 hA) hb2) hAR
  have hAB := btrans (btrans hA hb2) hAR
  have I1' := I1.below hAB
  have I2' := I2.below hAB
  have J1' := J1.below hAB
  have J2' := J2.below hAB
  have L1' := L1.below hAR
  have L2' := L2.below hAR
  clear hA hb2 hAR hAB KP0 KQ0 HB1 I1 I2 J1 J2 L1 L2 hz
  go_upto_region 5 with fail
  generalize (w2.alloc (.cells #[.int .i64 X, .int .i64 A, .int .i64 B, .slice c1 ks.length k1, .slice c2 js.length k2] 26)) = wB at *
  generalize w2.heap.size = br at *
  generalize w1.heap.size = bp at *
  have CBo : ∀ w', Below wB.heap.size wB w' → Calls Try.prog 15 #[.agg #[.int .i64 W, .int .i64 F, .int .i64 T, .slice a1 xs.length p1, .slice a2 ys.length p2], .agg #[.int .i64 V, .int .i64 G, .int .i64 H, .slice b1 us.length q1, .slice b2 vs.length q2]] w' fun e w'' => ∃ d1 e1 d2 e2, e = .returned (.agg #[.int .i64 X, .int .i64 A, .int .i64 B, .slice d1 ks.length e1, .slice d2 js.length e2]) ∧ Ints w'' d1 ks ∧ Ints w'' d2 js ∧ Below w'.heap.size w' w'' := fun w' h =>
    (CB0 w' (I1'.below h) (I2'.below h) (J1'.below h) (J2'.below h)).mono (by
      rintro e w'' ⟨d1, e1, d2, e2, rfl, M1, M2, -, hb⟩
      exact ⟨d1, e1, d2, e2, rfl, ints_of_own M1, ints_of_own M2, hb⟩)
  clear CB0
  have CSm := fun w' (h : Below wB.heap.size wB w') d1 e1 d2 e2 (h1 : Ints w' d1 ks) (h2 : Ints w' d2 js) => cSamePat c1 c2 d1 d2 k1 k2 e1 e2 ks js X A B w' (L1'.below h) (L2'.below h) h1 h2 hn1 hn2
  replace hcs := hide hcs
  obtain ⟨⟨u0, u1, u2, u3, u4⟩, -⟩ := blk5 KP
  obtain ⟨⟨u5, u6, u7, u8, u9⟩, -⟩ := blk5 KQ
  obtain ⟨⟨o0, o1, o2, o3, o4⟩, -⟩ := blk5 KR
  go_cut [24] from 19 to 24 (fun sv wc => sv = .bool false ∧ Below wB.heap.size wB wc)
  case first =>
    go_region_held3 (fun w' => w'.cell? ⟨bp, 0, none⟩ = some (.int .i64 W) ∧ w'.cell? ⟨bp, 1, none⟩ = some (.int .i64 F) ∧ w'.cell? ⟨bp, 2, none⟩ = some (.int .i64 T) ∧ w'.cell? ⟨bp, 3, none⟩ = some (.slice a1 xs.length p1) ∧ w'.cell? ⟨bp, 4, none⟩ = some (.slice a2 ys.length p2) ∧ w'.cell? ⟨bp + 1, 0, none⟩ = some (.int .i64 V) ∧ w'.cell? ⟨bp + 1, 1, none⟩ = some (.int .i64 G) ∧ w'.cell? ⟨bp + 1, 2, none⟩ = some (.int .i64 H) ∧ w'.cell? ⟨bp + 1, 3, none⟩ = some (.slice b1 us.length q1) ∧ w'.cell? ⟨bp + 1, 4, none⟩ = some (.slice b2 vs.length q2) ∧ w'.cell? ⟨br, 0, none⟩ = some (.int .i64 X) ∧ w'.cell? ⟨br, 1, none⟩ = some (.int .i64 A) ∧ w'.cell? ⟨br, 2, none⟩ = some (.int .i64 B) ∧ w'.cell? ⟨br, 3, none⟩ = some (.slice c1 ks.length k1) ∧ w'.cell? ⟨br, 4, none⟩ = some (.slice c2 js.length k2)) (go_keep) (first
      | (go_at_call 14; with_reducible refine (CSm _ B1 _ _ _ _ M1 M2).mono ?_; rintro e wx_B2 ⟨rfl, hbx⟩; have B2 := btrans B1 hbx; clear hbx; obtain ⟨⟨s0, s1, s2, s3, s4⟩, -⟩ := blk5 (keepblk2 B2 KP); obtain ⟨⟨s5, s6, s7, s8, s9⟩, -⟩ := blk5 (keepblk2 B2 KQ); obtain ⟨⟨o0, o1, o2, o3, o4⟩, -⟩ := blk5 (keepblk2 B2 KR))
      | (go_at_call 15; with_reducible refine (CBo _ (Below.refl _ _).drew).mono ?_; rintro e wx_B1 ⟨d1, e1, d2, e2, rfl, M1, M2, hbx⟩; have B1 := undrew hbx; clear hbx; obtain ⟨⟨s0, s1, s2, s3, s4⟩, -⟩ := blk5 (keepblk2 B1 KP); obtain ⟨⟨s5, s6, s7, s8, s9⟩, -⟩ := blk5 (keepblk2 B1 KQ); obtain ⟨⟨o0, o1, o2, o3, o4⟩, -⟩ := blk5 (keepblk2 B1 KR)))
    all_goals (go_wp2_with fail; go_meet; exact ⟨rfl, B2⟩)
  case rest =>
    obtain ⟨rfl, hbc⟩ := hcut
    clear CBo CSm u0 u1 u2 u3 u4 u5 u6 u7 u8 u9 o0 o1 o2 o3 o4
    have KPc := keepblk2 hbc KP
    have KQc := keepblk2 hbc KQ
    have KRc := keepblk2 hbc KR
    have HBc := btrans HBB hbc
    have I1c := I1'.below hbc
    have I2c := I2'.below hbc
    have J1c := J1'.below hbc
    have J2c := J2'.below hbc
    have L1c := L1'.below hbc
    have L2c := L2'.below hbc
    clear hbc KP KQ KR HBB I1' I2' J1' J2' L1' L2'
    obtain ⟨⟨h0, h1, h2, h3, h4⟩, -⟩ := blk5 KRc
    have CRr := fun w' (h : Below wc.heap.size wc w') => c16 c1 c2 k1 k2 ks js X A B w' (L1c.below h) (L2c.below h) hn1 hn2
    by_cases hX : B = 0 ∧ X = 0
    · obtain ⟨rfl, rfl⟩ := hX
      have hA0 : A = 0 := by
        rcases hcs.out with e | ⟨e, -⟩
        · simp at e; exact e.1
        · have := patOk_bd e; omega
      subst hA0
      clear hcs
      generalize (runList 0 0 0 ks js).length = N at *
      by_cases hN : (N : Int) = 0
      all_goals (
        go_wp2_with fail
        refine (CRr _ (Below.refl _ _)).mono ?_
        rintro e wq ⟨rfl, hbq⟩
        have KRq := keepblk2 hbq KRc
        obtain ⟨⟨g0, g1, g2, g3, g4⟩, -⟩ := blk5 KRq
        go_wp2
        go_ret
        exact ⟨rfl, btrans HBc hbq⟩)
    · obtain ⟨hokr, hon⟩ : patOk X A B ks js = true ∧ ∀ d, A ≤ d → d ≤ B → runsOnB X A B ks js d = (runsOnB W F T xs ys d && runsOnB V G H us vs d) := by
        rcases hcs.out with e | e
        · simp at e; exact absurd ⟨e.2.2.1, e.1⟩ hX
        · exact e
      obtain ⟨⟨X0, X1⟩, ⟨A0, AB, B1⟩, -, -⟩ := patOk_bd hokr
      clear hcs
      have hrl : (runList X A B ks js).length = (pick (runsOnB X A B ks js) A (B + 1 - A).toNat).length := by
        rw [runList_yes hokr]
        have e : onB X A B ks js = (runsOnB X A B ks js) := by funext d; exact (ro_yes hokr).symm
        rw [e]
      have hlo : runsOnB X A B ks js (A - 1) = false := by
        rw [ro_yes hokr]; unfold onB
        have : inB (A - 1) A B = false := by simp [inB]; omega
        rw [this]; rfl
      have hhi : runsOnB X A B ks js (B + 1) = false := by
        rw [ro_yes hokr]; unfold onB
        have : inB (B + 1) A B = false := by simp [inB]; omega
        rw [this]; rfl
      replace hrl := hide hrl
      replace hlo := hide hlo
      replace hhi := hide hhi
      replace hon := hide hon
      clear CRr
      go_upto_region 7 with fail
      go_cut [32] from 25 to 32 (fun sv wd => sv = .bool false ∧ wd = wc)
      case first =>
        by_cases hB0 : B = 0
        · have hX0 : ¬ X = 0 := fun e => hX ⟨hB0, e⟩
          go_wp2_with fail
          go_meet
          exact ⟨by simp [hX0], rfl⟩
        · go_wp2_with fail
          go_meet
          exact ⟨rfl, rfl⟩
      case rest =>
        obtain ⟨rfl, hwd⟩ := hcut
        subst hwd
        clear hX
        go_wp2
        go_loopw [6, 7] (fun n i wr => ∃ j : Nat, n = .int .i64 ((pick (runsOnB X A B ks js) A j).length : Int) ∧ i = .int .i64 (A + (j : Int)) ∧ A + (j : Int) ≤ B + 1 ∧ Below wc.heap.size wc wr) (fun n i _ => (B + 1 - intOf i).toNat)
        case atStart => exact ⟨0, rfl, by simp, by omega, Below.refl _ _⟩
        case round =>
          obtain ⟨j, rfl, rfl, hj, hb⟩ := hrel
          clear h0 h1 h2 h3 h4
          have KPr := keepblk2 hb KPc
          have KQr := keepblk2 hb KQc
          have KRr := keepblk2 hb KRc
          obtain ⟨⟨t0, t1, t2, t3, t4⟩, -⟩ := blk5 KPr
          obtain ⟨⟨t5, t6, t7, t8, t9⟩, -⟩ := blk5 KQr
          obtain ⟨⟨v0, v1, v2, v3, v4⟩, -⟩ := blk5 KRr
          have hpl := pick_len (runsOnB X A B ks js) A j
          by_cases hlt : A + (j : Int) ≤ B
          · have C1 := fun w' (h : Below wr.heap.size wr w') => c17 a1 a2 p1 p2 xs ys W F T (A + (j : Int)) w' ((I1c.below hb).below h) ((I2c.below hb).below h) (by omega) (by omega)
            have C2 := fun w' (h : Below wr.heap.size wr w') => c17 b1 b2 q1 q2 us vs V G H (A + (j : Int)) w' ((J1c.below hb).below h) ((J2c.below hb).below h) (by omega) (by omega)
            have C3 := fun w' (h : Below wr.heap.size wr w') => c17 c1 c2 k1 k2 ks js X A B (A + (j : Int)) w' ((L1c.below hb).below h) ((L2c.below hb).below h) hn1 hn2
            have ho := hon.out (A + (j : Int)) (by omega) hlt
            cases hP : runsOnB W F T xs ys (A + (j : Int))
            ·
              rw [hP] at C1 ho
              rw [Bool.false_and] at ho
              rw [ho] at C3
              have hpk := pick_no (runsOnB X A B ks js) A j ho
              have hpn : (pick (runsOnB X A B ks js) A (j + 1)).length = (pick (runsOnB X A B ks js) A j).length := by rw [hpk]
              clear hpk ho
              replace hpn := hide hpn
              go_wp2_with fail
              refine (C1 _ (Below.refl _ _)).mono ?_
              rintro e wp ⟨rfl, Z1⟩
              obtain ⟨⟨s5, s6, s7, s8, s9⟩, -⟩ := blk5 (keepblk2 Z1 KQr)
              obtain ⟨⟨o0, o1, o2, o3, o4⟩, -⟩ := blk5 (keepblk2 Z1 KRr)
              go_wp2_with fail
              refine (C3 _ Z1).mono ?_
              rintro e wv ⟨rfl, hbx⟩
              have Z3 := btrans Z1 hbx
              have hb2 := btrans hb Z3
              clear hbx Z1 C1 C2 C3
              go_wp2
              go_roundw
              case rel => exact ⟨j + 1, by rw [hpn.out], by go_num, by omega, hb2⟩
              case measure => simp [intOf]; omega
            cases hQ : runsOnB V G H us vs (A + (j : Int))
            ·
              rw [hP] at C1 ho
              rw [hQ] at C2 ho
              rw [Bool.true_and] at ho
              rw [ho] at C3
              have hpk := pick_no (runsOnB X A B ks js) A j ho
              have hpn : (pick (runsOnB X A B ks js) A (j + 1)).length = (pick (runsOnB X A B ks js) A j).length := by rw [hpk]
              clear hpk ho
              replace hpn := hide hpn
              go_wp2_with fail
              refine (C1 _ (Below.refl _ _)).mono ?_
              rintro e wp ⟨rfl, Z1⟩
              obtain ⟨⟨s5, s6, s7, s8, s9⟩, -⟩ := blk5 (keepblk2 Z1 KQr)
              obtain ⟨⟨o0, o1, o2, o3, o4⟩, -⟩ := blk5 (keepblk2 Z1 KRr)
              go_wp2_with fail
              refine (C2 _ Z1).mono ?_
              rintro e wq ⟨rfl, hbx⟩
              have Z2 := btrans Z1 hbx
              clear hbx s5 s6 s7 s8 s9 o0 o1 o2 o3 o4
              obtain ⟨⟨o0, o1, o2, o3, o4⟩, -⟩ := blk5 (keepblk2 Z2 KRr)
              go_wp2_with fail
              refine (C3 _ Z2).mono ?_
              rintro e wv ⟨rfl, hbx⟩
              have Z3 := btrans Z2 hbx
              have hb2 := btrans hb Z3
              clear hbx Z1 C1 C2 C3
              go_wp2
              go_roundw
              case rel => exact ⟨j + 1, by rw [hpn.out], by go_num, by omega, hb2⟩
              case measure => simp [intOf]; omega
            ·
              rw [hP] at C1 ho
              rw [hQ] at C2 ho
              rw [Bool.true_and] at ho
              rw [ho] at C3
              have hpk := pick_yes (runsOnB X A B ks js) A j ho
              have hpn : (pick (runsOnB X A B ks js) A (j + 1)).length = (pick (runsOnB X A B ks js) A j).length + 1 := by rw [hpk]; simp
              clear hpk ho
              replace hpn := hide hpn
              go_wp2_with fail
              refine (C1 _ (Below.refl _ _)).mono ?_
              rintro e wp ⟨rfl, Z1⟩
              obtain ⟨⟨s5, s6, s7, s8, s9⟩, -⟩ := blk5 (keepblk2 Z1 KQr)
              obtain ⟨⟨o0, o1, o2, o3, o4⟩, -⟩ := blk5 (keepblk2 Z1 KRr)
              go_wp2_with fail
              refine (C2 _ Z1).mono ?_
              rintro e wq ⟨rfl, hbx⟩
              have Z2 := btrans Z1 hbx
              clear hbx s5 s6 s7 s8 s9 o0 o1 o2 o3 o4
              obtain ⟨⟨o0, o1, o2, o3, o4⟩, -⟩ := blk5 (keepblk2 Z2 KRr)
              go_wp2_with fail
              refine (C3 _ Z2).mono ?_
              rintro e wv ⟨rfl, hbx⟩
              have Z3 := btrans Z2 hbx
              have hb2 := btrans hb Z3
              clear hbx Z1 C1 C2 C3
              go_wp2
              go_roundw
              case rel => exact ⟨j + 1, by rw [hpn.out]; go_num, by go_num, by omega, hb2⟩
              case measure => simp [intOf]; omega
          · have hjB : (B + 1 - A).toNat = j := by omega
            have CRz := fun w' (h : Below wr.heap.size wr w') => c16 c1 c2 k1 k2 ks js X A B w' ((L1c.below hb).below h) ((L2c.below hb).below h) hn1 hn2
            rw [hrl.out, hjB] at CRz
            have CIl := fun w' (h : Below wr.heap.size wr w') => c17 c1 c2 k1 k2 ks js X A B (A - 1) w' ((L1c.below hb).below h) ((L2c.below hb).below h) hn1 hn2
            rw [hlo.out] at CIl
            have CIh := fun w' (h : Below wr.heap.size wr w') => c17 c1 c2 k1 k2 ks js X A B (B + 1) w' ((L1c.below hb).below h) ((L2c.below hb).below h) hn1 hn2
            rw [hhi.out] at CIh
            have HB9 := btrans HBc hb
            clear hrl hjB
            generalize (pick (runsOnB X A B ks js) A j).length = N at *
            go_wp2_with fail
            refine (CRz _ (Below.refl _ _)).mono ?_
            rintro e wp ⟨rfl, Z1⟩
            obtain ⟨⟨o0, o1, o2, o3, o4⟩, -⟩ := blk5 (keepblk2 Z1 KRr)
            go_wp2_with fail
            refine (CIl _ Z1).mono ?_
            rintro e wq ⟨rfl, hbx⟩
            have Z2 := btrans Z1 hbx
            clear hbx o0 o1 o2 o3 o4
            obtain ⟨⟨o0, o1, o2, o3, o4⟩, -⟩ := blk5 (keepblk2 Z2 KRr)
            go_wp2_with fail
            refine (CIh _ Z2).mono ?_
            rintro e wv ⟨rfl, hbx⟩
            have Z3 := btrans Z2 hbx
            clear hbx
            go_wp2
            go_ret
            exact ⟨rfl, btrans HB9 Z3⟩
end Go.Proofs.Ytmchdclieejohaa
