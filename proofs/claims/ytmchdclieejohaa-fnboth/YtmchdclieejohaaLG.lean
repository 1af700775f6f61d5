/- The walk of the law on patterns that are moved. -/
import Derived.Test.YtmchdclieejohaaLF
import Derived.Deep.CutRange
import Derived.Deep.RegionHeld3
namespace Go.Proofs.Ytmchdclieejohaa
open Go.RowKit

theorem keepblk2 {v w' : World} {b : Nat} {o : Obj} (h : Below v.heap.size v w') (hz : v.heap[b]? = some o) : w'.heap[b]? = some o := (h.block _ (lt_of_block hz)).trans hz
/-- What Later moved by n days, and back. -/
theorem later_facts {W F T : Int} {zs es : List Int} {n : Int} (hok : patOk W F T zs es = true) (hT : T ≤ 200) (h0 : 0 ≤ n) (h1 : n ≤ 40) :
    laterR W F T zs es n = ⟨turnW W n, F + n, T + n, moved n zs, moved n es⟩ ∧ laterR (turnW W n) (F + n) (T + n) (moved n zs) (moved n es) (-n) = ⟨W, F, T, zs, es⟩ := by
  have hb := patOk_bd hok
  constructor
  · refine later_yes ?_
    simp only [laterOk, hok, Bool.true_and, Bool.and_eq_true, decide_eq_true_eq]
    exact ⟨by simp [inB]; omega, by omega, by omega⟩
  · rw [later_yes]
    · rw [turnW_back hb.1.1 hb.1.2, moved_back, moved_back]
      congr 1 <;> omega
    · simp only [laterOk, patOk_later hok (n := n) (by omega) (by omega), Bool.true_and, Bool.and_eq_true, decide_eq_true_eq]
      exact ⟨by simp [inB]; omega, by omega, by omega⟩
theorem ansread_of {w : World} {R : PatV} {e : Ending} {w' : World} (h : AnsPat w R e w') : AnsRead w R e w' := by
  obtain ⟨x1, y1, x2, y2, h1, h2, h3, _, h5⟩ := h
  exact ⟨x1, y1, x2, y2, h1, ints_of_own h2, ints_of_own h3, h5⟩
theorem cLaterR (a1 a2 : Option Addr) (p1 p2 : Nat) (zs es : List Int) (W F T n : Int) (w : World) (hz : Ints w a1 zs) (he : Ints w a2 es) (hl1 : zs.length ≤ 1048576) (hl2 : es.length ≤ 1048576) :
    Calls Try.prog 20 #[.agg #[.int .i64 W, .int .i64 F, .int .i64 T, .slice a1 zs.length p1, .slice a2 es.length p2], .int .i64 n] w (AnsRead w (laterR W F T zs es n)) :=
  (c20 a1 a2 p1 p2 zs es W F T n w hz he hl1 hl2).mono fun _ _ h => ansread_of h

set_option maxRecDepth 20000 in
set_option maxHeartbeats 12800000 in
theorem walkLaterD (a : Option Addr) (cap : Nat) (bs : List Int) (w : World) (hz : Bytes w a bs) (hm : bs.length ≤ maxLen) :
    Calls Try.prog 4 #[.slice a bs.length cap] w fun e w' => e = .returned (.bool true) ∧ Below w.heap.size w w' := by
  by_cases hl2 : 1048576 < bs.length
  · go_enter Try.func4, Try.ntmps4
    go_wp2_with fail
    refine (cbig a cap bs.length _ hm).mono ?_
    rintro e w1 ⟨rfl, hw⟩
    subst w1
    rw [decide_eq_true hl2]
    go_wp2
    go_ret
    exact ⟨rfl, Below.refl _ _⟩
  have hl : bs.length ≤ 1048576 := by omega
  have hat5 := atZ_in hz 5
  have hat6 := atZ_in hz 6
  have C5 := fun w' hz' => cat a cap bs 5 w' hz' hl (by omega)
  have C6 := fun w' hz' => cat a cap bs 6 w' hz' hl (by omega)
  generalize atZ bs 5 = A5 at *
  generalize atZ bs 6 = A6 at *
  have C5' : ∀ w', Bytes w' a bs → Calls Try.prog 19 #[.slice a bs.length cap, .int .i64 5] w' fun e w'' => e = .returned (.int .i64 A5) ∧ w'' = w' := C5
  have C6' : ∀ w', Bytes w' a bs → Calls Try.prog 19 #[.slice a bs.length cap, .int .i64 6] w' fun e w'' => e = .returned (.int .i64 A6) ∧ w'' = w' := C6
  clear C5 C6
  obtain ⟨n, hn, n0, n1⟩ : ∃ n, A5.tmod 41 = n ∧ 0 ≤ n ∧ n ≤ 40 := ⟨_, rfl, by rw [Int.tmod_eq_emod_of_nonneg hat5.1]; omega, by rw [Int.tmod_eq_emod_of_nonneg hat5.1]; omega⟩
  obtain ⟨m, hm9, m0, m1⟩ : ∃ m, A6.tmod 9 = m ∧ 0 ≤ m ∧ m ≤ 8 := ⟨_, rfl, by rw [Int.tmod_eq_emod_of_nonneg hat6.1]; omega, by rw [Int.tmod_eq_emod_of_nonneg hat6.1]; omega⟩
  go_enter Try.func4, Try.ntmps4
  go_wp2_with fail
  refine (cbig a cap bs.length _ hm).mono ?_
  rintro e w1 ⟨rfl, hw⟩
  subst w1
  rw [decide_eq_false hl2]
  go_wp2_with fail
  refine (cDrawRP a cap bs _ hz hl).mono ?_
  rintro e w1 ⟨a1, p1, a2, p2, R, rfl, hok, h200, I1, I2, HB1⟩
  obtain ⟨W, F, T, zs, es⟩ := R
  dsimp only at *
  obtain ⟨hL1, hL2⟩ := later_facts hok h200 n0 n1
  have hb := patOk_bd hok
  have hl1 : zs.length ≤ 20 := by simp only [patOk, Bool.and_eq_true] at hok; exact dOk_len hok.2.2.2.1
  have hl2' : es.length ≤ 20 := by simp only [patOk, Bool.and_eq_true] at hok; exact dOk_len hok.2.2.2.2
  have hA := balloc w1 (.cells #[.int .i64 W, .int .i64 F, .int .i64 T, .slice a1 zs.length p1, .slice a2 es.length p2] 26)
  have K3 : (w1.alloc (.cells #[.int .i64 W, .int .i64 F, .int .i64 T, .slice a1 zs.length p1, .slice a2 es.length p2] 26)).heap[w1.heap.size]? = some (.cells #[.int .i64 W, .int .i64 F, .int .i64 T, .slice a1 zs.length p1, .slice a2 es.length p2] 26 (0, 0)) := new5 _ _ _ rfl
  have HB2 := btrans HB1 hA
  go_wp2_with fail
  refine (C5' _ (hz.below HB2)).mono ?_
  rintro e w2 ⟨rfl, hw⟩
  subst w2
  have CL := cLaterR a1 a2 p1 p2 zs es W F T n _ (I1.below hA) (I2.below hA) (by omega) (by omega)
  rw [hL1] at CL
  obtain ⟨⟨u0, u1, u2, u3, u4⟩, -⟩ := blk5 K3
  go_wp2_with fail
  refine CL.mono ?_
  rintro e w3 ⟨c1, q1, c2, q2, rfl, J1, J2, hb3⟩
  dsimp only at J1 J2
  clear u0 u1 u2 u3 u4 CL
  dsimp only
  have hokr := patOk_later hok (n := n) (by omega) (by omega)
  have hon : ∀ d, runsOnB (turnW W n) (F + n) (T + n) (moved n zs) (moved n es) (d + n) = runsOnB W F T zs es d := by
    intro d
    rw [ro_yes hok, ro_yes hokr, onB_later hb.1.1 hb.1.2]
  have hrun : (runList (turnW W n) (F + n) (T + n) (moved n zs) (moved n es)).length = (runList W F T zs es).length := by rw [runList_later hok (by omega) (by omega), moved_len]
  have hnx := next_cases hok (n := n) (by omega) (by omega) (F + m)
  have hlu := moved_len n zs
  have hlv := moved_len n es
  have hbF := hb.2.1
  clear hb hL1
  generalize turnW W n = V at *
  generalize hG : F + n = G at *
  generalize hH : T + n = H at *
  generalize moved n zs = us at *
  generalize moved n es = vs at *
  replace hG := hide hG
  replace hH := hide hH
  replace hon := hide hon
  replace hrun := hide hrun
  replace hnx := hide hnx
  replace hL2 := hide hL2
  replace hn := hide hn
  have hus : us.length ≤ 20 := by omega
  have hvs : vs.length ≤ 20 := by omega
  replace hlu := hide hlu
  replace hlv := hide hlv
  have hA5 := balloc w3 (.cells #[.int .i64 V, .int .i64 G, .int .i64 H, .slice c1 us.length q1, .slice c2 vs.length q2] 26)
  have K5 : (w3.alloc (.cells #[.int .i64 V, .int .i64 G, .int .i64 H, .slice c1 us.length q1, .slice c2 vs.length q2] 26)).heap[w3.heap.size]? = some (.cells #[.int .i64 V, .int .i64 G, .int .i64 H, .slice c1 us.length q1, .slice c2 vs.length q2] 26 (0, 0)) := new5 _ _ _ rfl
  have K3' := old5 (.cells #[.int .i64 V, .int .i64 G, .int .i64 H, .slice c1 us.length q1, .slice c2 vs.length q2] 26) ((hb3.block _ (lt_of_block K3)).trans K3)
  have HBB := btrans (btrans HB2 hb3) hA5
  have I1' := (((I1.below hA).below hb3).below hA5)
  have I2' := (((I2.below hA).below hb3).below hA5)
  have J1' := J1.below hA5
  have J2' := J2.below hA5
  have hzB := hz.below HBB
  clear hA hb3 hA5 HB1 HB2 I1 I2 J1 J2 K3 hz
  go_upto_region 6 with fail
  generalize (w3.alloc (.cells #[.int .i64 V, .int .i64 G, .int .i64 H, .slice c1 us.length q1, .slice c2 vs.length q2] 26)) = wB at *
  generalize w3.heap.size = b5 at *
  generalize w1.heap.size = b3 at *
  have K3 := K3'
  clear K3'
  have COp := fun w' (h : Below wB.heap.size wB w') => c21 a1 a2 p1 p2 zs es W F T w' (I1'.below h) (I2'.below h) (by omega) (by omega)
  rw [hok] at COp
  have COr := fun w' (h : Below wB.heap.size wB w') => c21 c1 c2 q1 q2 us vs V G H w' (J1'.below h) (J2'.below h) (by omega) (by omega)
  rw [hokr] at COr
  have CRp := fun w' (h : Below wB.heap.size wB w') => c16 a1 a2 p1 p2 zs es W F T w' (I1'.below h) (I2'.below h) (by omega) (by omega)
  have CRr := fun w' (h : Below wB.heap.size wB w') => c16 c1 c2 q1 q2 us vs V G H w' (J1'.below h) (J2'.below h) (by omega) (by omega)
  rw [hrun.out] at CRr
  have CLb : ∀ w', Below wB.heap.size wB w' → Calls Try.prog 20 #[.agg #[.int .i64 V, .int .i64 G, .int .i64 H, .slice c1 us.length q1, .slice c2 vs.length q2], .int .i64 (-n)] w' fun e w'' => ∃ e1 f1 e2 f2, e = .returned (.agg #[.int .i64 W, .int .i64 F, .int .i64 T, .slice e1 zs.length f1, .slice e2 es.length f2]) ∧ Ints w'' e1 zs ∧ Ints w'' e2 es ∧ Below w'.heap.size w' w'' := fun w' h => by
    have C := cLaterR c1 c2 q1 q2 us vs V G H (-n) w' (J1'.below h) (J2'.below h) (by omega) (by omega)
    rw [hL2.out] at C
    exact C
  have CSm := fun w' (h : Below wB.heap.size wB w') e1 f1 e2 f2 (h1 : Ints w' e1 zs) (h2 : Ints w' e2 es) => cSamePat e1 e2 a1 a2 f1 f2 p1 p2 zs es W F T w' h1 h2 (I1'.below h) (I2'.below h) (by omega) (by omega)
  generalize hRN : (runList W F T zs es).length = RN at *
  replace hRN := hide hRN
  have hneg : IntKind.i64.wrap (-n) = -n := wrap_in _ (by omega) (by omega)
  obtain ⟨⟨u0, u1, u2, u3, u4⟩, -⟩ := blk5 K3
  obtain ⟨⟨u5, u6, u7, u8, u9⟩, -⟩ := blk5 K5
  go_cut [42] from 19 to 42 (fun sv wc => sv = .bool false ∧ Below wB.heap.size wB wc)
  case first =>
    go_region_held3 (fun w' => w'.cell? ⟨b3, 0, none⟩ = some (.int .i64 W) ∧ w'.cell? ⟨b3, 1, none⟩ = some (.int .i64 F) ∧ w'.cell? ⟨b3, 2, none⟩ = some (.int .i64 T) ∧ w'.cell? ⟨b3, 3, none⟩ = some (.slice a1 zs.length p1) ∧ w'.cell? ⟨b3, 4, none⟩ = some (.slice a2 es.length p2) ∧ w'.cell? ⟨b5, 0, none⟩ = some (.int .i64 V) ∧ w'.cell? ⟨b5, 1, none⟩ = some (.int .i64 G) ∧ w'.cell? ⟨b5, 2, none⟩ = some (.int .i64 H) ∧ w'.cell? ⟨b5, 3, none⟩ = some (.slice c1 us.length q1) ∧ w'.cell? ⟨b5, 4, none⟩ = some (.slice c2 vs.length q2)) (go_keep) (first
      | (go_at_call 16; with_reducible refine (CRp _ B5r).mono ?_; rintro e wx_B6 ⟨rfl, hbx⟩; have B6 := btrans B5r hbx; clear hbx; obtain ⟨⟨s0, s1, s2, s3, s4⟩, -⟩ := blk5 (keepblk2 B6 K3); obtain ⟨⟨s5, s6, s7, s8, s9⟩, -⟩ := blk5 (keepblk2 B6 K5))
      | (go_at_call 16; with_reducible refine (CRr _ B5p).mono ?_; rintro e wx_B6 ⟨rfl, hbx⟩; have B6 := btrans B5p hbx; clear hbx; obtain ⟨⟨s0, s1, s2, s3, s4⟩, -⟩ := blk5 (keepblk2 B6 K3); obtain ⟨⟨s5, s6, s7, s8, s9⟩, -⟩ := blk5 (keepblk2 B6 K5))
      | (go_at_call 16; with_reducible refine (CRp _ B4).mono ?_; rintro e wx_B5p ⟨rfl, hbx⟩; have B5p := btrans B4 hbx; clear hbx; obtain ⟨⟨s0, s1, s2, s3, s4⟩, -⟩ := blk5 (keepblk2 B5p K3); obtain ⟨⟨s5, s6, s7, s8, s9⟩, -⟩ := blk5 (keepblk2 B5p K5))
      | (go_at_call 16; with_reducible refine (CRr _ B4).mono ?_; rintro e wx_B5r ⟨rfl, hbx⟩; have B5r := btrans B4 hbx; clear hbx; obtain ⟨⟨s0, s1, s2, s3, s4⟩, -⟩ := blk5 (keepblk2 B5r K3); obtain ⟨⟨s5, s6, s7, s8, s9⟩, -⟩ := blk5 (keepblk2 B5r K5))
      | (go_at_call 14; with_reducible refine (CSm _ B3 _ _ _ _ J1 J2).mono ?_; rintro e wx_B4 ⟨rfl, hbx⟩; have B4 := btrans B3 hbx; clear hbx; obtain ⟨⟨s0, s1, s2, s3, s4⟩, -⟩ := blk5 (keepblk2 B4 K3); obtain ⟨⟨s5, s6, s7, s8, s9⟩, -⟩ := blk5 (keepblk2 B4 K5))
      | (go_at_call 20; with_reducible refine (CLb _ B2).mono ?_; rintro e wx_B3 ⟨e1, f1, e2, f2, rfl, J1, J2, hbx⟩; have B3 := btrans B2 hbx; clear hbx; obtain ⟨⟨s0, s1, s2, s3, s4⟩, -⟩ := blk5 (keepblk2 B3 K3); obtain ⟨⟨s5, s6, s7, s8, s9⟩, -⟩ := blk5 (keepblk2 B3 K5))
      | (go_at_call 21; with_reducible refine (COr _ B1).mono ?_; rintro e wx_B2 ⟨rfl, hbx⟩; have B2 := btrans B1 hbx; clear hbx; obtain ⟨⟨s0, s1, s2, s3, s4⟩, -⟩ := blk5 (keepblk2 B2 K3); obtain ⟨⟨s5, s6, s7, s8, s9⟩, -⟩ := blk5 (keepblk2 B2 K5))
      | (go_at_call 21; with_reducible refine (COp _ (Below.refl _ _).drew).mono ?_; rintro e wx_B1 ⟨rfl, hbx⟩; have B1 := undrew hbx; clear hbx; obtain ⟨⟨s0, s1, s2, s3, s4⟩, -⟩ := blk5 (keepblk2 B1 K3); obtain ⟨⟨s5, s6, s7, s8, s9⟩, -⟩ := blk5 (keepblk2 B1 K5)))
    all_goals (go_wp2_with fail; go_meet; exact ⟨rfl, B6⟩)
  case rest =>
    obtain ⟨rfl, hbc⟩ := hcut
    clear COp COr CRp CRr CLb CSm u0 u1 u2 u3 u4 u5 u6 u7 u8 u9 hneg hL2 hrun hRN
    have K3c := keepblk2 hbc K3
    have K5c := keepblk2 hbc K5
    have HBc := btrans HBB hbc
    have I1c := I1'.below hbc
    have I2c := I2'.below hbc
    have J1c := J1'.below hbc
    have J2c := J2'.below hbc
    have hzc := hzB.below hbc
    clear hbc K3 K5 HBB I1' I2' J1' J2' hzB
    obtain ⟨⟨h0, h1, h2, h3, h4⟩, -⟩ := blk5 K3c
    go_wp2
    go_loopw [6] (fun i wr => ∃ d : Int, i = .int .i64 d ∧ F - 1 ≤ d ∧ d ≤ T + 2 ∧ Below wc.heap.size wc wr) (fun i _ => (T + 2 - intOf i).toNat)
    case atStart => exact ⟨F - 1, by go_num, by omega, by omega, Below.refl _ _⟩
    case round =>
      obtain ⟨d, rfl, d0, d1, hb⟩ := hrel
      clear h0 h1 h2 h3 h4
      have K3 := keepblk2 hb K3c
      have K5 := keepblk2 hb K5c
      obtain ⟨⟨t0, t1, t2, t3, t4⟩, -⟩ := blk5 K3
      obtain ⟨⟨t5, t6, t7, t8, t9⟩, -⟩ := blk5 K5
      by_cases hlt : d ≤ T + 1
      · have CI1 := fun w' (h : Below wr.heap.size wr w') => c17 a1 a2 p1 p2 zs es W F T d w' ((I1c.below hb).below h) ((I2c.below hb).below h) (by omega) (by omega)
        have CI2 := fun w' (h : Below wr.heap.size wr w') => c17 c1 c2 q1 q2 us vs V G H (d + n) w' ((J1c.below hb).below h) ((J2c.below hb).below h) (by omega) (by omega)
        have CS1 := fun w' (h : Below wr.heap.size wr w') => c22 a1 a2 p1 p2 zs es W F T d w' ((I1c.below hb).below h) ((I2c.below hb).below h) (by omega) (by omega)
        rw [hon.out d] at CI2
        have hdw : IntKind.i64.wrap (d + n) = d + n := wrap_in _ (by omega) (by omega)
        generalize runsOnB W F T zs es d = b at *
        go_upto_region 11 with fail
        go_cut [70] from 53 to 70 (fun sv wx => sv = .bool false ∧ Below wr.heap.size wr wx)
        case first =>
          go_region_held3 (fun w' => w'.cell? ⟨b3, 0, none⟩ = some (.int .i64 W) ∧ w'.cell? ⟨b3, 1, none⟩ = some (.int .i64 F) ∧ w'.cell? ⟨b3, 2, none⟩ = some (.int .i64 T) ∧ w'.cell? ⟨b3, 3, none⟩ = some (.slice a1 zs.length p1) ∧ w'.cell? ⟨b3, 4, none⟩ = some (.slice a2 es.length p2) ∧ w'.cell? ⟨b5, 0, none⟩ = some (.int .i64 V) ∧ w'.cell? ⟨b5, 1, none⟩ = some (.int .i64 G) ∧ w'.cell? ⟨b5, 2, none⟩ = some (.int .i64 H) ∧ w'.cell? ⟨b5, 3, none⟩ = some (.slice c1 us.length q1) ∧ w'.cell? ⟨b5, 4, none⟩ = some (.slice c2 vs.length q2)) (go_keep) (first
            | (go_at_call 22; with_reducible refine (CS1 _ S1).mono ?_; rintro e wx_Z ⟨rfl, hbx⟩; have Z := btrans S1 hbx; clear hbx; obtain ⟨⟨s0, s1, s2, s3, s4⟩, -⟩ := blk5 (keepblk2 Z K3); obtain ⟨⟨s5, s6, s7, s8, s9⟩, -⟩ := blk5 (keepblk2 Z K5))
            | (go_at_call 17; with_reducible refine (CI1 _ T1).mono ?_; rintro e wx_Z ⟨rfl, hbx⟩; have Z := btrans T1 hbx; clear hbx; obtain ⟨⟨s0, s1, s2, s3, s4⟩, -⟩ := blk5 (keepblk2 Z K3); obtain ⟨⟨s5, s6, s7, s8, s9⟩, -⟩ := blk5 (keepblk2 Z K5))
            | (go_at_call 22; with_reducible refine (CS1 _ Q).mono ?_; rintro e wx_T1 ⟨rfl, hbx⟩; have T1 := btrans Q hbx; clear hbx; obtain ⟨⟨s0, s1, s2, s3, s4⟩, -⟩ := blk5 (keepblk2 T1 K3); obtain ⟨⟨s5, s6, s7, s8, s9⟩, -⟩ := blk5 (keepblk2 T1 K5))
            | (go_at_call 17; with_reducible refine (CI1 _ Q).mono ?_; rintro e wx_S1 ⟨rfl, hbx⟩; have S1 := btrans Q hbx; clear hbx; obtain ⟨⟨s0, s1, s2, s3, s4⟩, -⟩ := blk5 (keepblk2 S1 K3); obtain ⟨⟨s5, s6, s7, s8, s9⟩, -⟩ := blk5 (keepblk2 S1 K5))
            | (go_at_call 17; with_reducible refine (CI2 _ P1).mono ?_; rintro e wx_Q ⟨rfl, hbx⟩; have Q := btrans P1 hbx; clear hbx; obtain ⟨⟨s0, s1, s2, s3, s4⟩, -⟩ := blk5 (keepblk2 Q K3); obtain ⟨⟨s5, s6, s7, s8, s9⟩, -⟩ := blk5 (keepblk2 Q K5))
            | (go_at_call 17; with_reducible refine (CI1 _ R1).mono ?_; rintro e wx_Q ⟨rfl, hbx⟩; have Q := btrans R1 hbx; clear hbx; obtain ⟨⟨s0, s1, s2, s3, s4⟩, -⟩ := blk5 (keepblk2 Q K3); obtain ⟨⟨s5, s6, s7, s8, s9⟩, -⟩ := blk5 (keepblk2 Q K5))
            | (go_at_call 17; with_reducible refine (CI1 _ (Below.refl _ _).drew).mono ?_; rintro e wx_P1 ⟨rfl, hbx⟩; have P1 := undrew hbx; clear hbx; obtain ⟨⟨s0, s1, s2, s3, s4⟩, -⟩ := blk5 (keepblk2 P1 K3); obtain ⟨⟨s5, s6, s7, s8, s9⟩, -⟩ := blk5 (keepblk2 P1 K5))
            | (go_at_call 17; with_reducible refine (CI2 _ (Below.refl _ _).drew).mono ?_; rintro e wx_R1 ⟨rfl, hbx⟩; have R1 := undrew hbx; clear hbx; obtain ⟨⟨s0, s1, s2, s3, s4⟩, -⟩ := blk5 (keepblk2 R1 K3); obtain ⟨⟨s5, s6, s7, s8, s9⟩, -⟩ := blk5 (keepblk2 R1 K5)))
          all_goals (go_wp2_with fail; go_meet; exact ⟨rfl, Z⟩)
        case rest =>
          obtain ⟨rfl, hbx⟩ := hcut
          have hb2 := btrans hb hbx
          clear CI1 CI2 CS1 hbx t0 t1 t2 t3 t4 t5 t6 t7 t8 t9 K3 K5
          go_wp2
          go_roundw
          case rel => exact ⟨d + 1, by go_num, by omega, by omega, hb2⟩
          case measure => simp [intOf]; omega
      · have HB9 := btrans HBc hb
        have C6z := fun w' (h : Below wr.heap.size wr w') => C6' w' ((hzc.below hb).below h)
        have CNp := fun w' (h : Below wr.heap.size wr w') => c23 a1 a2 p1 p2 zs es W F T (F + m) w' ((I1c.below hb).below h) ((I2c.below hb).below h) (by omega) (by omega)
        have CNr := fun w' (h : Below wr.heap.size wr w') => c23 c1 c2 q1 q2 us vs V G H (F + m + n) w' ((J1c.below hb).below h) ((J2c.below hb).below h) (by omega) (by omega)
        have CIy := fun y w' (h : Below wr.heap.size wr w') => c17 a1 a2 p1 p2 zs es W F T y w' ((I1c.below hb).below h) ((I2c.below hb).below h) (by omega) (by omega)
        clear hon hzc I1c I2c J1c J2c
        go_wp2
        go_quiet (first | (go_at_call 19; refine Calls.quiet_of_same (C6z _ (bdraw (Below.refl _ _) _))))
        have hdw : IntKind.i64.wrap (F + m + n) = F + m + n := wrap_in _ (by omega) (by omega)
        rcases hnx.out with ⟨e1, e2⟩ | ⟨y, e1, y1, y2, y3, e3, e4⟩
        · rw [e1] at CNp
          rw [e2] at CNr
          clear e1 e2 CIy C6z hnx
          go_wp2_with fail
          refine (CNp _ (bdraw (Below.refl _ _) _)).mono ?_
          rintro e wp ⟨rfl, hbp⟩
          have Z := btrans (bdraw (Below.refl _ _) _) hbp
          obtain ⟨⟨s0, s1, s2, s3, s4⟩, -⟩ := blk5 (keepblk2 Z K3)
          obtain ⟨⟨s5, s6, s7, s8, s9⟩, -⟩ := blk5 (keepblk2 Z K5)
          clear t0 t1 t2 t3 t4 t5 t6 t7 t8 t9 hbp
          go_wp2_with fail
          refine (CNr _ Z).mono ?_
          rintro e wq ⟨rfl, hbq⟩
          have Z' := btrans Z hbq
          clear hbq
          go_wp2
          go_ret
          exact ⟨rfl, btrans HB9 Z'⟩
        · rw [e1] at CNp
          rw [e4] at CNr
          replace CIy := CIy y
          rw [e3] at CIy
          clear e1 e3 e4 C6z hnx
          have hyw : IntKind.i64.wrap (y + n) = y + n := wrap_in _ (by omega) (by omega)
          go_wp2_with fail
          refine (CNp _ (bdraw (Below.refl _ _) _)).mono ?_
          rintro e wp ⟨rfl, hbp⟩
          have Z := btrans (bdraw (Below.refl _ _) _) hbp
          obtain ⟨⟨s0, s1, s2, s3, s4⟩, -⟩ := blk5 (keepblk2 Z K3)
          obtain ⟨⟨s5, s6, s7, s8, s9⟩, -⟩ := blk5 (keepblk2 Z K5)
          clear t0 t1 t2 t3 t4 t5 t6 t7 t8 t9 hbp
          go_wp2_with fail
          refine (CIy _ Z).mono ?_
          rintro e wq ⟨rfl, hbq⟩
          have Z1 := btrans Z hbq
          clear hbq s0 s1 s2 s3 s4 s5 s6 s7 s8 s9
          obtain ⟨⟨s5, s6, s7, s8, s9⟩, -⟩ := blk5 (keepblk2 Z1 K5)
          go_wp2_with fail
          refine (CNr _ Z1).mono ?_
          rintro e wv ⟨rfl, hbv⟩
          have Z2 := btrans Z1 hbv
          clear hbv
          go_wp2
          go_ret
          exact ⟨by simp, btrans HB9 Z2⟩
end Go.Proofs.Ytmchdclieejohaa
