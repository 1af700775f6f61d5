/- The first clash among the ranked uses of one edge. -/
import Derived.Test.YtbghfihlpbcomaaKF
import Derived.WalkMore
namespace Go.Proofs.Ytbghfihlpbcomaa
open Go.RowKit Go.Lib
def AnsBest (w : World) (rs : List PlV) (h bi bj : Int) (e : Ending) (w' : World) : Prop := ∃ ri rj, e = .returned (.agg #[.int .i64 ri, .int .i64 rj]) ∧ BestOf rs h bi bj ri rj (fun _ _ => True) ∧ Below w.heap.size w w'
theorem set2 {w : World} {b : Nat} {x0 x1 : Value} {t : TypeId} (y0 y1 : Value) (h : w.heap[b]? = some (.cells #[x0, x1] t (0, 0))) :
    ((w.setCell ⟨b, 0, none⟩ y0).setCell ⟨b, 1, none⟩ y1).heap[b]? = some (.cells #[y0, y1] t (0, 0)) ∧ w.grownBy ((w.setCell ⟨b, 0, none⟩ y0).setCell ⟨b, 1, none⟩ y1) (some b) := by
  have h1 : (w.setCell ⟨b, 0, none⟩ y0).heap[b]? = some (.cells #[y0, x1] t (0, 0)) := by
    rw [setCell_eq_setRow w b 0 _ _ _ y0 h]
    exact setRow_heap w b _ _ _ _ h
  refine ⟨?_, gset (gset (World.grownBy.refl _ _) _ _) _ _⟩
  rw [setCell_eq_setRow _ b 1 _ _ _ y1 h1]
  exact setRow_heap _ b _ _ _ _ h1
theorem far_blk' {w w' : World} {r : Nat} (hgr : w.grownBy w' (some r)) {b : Nat} {o : Obj} (h : w.heap[b]? = some o) (hne : b ≠ r) : w'.heap[b]? = some o :=
  (hgr.block b (lt_of_block h) (fun e => hne (by simpa using e))).trans h
theorem blk6 {w : World} {g : Nat} {c0 c1 c2 c3 c4 c5 : Value} {t : TypeId} (h : w.heap[g]? = some (.cells #[c0, c1, c2, c3, c4, c5] t (0, 0))) :
    w.cell? ⟨g, 0, none⟩ = some c0 ∧ w.cell? ⟨g, 1, none⟩ = some c1 ∧ w.cell? ⟨g, 2, none⟩ = some c2 ∧ w.cell? ⟨g, 3, none⟩ = some c3 ∧ w.cell? ⟨g, 4, none⟩ = some c4 ∧ w.cell? ⟨g, 5, none⟩ = some c5 :=
  ⟨by simp [World.cell?, h], by simp [World.cell?, h], by simp [World.cell?, h], by simp [World.cell?, h], by simp [World.cell?, h], by simp [World.cell?, h]⟩

set_option maxRecDepth 20000 in
set_option maxHeartbeats 12800000 in
theorem cFirstAmong (a : Option Addr) (cap : Nat) (rs : List PlV) (h bi bj : Int) (w : World) (hz : Pls w a rs) (hl : rs.length ≤ 1000) (hcap : rs.length ≤ cap) (hr : Ranked rs) (hB : ∀ p, p < rs.length → rideB (plA rs p).u = true) (hh : inB h 0 60 = true) :
    Calls Try.prog 50 #[.slice a rs.length cap, .int .i64 h, .agg #[.int .i64 bi, .int .i64 bj]] w (AnsBest w rs h bi bj) := by
  obtain ⟨hh0, hh1⟩ := inB_true hh
  replace hh := hide hh
  replace hr := hide hr
  replace hB := hide hB
  have hW := below2 w (.cells #[.int .i64 bi, .int .i64 bj] 83) (.cells #[.int .i64 0, .int .i64 0] 83)
  obtain ⟨B0, B1⟩ := blocks2 w (.cells #[.int .i64 bi, .int .i64 bj] 83) (.cells #[.int .i64 0, .int .i64 0] 83)
  go_enter Try.func50, Try.ntmps50
  go_wp2_with fail
  go_step3
  go_wp2_with fail
  go_step3
  go_wp2_with fail
  go_loopw [14] (fun i wr => ∃ (k : Nat) (ri rj : Int), k ≤ rs.length ∧ i = .int .i64 k ∧ Hid (BestOf rs h bi bj ri rj (fun p _ => p < k)) ∧ wr.heap[w.heap.size]? = some (.cells #[.int .i64 ri, .int .i64 rj] 83) ∧ wr.heap[w.heap.size + 1]? = some (.cells #[.int .i64 0, .int .i64 0] 83) ∧ Below w.heap.size w wr) (fun i _ => rs.length - (intOf i).toNat)
  case atStart => exact ⟨0, bi, bj, Nat.zero_le _, rfl, hide (BestOf.start _ _ _ _ _ (fun p q => by omega)), B0, B1, hW⟩
  case round =>
    obtain ⟨k, ri, rj, hk, rfl, hQ, hX, hY, hb⟩ := hrel
    clear B0 B1 hW
    by_cases hlt : k < rs.length
    · have hlt' : (k : Int) < (rs.length : Int) := by omega
      rcases hz with hz | ⟨b, off, rfl, hc⟩
      · simp [hz] at hlt
      have hc2 := hc
      obtain ⟨p0, p1, p2, p3, p4, p5⟩ := (hc k hlt).parts
      replace p0 := ble hb p0
      replace p1 := ble hb p1
      replace p2 := ble hb p2
      replace p3 := ble hb p3
      replace p4 := ble hb p4
      replace p5 := ble hb p5
      have hx : Hid (plA rs k = rs.getD k PlV.zero) := rfl
      have hxB := hB.out k hlt
      rw [hx.out] at hxB
      generalize rs.getD k PlV.zero = x at *
      obtain ⟨⟨xe, xd, xf, xt, xp⟩, xk⟩ := x
      obtain ⟨-, -, -, x1, x2, x3⟩ := rideB_iff.1 hxB
      dsimp only at *
      have hwr : w.heap.size < wr.heap.size := lt_of_block hX
      have hbA := balloc wr (.cells #[.int .i64 xe, .int .i64 xd, .int .i64 xf, .int .i64 xt, .int .i64 xp, .int .i64 xk] 120)
      have hA := one_block wr (.cells #[.int .i64 xe, .int .i64 xd, .int .i64 xf, .int .i64 xt, .int .i64 xp, .int .i64 xk] 120)
      replace hX := blk_keep hbA hX
      replace hY := blk_keep hbA hY
      replace hb := btrans hb hbA
      have hw1 : IntKind.i64.wrap ((k : Int) + 1) = (k : Int) + 1 := wrap_in _ (by omega) (by omega)
      have hk0 : (0 : Int) ≤ (k : Int) + 1 := by omega
      have hk1 : (k : Int) + 1 ≤ (rs.length : Int) := by omega
      have hk2 : ((k : Int) + 1).toNat = k + 1 := by omega
      have hwx : IntKind.i64.wrap (xt + h) = xt + h := wrap_in _ (by omega) (by omega)
      clear hbA hc
      obtain ⟨wA, hwA⟩ : ∃ wA, wA = wr.heap.size := ⟨_, rfl⟩
      rw [← hwA] at hA
      by_cases hce : cap = k + 1
      · have hke : rs.length = k + 1 := by omega
        have hQ2 := hide (hQ.out.mono (T := fun p _ => p < k + 1) (fun p q g _ => by have h1 := g.1; have h2 := g.2.1; omega))
        have hz0 : rs.length - (k + 1) = 0 := by omega
        clear hQ
        go_wp2_with fail
        go_loop [24] (fun i => i = .int .i64 0) (fun _ => 0)
        case atStart => rfl
        case round =>
          cases hrel
          go_wp2
          go_roundw
          case rel => exact ⟨k + 1, ri, rj, by omega, by go_num, hQ2, hX, hY, hb⟩
          case measure => simp [intOf]; omega
      go_wp2_with fail
      rw [← hwA]
      have hN : Hid (wr.heap.size = wA) := hide hwA.symm
      have hwlt : Hid (w.heap.size < wA) := hide (by have := hwr; omega)
      generalize wr.alloc (.cells #[.int .i64 xe, .int .i64 xd, .int .i64 xf, .int .i64 xt, .int .i64 xp, .int .i64 xk] 120) = wo at *
      clear hwA
      go_loopw [24] (fun i wx => ∃ (j : Nat) (ri rj : Int), j ≤ rs.length - (k + 1) ∧ i = .int .i64 j ∧ Hid (BestOf rs h bi bj ri rj (fun p q => p < k ∨ (p = k ∧ q < k + 1 + j))) ∧ wx.heap[w.heap.size]? = some (.cells #[.int .i64 ri, .int .i64 rj] 83) ∧ wx.heap[w.heap.size + 1]? = some (.cells #[.int .i64 0, .int .i64 0] 83) ∧ wx.heap[wA]? = some (.cells #[.int .i64 xe, .int .i64 xd, .int .i64 xf, .int .i64 xt, .int .i64 xp, .int .i64 xk] 120) ∧ Below w.heap.size w wx) (fun i _ => rs.length - (k + 1) - (intOf i).toNat)
      case atStart => exact ⟨0, ri, rj, Nat.zero_le _, rfl, hide (hQ.out.mono (fun p q g hp => by have := g.1; omega)), hX, hY, hA, hb⟩
      case round =>
        obtain ⟨j, ri', rj', hj, rfl, hP, hX', hY', hA', hb'⟩ := hrel
        clear hX hY hA hb hQ p0 p1 p2 p3 p4 p5
        by_cases hjl : j < rs.length - (k + 1)
        · have hjl' : (j : Int) < ((rs.length - (k + 1) : Nat) : Int) := by omega
          have hq : k + 1 + j < rs.length := by omega
          have hw2 : IntKind.i64.wrap ((j : Int) + 1) = (j : Int) + 1 := wrap_in _ (by omega) (by omega)
          have hq6 := hc2 (k + 1 + j) hq
          rw [show off + (k + 1 + j) * 6 = off + (k + 1) * 6 + j * 6 by omega] at hq6
          obtain ⟨q0, q1, q2, q3, q4, q5⟩ := (hq6.below hb').parts
          have hy : Hid (plA rs (k + 1 + j) = rs.getD (k + 1 + j) PlV.zero) := rfl
          clear hq6
          generalize rs.getD (k + 1 + j) PlV.zero = y at *
          obtain ⟨⟨ye, yd, yf, yt, yp⟩, yk⟩ := y
          dsimp only at *
          have hbB := balloc wr (.cells #[.int .i64 ye, .int .i64 yd, .int .i64 yf, .int .i64 yt, .int .i64 yp, .int .i64 yk] 120)
          have hBk := one_block wr (.cells #[.int .i64 ye, .int .i64 yd, .int .i64 yf, .int .i64 yt, .int .i64 yp, .int .i64 yk] 120)
          replace hX' := blk_keep hbB hX'
          replace hY' := blk_keep hbB hY'
          replace hA' := blk_keep hbB hA'
          replace hb' := btrans hb' hbB
          have hTop : Hid (∀ (T : Nat → Nat → Prop), (∀ p q, T p q → (p < k ∨ (p = k ∧ q < k + 1 + j)) ∨ (p = k ∧ q = k + 1 + j)) ↔ ∀ p q, T p q → (p < k ∨ (p = k ∧ q < k + 1 + (j + 1)))) := hide (fun T => ⟨fun g p q t => by have := g p q t; omega, fun g p q t => by have := g p q t; omega⟩)
          obtain ⟨a0, a1, a2, a3, a4, a5⟩ := blk6 hA'
          clear hbB
          by_cases hgo : xt + h ≤ yf
          · have hQ2 := hide (hP.out.mono (T := fun p _ => p < k + 1) (fun p q g hp => by
              by_cases e : p < k
              · exact .inl e
              · have e2 : p = k := by omega
                refine .inr ⟨e2, ?_⟩
                by_cases hqq : q < k + 1 + j
                · exact hqq
                · rw [e2] at g
                  have hle : (plA rs k).u.t + h ≤ (plA rs (k + 1 + j)).u.f := by rw [hx.out, hy.out]; exact hgo
                  exact absurd g (none_behind hr.out hle (by omega))))
            obtain ⟨b0, b1, b2, b3, b4, b5⟩ := blk6 hBk
            clear hP hTop
            go_wp2
            go_roundw
            case rel => exact ⟨k + 1, ri', rj', by omega, by go_num, hQ2, hX', hY', hb'⟩
            case measure => simp [intOf]; omega
          by_cases hpp : xp = yp
          · have hP2 := hide (hP.out.keep (i := k) (j := k + 1 + j) (fun g => absurd (by rw [hx.out, hy.out]; exact hpp) g.2.2.1) ((hTop.out (fun p q => p < k ∨ (p = k ∧ q < k + 1 + (j + 1)))).2 (fun p q t => t)))
            obtain ⟨b0, b1, b2, b3, b4, b5⟩ := blk6 hBk
            have hpe : (xp == yp) = true := by simp [hpp]
            clear hP hTop
            go_wp2
            go_roundw
            case rel => exact ⟨j + 1, ri', rj', by omega, by go_num, hP2, hX', hY', hA', hb'⟩
            case measure => simp [intOf]; omega
          have hpe : (xp == yp) = false := by simp [hpp]
          have CC := fun W => cClashI ⟨xe, xd, xf, xt, xp⟩ ⟨ye, yd, yf, yt, yp⟩ h W
          unfold RideV.val at CC
          dsimp only at CC
          obtain ⟨b0, b1, b2, b3, b4, b5⟩ := blk6 hBk
          cases hcl : clashB ⟨xe, xd, xf, xt, xp⟩ ⟨ye, yd, yf, yt, yp⟩ h
          · have hP2 := hide (hP.out.keep (i := k) (j := k + 1 + j) (fun g => by have := g.2.2.2; rw [hx.out, hy.out, hcl] at this; cases this) ((hTop.out (fun p q => p < k ∨ (p = k ∧ q < k + 1 + (j + 1)))).2 (fun p q t => t)))
            rw [hcl] at CC
            clear hP hTop hcl
            go_wp2_with fail
            refine (CC _).mono ?_
            rintro e w2 ⟨rfl, hb2⟩
            replace hX' := blk_keep hb2 hX'
            replace hY' := blk_keep hb2 hY'
            replace hA' := blk_keep hb2 hA'
            replace hb' := btrans hb' hb2
            clear hb2 a0 a1 a2 a3 a4 a5 b0 b1 b2 b3 b4 b5
            go_wp2
            go_roundw
            case rel => exact ⟨j + 1, ri', rj', by omega, by go_num, hP2, hX', hY', hA', hb'⟩
            case measure => simp [intOf]; omega
          have hit : PHit rs h k (k + 1 + j) := ⟨by omega, hq, by rw [hx.out, hy.out]; exact hpp, by rw [hx.out, hy.out]; exact hcl⟩
          have hlo : loK rs k (k + 1 + j) = min xk yk := by unfold loK; rw [hx.out, hy.out]
          have hhi : hiK rs k (k + 1 + j) = max xk yk := by unfold hiK; rw [hx.out, hy.out]
          have hTk := hide (fun g => hP.out.take (T := fun p q => p < k ∨ (p = k ∧ q < k + 1 + (j + 1))) hit g ((hTop.out _).2 (fun p q t => t)))
          have hKp := hide (fun g => hP.out.keep (T := fun p q => p < k ∨ (p = k ∧ q < k + 1 + (j + 1))) (i := k) (j := k + 1 + j) (fun _ => g) ((hTop.out _).2 (fun p q t => t)))
          rw [hlo, hhi] at hTk hKp
          rw [hcl] at CC
          replace hit := hide hit
          clear hP hTop hcl hlo hhi
          go_wp2_with fail
          refine (CC _).mono ?_
          rintro e w2 ⟨rfl, hb2⟩
          replace hX' := blk_keep hb2 hX'
          replace hY' := blk_keep hb2 hY'
          replace hA' := blk_keep hb2 hA'
          replace hBk := blk_keep hb2 hBk
          replace hb' := btrans hb' hb2
          clear hb2 a0 a1 a2 a3 a4 a5 b0 b1 b2 b3 b4 b5
          obtain ⟨-, -, -, -, -, a5⟩ := blk6 hA'
          obtain ⟨-, -, -, -, -, b5⟩ := blk6 hBk
          obtain ⟨⟨x0, x1⟩, fx0, fx1⟩ := blk2 hX'
          have hws : w.heap.size < w2.heap.size := lt_of_block hX'
          have hwAl : w.heap.size < wA := hwlt.out
          rcases Int.lt_trichotomy xk yk with hm | hm | hm
          · have hm2 : ¬ yk < xk := by omega
            have hmin := hide (show min xk yk = xk by omega)
            have hmax := hide (show max xk yk = yk by omega)
            have hbC := balloc w2 (.cells #[.int .i64 xk, .int .i64 yk] 83)
            have hC := one_block w2 (.cells #[.int .i64 xk, .int .i64 yk] 83)
            replace hX' := blk_keep hbC hX'
            replace hY' := blk_keep hbC hY'
            replace hA' := blk_keep hbC hA'
            replace hb' := btrans hb' hbC
            have hcmp := hide (cmpC_neg xk yk ri' rj')
            clear hBk
            go_wp2_with fail
            refine (cCmpC xk yk ri' rj' _).mono ?_
            rintro e w3 ⟨rfl, hb3⟩
            replace hX' := blk_keep hb3 hX'
            replace hY' := blk_keep hb3 hY'
            replace hA' := blk_keep hb3 hA'
            replace hC := blk_keep hb3 hC
            replace hb' := btrans hb' hb3
            clear hb3 hbC x0 x1 fx0 fx1 a5 b5
            by_cases hcc : cmpC xk yk ri' rj' < 0
            · have hP2 := hide (hTk.out (by rw [hmin.out, hmax.out]; exact hcmp.out.1 hcc))
              rw [hmin.out, hmax.out] at hP2
              obtain ⟨⟨x0, x1⟩, fx0, fx1⟩ := blk2 hX'
              obtain ⟨⟨c0, c1⟩, -⟩ := blk2 hC
              obtain ⟨s1, s2⟩ := set2 (.int .i64 xk) (.int .i64 yk) hX'
              replace hY' := far_blk' s2 hY' (by omega)
              replace hA' := far_blk' s2 hA' (by have := hN.out; omega)
              replace hb' := grow_below' hb' s2 (fun k e => by cases e; omega)
              clear hTk hKp hcmp hmin hmax hX' hC s2
              go_wp2
              go_roundw
              case rel => exact ⟨j + 1, xk, yk, by omega, by go_num, hP2, s1, hY', hA', hb'⟩
              case measure => simp [intOf]; omega
            · have hP2 := hide (hKp.out (by rw [hmin.out, hmax.out]; exact fun g => hcc (hcmp.out.2 g)))
              clear hTk hKp hcmp hmin hmax hC
              go_wp2
              go_roundw
              case rel => exact ⟨j + 1, ri', rj', by omega, by go_num, hP2, hX', hY', hA', hb'⟩
              case measure => simp [intOf]; omega
          · subst hm
            have hm2 : ¬ xk < xk := by omega
            have hmin := hide (show min xk xk = xk by omega)
            have hmax := hide (show max xk xk = xk by omega)
            have hbC := balloc w2 (.cells #[.int .i64 xk, .int .i64 xk] 83)
            have hC := one_block w2 (.cells #[.int .i64 xk, .int .i64 xk] 83)
            replace hX' := blk_keep hbC hX'
            replace hY' := blk_keep hbC hY'
            replace hA' := blk_keep hbC hA'
            replace hb' := btrans hb' hbC
            have hcmp := hide (cmpC_neg xk xk ri' rj')
            clear hBk
            go_wp2_with fail
            refine (cCmpC xk xk ri' rj' _).mono ?_
            rintro e w3 ⟨rfl, hb3⟩
            replace hX' := blk_keep hb3 hX'
            replace hY' := blk_keep hb3 hY'
            replace hA' := blk_keep hb3 hA'
            replace hC := blk_keep hb3 hC
            replace hb' := btrans hb' hb3
            clear hb3 hbC x0 x1 fx0 fx1 a5 b5
            by_cases hcc : cmpC xk xk ri' rj' < 0
            · have hP2 := hide (hTk.out (by rw [hmin.out, hmax.out]; exact hcmp.out.1 hcc))
              rw [hmin.out, hmax.out] at hP2
              obtain ⟨⟨x0, x1⟩, fx0, fx1⟩ := blk2 hX'
              obtain ⟨⟨c0, c1⟩, -⟩ := blk2 hC
              obtain ⟨s1, s2⟩ := set2 (.int .i64 xk) (.int .i64 xk) hX'
              replace hY' := far_blk' s2 hY' (by omega)
              replace hA' := far_blk' s2 hA' (by have := hN.out; omega)
              replace hb' := grow_below' hb' s2 (fun k e => by cases e; omega)
              clear hTk hKp hcmp hmin hmax hX' hC s2
              go_wp2
              go_roundw
              case rel => exact ⟨j + 1, xk, xk, by omega, by go_num, hP2, s1, hY', hA', hb'⟩
              case measure => simp [intOf]; omega
            · have hP2 := hide (hKp.out (by rw [hmin.out, hmax.out]; exact fun g => hcc (hcmp.out.2 g)))
              clear hTk hKp hcmp hmin hmax hC
              go_wp2
              go_roundw
              case rel => exact ⟨j + 1, ri', rj', by omega, by go_num, hP2, hX', hY', hA', hb'⟩
              case measure => simp [intOf]; omega
          · have hm2 : ¬ xk < yk := by omega
            have hmin := hide (show min xk yk = yk by omega)
            have hmax := hide (show max xk yk = xk by omega)
            have hbC := balloc w2 (.cells #[.int .i64 yk, .int .i64 xk] 83)
            have hC := one_block w2 (.cells #[.int .i64 yk, .int .i64 xk] 83)
            replace hX' := blk_keep hbC hX'
            replace hY' := blk_keep hbC hY'
            replace hA' := blk_keep hbC hA'
            replace hb' := btrans hb' hbC
            have hcmp := hide (cmpC_neg yk xk ri' rj')
            clear hBk
            go_wp2_with fail
            refine (cCmpC yk xk ri' rj' _).mono ?_
            rintro e w3 ⟨rfl, hb3⟩
            replace hX' := blk_keep hb3 hX'
            replace hY' := blk_keep hb3 hY'
            replace hA' := blk_keep hb3 hA'
            replace hC := blk_keep hb3 hC
            replace hb' := btrans hb' hb3
            clear hb3 hbC x0 x1 fx0 fx1 a5 b5
            by_cases hcc : cmpC yk xk ri' rj' < 0
            · have hP2 := hide (hTk.out (by rw [hmin.out, hmax.out]; exact hcmp.out.1 hcc))
              rw [hmin.out, hmax.out] at hP2
              obtain ⟨⟨x0, x1⟩, fx0, fx1⟩ := blk2 hX'
              obtain ⟨⟨c0, c1⟩, -⟩ := blk2 hC
              obtain ⟨s1, s2⟩ := set2 (.int .i64 yk) (.int .i64 xk) hX'
              replace hY' := far_blk' s2 hY' (by omega)
              replace hA' := far_blk' s2 hA' (by have := hN.out; omega)
              replace hb' := grow_below' hb' s2 (fun k e => by cases e; omega)
              clear hTk hKp hcmp hmin hmax hX' hC s2
              go_wp2
              go_roundw
              case rel => exact ⟨j + 1, yk, xk, by omega, by go_num, hP2, s1, hY', hA', hb'⟩
              case measure => simp [intOf]; omega
            · have hP2 := hide (hKp.out (by rw [hmin.out, hmax.out]; exact fun g => hcc (hcmp.out.2 g)))
              clear hTk hKp hcmp hmin hmax hC
              go_wp2
              go_roundw
              case rel => exact ⟨j + 1, ri', rj', by omega, by go_num, hP2, hX', hY', hA', hb'⟩
              case measure => simp [intOf]; omega
        · have hjl' : ¬ ((j : Int) < ((rs.length - (k + 1) : Nat) : Int)) := by omega
          have hQ2 := hide (hP.out.mono (T := fun p _ => p < k + 1) (fun p q g hp => by have h1 := g.1; have h2 := g.2.1; omega))
          clear hP
          go_wp2
          go_roundw
          case rel => exact ⟨k + 1, ri', rj', by omega, by go_num, hQ2, hX', hY', hb'⟩
          case measure => simp [intOf]; omega
    · obtain rfl : k = rs.length := by omega
      have hnl : ¬ ((rs.length : Int) < (rs.length : Int)) := by omega
      have hQ2 := hide (hQ.out.mono (T := fun _ _ => True) (fun p q g _ => by have h1 := g.1; have h2 := g.2.1; omega))
      obtain ⟨⟨x0, x1⟩, f0, f1⟩ := blk2 hX
      obtain ⟨⟨y0, y1⟩, g0, g1⟩ := blk2 hY
      obtain ⟨s1, s2⟩ := set2 (.int .i64 ri) (.int .i64 rj) hY
      have hb2 := grow_below' hb s2 (fun k e => by cases e; omega)
      obtain ⟨⟨z0, z1⟩, -⟩ := blk2 s1
      clear hQ hX hY s1 s2
      go_wp2
      refine bodyPost_ret (v := .agg #[.int .i64 ri, .int .i64 rj]) (by simp [results, Try.results50, go_sem, z0, z1]) rfl ?_
      exact ⟨ri, rj, rfl, hQ2.out, hb2⟩
end Go.Proofs.Ytbghfihlpbcomaa
