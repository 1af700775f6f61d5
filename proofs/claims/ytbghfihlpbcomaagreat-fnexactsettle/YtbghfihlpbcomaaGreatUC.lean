/- Uses of the model. -/
import Derived.Test.YtbghfihlpbcomaaGreatWR
import Derived.Deep.Cut
import Derived.Deep.CutRange
namespace Go.Proofs.YtbghfihlpbcomaaGreat
open Go.RowKit
/-- The uses as the model answers them. -/
def AnsRides (w : World) (n : Int) (es : List EdgeV) (ts : List TripV) (e : Ending) (w' : World) : Prop :=
  Below w.heap.size w w' ∧ ((Ridden n es ts ∧ ∃ v, e = .returned v ∧ w'.ownsRow w.heap.size 98 5 v (usesL es ts).length (flatRides (usesL es ts))) ∨ (¬ Ridden n es ts ∧ e = .returned (.slice none 0 0)))
theorem AnsRides.no {w w' : World} {n : Int} {es : List EdgeV} {ts : List TripV} (h : ¬ Ridden n es ts) (hb : Below w.heap.size w w') : AnsRides w n es ts (.returned (.slice none 0 0)) w' := ⟨hb, .inr ⟨h, rfl⟩⟩
/-- Two calls in blocks of their own. -/
def GotAB (W : World) (x y : HaltV) (sv cv : Value) (wc : World) : Prop := ∃ p q, sv = .pointer (some ⟨p, 0, none⟩) ∧ cv = .pointer (some ⟨q, 0, none⟩) ∧ wc.heap[p]? = some (.cells #[.int .i64 x.n, .int .i64 x.a, .int .i64 x.d] 69) ∧ wc.heap[q]? = some (.cells #[.int .i64 y.n, .int .i64 y.a, .int .i64 y.d] 69) ∧ Below W.heap.size W wc

theorem two_blocks (w : World) (o1 o2 : Obj) : ((w.alloc o1).alloc o2).heap[w.heap.size]? = some o1 ∧ ((w.alloc o1).alloc o2).heap[w.heap.size + 1]? = some o2 := by
  refine ⟨?_, ?_⟩
  · show ((w.heap.push o1).push o2)[w.heap.size]? = _
    rw [Array.getElem?_push, if_neg (by simp), Array.getElem?_push, if_pos rfl]
  · show ((w.heap.push o1).push o2)[w.heap.size + 1]? = _
    rw [Array.getElem?_push, if_pos (by simp)]
theorem gotAB1 (w : World) (x y : HaltV) : GotAB w x y (.pointer (some ⟨w.heap.size, 0, none⟩)) (.pointer (some ⟨w.heap.size + 1, 0, none⟩)) ((w.alloc (.cells #[.int .i64 x.n, .int .i64 x.a, .int .i64 x.d] 69)).alloc (.cells #[.int .i64 y.n, .int .i64 y.a, .int .i64 y.d] 69)).drew :=
  ⟨_, _, rfl, rfl, (two_blocks w _ _).1, (two_blocks w _ _).2, (btrans (balloc _ _) (balloc _ _)).drew⟩
theorem gotAB2 (w : World) (x y : HaltV) : GotAB w x y (.pointer (some ⟨w.heap.size + 1, 0, none⟩)) (.pointer (some ⟨w.heap.size, 0, none⟩)) ((w.alloc (.cells #[.int .i64 y.n, .int .i64 y.a, .int .i64 y.d] 69)).alloc (.cells #[.int .i64 x.n, .int .i64 x.a, .int .i64 x.d] 69)).drew :=
  ⟨_, _, rfl, rfl, (two_blocks w _ _).2, (two_blocks w _ _).1, (btrans (balloc _ _) (balloc _ _)).drew⟩
/-- A use in a block of its own. -/
def GotU (W : World) (e f t p : Int) (sv : Value) (wc : World) : Prop := ∃ g, sv = .pointer (some ⟨g, 0, none⟩) ∧ wc.heap[g]? = some (.cells #[.int .i64 e, .int .i64 0, .int .i64 f, .int .i64 t, .int .i64 p] 98) ∧ Below W.heap.size W wc ∧ W.heap.size ≤ g
theorem gotU1 {W wb : World} (Bb : Below W.heap.size W wb) (e f t p : Int) : GotU W e f t p (.pointer (some ⟨wb.heap.size, 0, none⟩)) (wb.alloc (.cells #[.int .i64 e, .int .i64 0, .int .i64 f, .int .i64 t, .int .i64 p] 98)) :=
  ⟨_, rfl, one_block _ _, btrans Bb (balloc _ _), Bb.size⟩
theorem gotU2 {W wb : World} (Bb : Below W.heap.size W wb) (h : wb.heap[W.heap.size]? = some (.cells #[.int .i64 0, .int .i64 0, .int .i64 0, .int .i64 0, .int .i64 0] 98)) (e f t p : Int) : GotU W e f t p (.pointer (some ⟨W.heap.size, 0, none⟩)) (((((wb.setCell ⟨W.heap.size, 0, none⟩ (.int .i64 e)).setCell ⟨W.heap.size, 1, none⟩ (.int .i64 0)).setCell ⟨W.heap.size, 2, none⟩ (.int .i64 f)).setCell ⟨W.heap.size, 3, none⟩ (.int .i64 t)).setCell ⟨W.heap.size, 4, none⟩ (.int .i64 p)) :=
  ⟨_, rfl, by have := blk_set (i := 4) (v := .int .i64 p) (blk_set (i := 3) (v := .int .i64 t) (blk_set (i := 2) (v := .int .i64 f) (blk_set (i := 1) (v := .int .i64 0) (blk_set (i := 0) (v := .int .i64 e) h)))); simpa using this,
    below_set (Nat.le_refl _) (below_set (Nat.le_refl _) (below_set (Nat.le_refl _) (below_set (Nat.le_refl _) (below_set (Nat.le_refl _) Bb)))), Nat.le_refl _⟩
theorem blk3 {w : World} {g : Nat} {c0 c1 c2 : Value} {t : TypeId} (h : w.heap[g]? = some (.cells #[c0, c1, c2] t (0, 0))) : w.cell? ⟨g, 0, none⟩ = some c0 ∧ w.cell? ⟨g, 1, none⟩ = some c1 ∧ w.cell? ⟨g, 2, none⟩ = some c2 :=
  ⟨Go.Joins.cell_of_block h 0, Go.Joins.cell_of_block h 1, Go.Joins.cell_of_block h 2⟩

theorem blk5 {w : World} {g : Nat} {c0 c1 c2 c3 c4 : Value} {t : TypeId} (h : w.heap[g]? = some (.cells #[c0, c1, c2, c3, c4] t (0, 0))) : (w.cell? ⟨g, 0, none⟩ = some c0 ∧ w.cell? ⟨g, 1, none⟩ = some c1 ∧ w.cell? ⟨g, 2, none⟩ = some c2 ∧ w.cell? ⟨g, 3, none⟩ = some c3 ∧ w.cell? ⟨g, 4, none⟩ = some c4) ∧ w.frozen? ⟨g, 0, none⟩ = false ∧ w.frozen? ⟨g, 1, none⟩ = false ∧ w.frozen? ⟨g, 2, none⟩ = false ∧ w.frozen? ⟨g, 3, none⟩ = false ∧ w.frozen? ⟨g, 4, none⟩ = false :=
  ⟨⟨Go.Joins.cell_of_block h 0, Go.Joins.cell_of_block h 1, Go.Joins.cell_of_block h 2, Go.Joins.cell_of_block h 3, Go.Joins.cell_of_block h 4⟩, Go.Joins.unfrozen_of_block h 0, Go.Joins.unfrozen_of_block h 1, Go.Joins.unfrozen_of_block h 2, Go.Joins.unfrozen_of_block h 3, Go.Joins.unfrozen_of_block h 4⟩

set_option maxRecDepth 20000 in
set_option maxHeartbeats 6400000 in
theorem cUsesS (a : Option Addr) (cap : Nat) (n : Int) (es : List EdgeV) (ta : Option Addr) (tc : Nat) (ts : List TripV) (w : World) (he : Edges w a es) (hl : es.length ≤ 1048576) (hz : Trips w ta ts) (hS : Small ts) :
    Calls Tryz.prog 82 #[.agg #[.int .i64 n, .slice a es.length cap], .slice ta ts.length tc] w (AnsRides w n es ts) := by
  obtain ⟨i0, hi, hz0, hz1, hz2⟩ := info_parts infoRides
  have hW := balloc w (.cells #[.int .i64 n, .slice a es.length cap] 26)
  have X := one_block w (.cells #[.int .i64 n, .slice a es.length cap] 26)
  go_enter Tryz.func82, Tryz.ntmps82
  go_wp2_with fail
  refine (cRiddenS a cap n es ta tc ts _ (he.below hW) hl (hz.below hW) hS).mono ?_
  rintro e w1 ⟨r, rfl, hr, hb1⟩
  have HB := btrans hW hb1
  replace X := blk_keep hb1 X
  clear hW hb1
  cases r
  · have hF : Hid (¬ Ridden n es ts) := hide (fun h => by have := hr.2 h; cases this)
    clear hr
    go_wp2
    go_ret
    exact AnsRides.no hF.out HB
  have hRd := hide (hr.1 rfl)
  have hT := hide (hRd.out.2.1)
  have hT24 : ts.length ≤ 24 := hT.out.1
  clear hr
  have hO := World.ownsRow_made (base := w.heap.size) (e := 98) (size := 5) w1 #[] 0 HB.size (by unfold maxLen; omega) rfl
  have HB1 := btrans HB (balloc w1 (.cells #[] 98))
  have X1 := blk_keep (balloc w1 (.cells #[] 98)) X
  go_wp2
  go_loopw [5, 6, 7] (fun v i _ wr => ∃ k : Nat, k ≤ ts.length ∧ i = .int .i64 k ∧ wr.ownsRow w.heap.size 98 5 v (usesTo es ts k).length (flatRides (usesTo es ts k)) ∧ Below w.heap.size w wr ∧ wr.heap[w.heap.size]? = some (.cells #[.int .i64 n, .slice a es.length cap] 26)) (fun _ i _ _ => ts.length - (intOf i).toNat)
  case atStart => exact ⟨0, Nat.zero_le _, rfl, hO, HB1, X1⟩
  case round =>
    obtain ⟨k, hk, rfl, ho, hb, X⟩ := hrel
    clear HB HB1 X1 hO
    by_cases hlt : k < ts.length
    · have hlt' : (k : Int) < (ts.length : Int) := by omega
      obtain ⟨wo, rfl⟩ : ∃ wo, wo = wr := ⟨wr, rfl⟩
      obtain ⟨tb, toff, na, nc, rfl, c1, c2, hcap, c3⟩ := hz.at hlt
      have hCl := table_trip hT.out hlt
      have hU := hide (usesTo_succ es ts k)
      have hUl := usesTo_small (es := es) hT.out k hk
      have hYes : Hid (Rode es (clA ts k) ((clA ts k).length - 1)) := hide (hRd.out.2.2 k hlt)
      have hNd : Hid (∀ j, j < (clA ts k).length → 0 ≤ ((clA ts k).getD j HaltV.zero).n ∧ ((clA ts k).getD j HaltV.zero).n ≤ 29) := hide (fun j h => (call_parts (call_at (trip_parts (hT.out.2.1 k hlt)).2.2.2.1 h)).1)
      change w.cell? _ = some (.slice na (clA ts k).length nc) at c2
      change Halts w na (clA ts k) at c3
      generalize hcl : clA ts k = cs at *
      replace hcl := hide hcl
      generalize hus : usesTo es ts k = us at *
      replace hus := hide hus
      obtain ⟨l1, l2⟩ := hCl
      rcases c3 with h | ⟨b, off, rfl, hc⟩
      · simp [h] at l1
      replace hc := hide hc
      clear c1 hcap
      go_wp2
      go_loopw [5, 7] (fun v i wr => ∃ j : Nat, j + 1 ≤ cs.length ∧ i = .int .i64 ((j : Int) + 1) ∧ wr.ownsRow w.heap.size 98 5 v (us ++ legsTo es k cs j).length (flatRides (us ++ legsTo es k cs j)) ∧ Below w.heap.size w wr ∧ wr.heap[w.heap.size]? = some (.cells #[.int .i64 n, .slice a es.length cap] 26)) (fun _ i _ => cs.length - (intOf i).toNat)
      case atStart => exact ⟨0, by omega, rfl, by simpa [legsTo] using ho, hb, X⟩
      case round =>
        obtain ⟨j, hj, rfl, ho, hb, X⟩ := hrel
        obtain ⟨va, vc, rfl⟩ := own_form ho
        have c2w := c2
        have c2 := ble hb c2
        have e1 : ((j : Int) + 1).toNat = j + 1 := by omega
        have e2 : (0 : Int) ≤ (j : Int) + 1 := by omega
        have e4 : IntKind.i64.wrap ((j : Int) + 1 - 1) = (j : Int) := (wrap_in _ (by omega) (by omega)).trans (by omega)
        have e5 : IntKind.i64.wrap (j : Int) = (j : Int) := wrap_in _ (by omega) (by omega)
        have e6 : (0 : Int) ≤ (j : Int) := by omega
        by_cases hjl : j + 1 < cs.length
        · have hjl' : (j : Int) + 1 < (cs.length : Int) := by omega
          have hjl2 : (j : Int) < (cs.length : Int) := by omega
          have e3 : IntKind.i64.wrap ((j : Int) + 1 + 1) = (j : Int) + 1 + 1 := wrap_in _ (by omega) (by omega)
          obtain ⟨q0, q1, q2⟩ := hc.out j (by omega)
          obtain ⟨p0, p1, p2⟩ := hc.out (j + 1) hjl
          replace q0 := ble hb q0
          replace q1 := ble hb q1
          replace q2 := ble hb q2
          replace p0 := ble hb p0
          replace p1 := ble hb p1
          replace p2 := ble hb p2
          have hL := hide (legsTo_succ es k cs j)
          have hp := hide (hYes.out j (by omega))
          have hy := (hNd.out (j + 1) hjl).1
          have CE := hide (fun V (hV : Edges V a es) => cEdgeS a cap n es (cs.getD j HaltV.zero).n (cs.getD (j + 1) HaltV.zero).n V hV hl hy)
          have hJ := hide (show (joinA es (cs.getD j HaltV.zero).n (cs.getD (j + 1) HaltV.zero).n).1 = (placeE es (cs.getD j HaltV.zero).n (cs.getD (j + 1) HaltV.zero).n : Int) by rw [joinA_yes hp.out])
          have hUse : Hid (useOf es k (cs.getD j HaltV.zero) (cs.getD (j + 1) HaltV.zero) = ⟨placeE es (cs.getD j HaltV.zero).n (cs.getD (j + 1) HaltV.zero).n, dirE es (cs.getD j HaltV.zero).n (cs.getD (j + 1) HaltV.zero).n, (cs.getD j HaltV.zero).d, (cs.getD (j + 1) HaltV.zero).a, k⟩) := rfl
          have hlen : (us ++ legsTo es k cs j).length ≤ 300 := by rw [List.length_append, legsTo_len]; omega
          generalize hA : us ++ legsTo es k cs j = acc at *
          replace hA := hide hA
          generalize useOf es k (cs.getD j HaltV.zero) (cs.getD (j + 1) HaltV.zero) = U at *
          generalize cs.getD j HaltV.zero = x at *
          generalize cs.getD (j + 1) HaltV.zero = y at *
          obtain ⟨xn, xa, xd⟩ := x
          obtain ⟨yn, ya, yd⟩ := y
          dsimp only at *
          obtain ⟨⟨x0, x1⟩, -⟩ := blk2 X
          have hs1 : tb < wr.heap.size := cell_lt c2
          have hs2 : b < wr.heap.size := cell_lt q0
          clear hc hNd hYes hy
          go_upto_region 10 with fail
          go_cut [8, 9] from 49 to 75 (fun sv cv wc => GotAB wr ⟨xn, xa, xd⟩ ⟨yn, ya, yd⟩ sv cv wc)
          case first =>
            go_region
            · go_wp2_with fail
              go_meet
              exact gotAB1 wr ⟨xn, xa, xd⟩ ⟨yn, ya, yd⟩
            · go_wp2_with fail
              go_meet
              exact gotAB2 wr ⟨xn, xa, xd⟩ ⟨yn, ya, yd⟩
          case rest =>
          clear q0 q1 q2 p0 p1 p2 x0 x1 hs1 hs2
          obtain ⟨bp, bq, rfl, rfl, P0, Q0, B2⟩ := hcut
          dsimp only at P0 Q0
          have HB2 := btrans hb B2
          have X2 := blk_keep B2 X
          have o2 := own_keep ho B2
          clear hb X ho
          obtain ⟨⟨x0, x1⟩, -⟩ := blk2 X2
          obtain ⟨p0, p1, p2⟩ := blk3 P0
          obtain ⟨q0, q1, q2⟩ := blk3 Q0
          have hE := he.below HB2.drew
          obtain ⟨pl, hpl⟩ : ∃ pl : Int, pl = (joinA es xn yn).1 := ⟨_, rfl⟩
          rw [← hpl] at CE hJ
          replace hpl := hide hpl
          go_upto_region 11 with fail
          go_cut [10] from 61 to 75 (fun sv wd => GotU wc pl xd ya k sv wd)
          case first =>
            have hsP := lt_of_block P0
            have hsQ := lt_of_block Q0
            have hsX := lt_of_block X2
            have n1 : wc.heap.size ≠ bp := Nat.ne_of_gt hsP
            have n2 : wc.heap.size ≠ bq := Nat.ne_of_gt hsQ
            have n3 : wc.heap.size ≠ w.heap.size := Nat.ne_of_gt hsX
            have hE2 := he.below (btrans HB2 (balloc wc (.cells #[.int .i64 0, .int .i64 0, .int .i64 0, .int .i64 0, .int .i64 0] 98))).drew
            have N2 := one_block wc (.cells #[.int .i64 0, .int .i64 0, .int .i64 0, .int .i64 0, .int .i64 0] 98)
            go_region_held3 (fun w' => w'.cell? ⟨w.heap.size, 0, none⟩ = some (.int .i64 n) ∧ w'.cell? ⟨w.heap.size, 1, none⟩ = some (.slice a es.length cap) ∧ w'.cell? ⟨bp, 0, none⟩ = some (.int .i64 xn) ∧ w'.cell? ⟨bp, 2, none⟩ = some (.int .i64 xd) ∧ w'.cell? ⟨bq, 0, none⟩ = some (.int .i64 yn) ∧ w'.cell? ⟨bq, 1, none⟩ = some (.int .i64 ya)) (go_keep) (first
              | (go_at_call 58; with_reducible refine (CE.out _ hE).mono ?_; rintro e wb ⟨rfl, hbb⟩; have Bb := undrew hbb; clear hbb; obtain ⟨⟨v0, v1⟩, -⟩ := blk2 (blk_keep Bb X2); obtain ⟨v2, v3, v4⟩ := blk3 (blk_keep Bb P0); obtain ⟨v5, v6, v7⟩ := blk3 (blk_keep Bb Q0); have s1 := lt_of_block (blk_keep Bb P0); have s2 := lt_of_block (blk_keep Bb Q0); have s3 := lt_of_block (blk_keep Bb X2))
              | (go_at_call 58; with_reducible refine (CE.out _ hE2).mono ?_; rintro e wb ⟨rfl, hbb⟩; have N3 := blk_keep (undrew hbb) N2; have Bb := btrans (balloc wc (.cells #[.int .i64 0, .int .i64 0, .int .i64 0, .int .i64 0, .int .i64 0] 98)) (undrew hbb); clear hbb; obtain ⟨⟨v0, v1⟩, -⟩ := blk2 (blk_keep Bb X2); obtain ⟨v2, v3, v4⟩ := blk3 (blk_keep Bb P0); obtain ⟨v5, v6, v7⟩ := blk3 (blk_keep Bb Q0); have s1 := lt_of_block (blk_keep Bb P0); have s2 := lt_of_block (blk_keep Bb Q0); have s3 := lt_of_block (blk_keep Bb X2); obtain ⟨⟨z0, z1, z2, z3, z4⟩, f0, f1, f2, f3, f4⟩ := blk5 N3))
            · go_wp2_with fail
              go_meet
              exact gotU1 Bb _ _ _ _
            · go_wp2_with fail
              go_meet
              exact gotU2 Bb N3 _ _ _ _
          case rest =>
          clear q0 q1 q2 p0 p1 p2 x0 x1 hE CE
          obtain ⟨g, rfl, G0, B3, hg⟩ := hcut
          have HB3 := btrans HB2 B3
          have X3 := blk_keep B3 X2
          have P3 := blk_keep B3 P0
          have o3 := own_keep o2 B3
          have hne : ∀ k, (Value.slice va acc.length vc).ownBlock = some k → k ≠ g := fun k hk => by have := own_blk_lt o2 k hk; omega
          have hgw : w.heap.size ≤ g := Nat.le_trans HB2.size hg
          have hnX : w.heap.size ≠ g := by have := lt_of_block X2; omega
          obtain rfl := hJ.out
          have hpl2 := hp.out
          have hDr : Hid (dirE es xn yn = if (es.getD (placeE es xn yn) EdgeV.zero).a = xn then 0 else 1) := rfl
          rcases he with h | ⟨eb, eoff, rfl, hce⟩
          · simp [h] at hpl2
          obtain ⟨r0, -, -, -⟩ := hce (placeE es xn yn) hpl2
          replace r0 := ble HB3 r0
          have hU2 := hUse.out
          generalize dirE es xn yn = dr at *
          generalize placeE es xn yn = pl at *
          have hpl3 : (pl : Int) < (es.length : Int) := by omega
          have hpl4 : (0 : Int) ≤ (pl : Int) := by omega
          generalize (es.getD pl EdgeV.zero).a = ea at *
          clear hce hp hpl X2 P0 Q0 o2 HB2 B2 B3 hUse hJ
          subst hU2
          obtain ⟨⟨x0, x1⟩, -⟩ := blk2 X3
          obtain ⟨p0, p1, p2⟩ := blk3 P3
          obtain ⟨⟨g0, g1, g2, g3, g4⟩, f0, f1, f2, f3, f4⟩ := blk5 G0
          by_cases hd : ea = xn
          · have hdr : dr = 0 := by rw [hDr.out, if_pos hd]
            clear hDr
            subst hdr
            subst hd
            have ho2 := fun q => own_keep (own_keep o3 (bdraw (Below.refl _ wc) q)) (balloc _ (.cells #[.int .i64 pl, .int .i64 0, .int .i64 xd, .int .i64 ya, .int .i64 k] 98))
            have hb2 := fun q => btrans (bdraw HB3 q) (balloc (wc.drewN q) (.cells #[.int .i64 pl, .int .i64 0, .int .i64 xd, .int .i64 ya, .int .i64 k] 98))
            have X4 := fun q => blk_keep (balloc (wc.drewN q) (.cells #[.int .i64 pl, .int .i64 0, .int .i64 xd, .int .i64 ya, .int .i64 k] 98)) (blk_keep (bdraw (Below.refl _ wc) q) X3)
            replace ho2 := hide ho2
            replace hb2 := hide hb2
            replace X4 := hide X4
            clear X3 P3 G0
            go_wp2_with fail
            go_quiet (fail)
            go_wp2_with (at_builtin; refine wpList_append_own _ rfl _ _ 62 rfl w.heap.size 98 i0 _ 5 40 Tryz.underlying62 hi hz0 hz1 hz2 rfl (by decide) _ _ _ rfl (ho2.out nq) ⟨_, 0, none⟩ 1 1 (RideV.vs ⟨pl, 0, xd, ya, k⟩) rfl rfl ?c1 ?c2 ?c3 ?c4 ?c5 ?_)
            case c1 => first | exact fun j u h => h | exact World.news_of_block (one_block _ _)
            case c2 => simp [Value.oneCell', RideV.vs]
            case c3 => unfold maxLen; omega
            case c4 => omega
            case c5 => have := HB3.size; simp; omega
            intro v2 w5 hown hgrow _
            have hb5 := (hb2.out nq).grown hgrow (hb2.out nq).size (own_from o3 (Nat.le_refl _))
            have X5 := blk_app (ho2.out nq) hgrow (X4.out nq) (by decide)
            have hown2 : w5.ownsRow w.heap.size 98 5 v2 (us ++ legsTo es k cs (j + 1)).length (flatRides (us ++ legsTo es k cs (j + 1))) := by
              rw [hL.out, ← List.append_assoc, hA.out, flatRides_app, flat_one_ride, List.length_append]
              exact hown
            clear hgrow hown ho2 hb2 o3 X4 hL
            go_wp2
            go_roundw
            case rel => exact ⟨j + 1, by omega, by go_num, hown2, hb5, X5⟩
            case measure => simp [intOf]; omega
          · have hdr : dr = 1 := by rw [hDr.out, if_neg hd]
            clear hDr
            subst hdr
            have N4 : Hid (∀ q, (((wc.drewN q).setCell ⟨g, 1, none⟩ (.int .i64 1)).alloc (.cells #[.int .i64 pl, .int .i64 1, .int .i64 xd, .int .i64 ya, .int .i64 k] 98)).heap[wc.heap.size]? = some (.cells #[.int .i64 pl, .int .i64 1, .int .i64 xd, .int .i64 ya, .int .i64 k] 98)) := hide (fun q => by
              have e := one_block ((wc.drewN q).setCell ⟨g, 1, none⟩ (.int .i64 1)) (.cells #[.int .i64 pl, .int .i64 1, .int .i64 xd, .int .i64 ya, .int .i64 k] 98)
              have e2 : ((wc.drewN q).setCell ⟨g, 1, none⟩ (.int .i64 1)).heap.size = wc.heap.size := by simp
              rw [e2] at e
              exact e)
            have ho2 := fun q => own_keep (own_set (b := g) (i := 1) (u := .int .i64 1) (own_keep o3 (bdraw (Below.refl _ wc) q)) hne) (balloc _ (.cells #[.int .i64 pl, .int .i64 1, .int .i64 xd, .int .i64 ya, .int .i64 k] 98))
            have hb2 := fun q => btrans (below_set (b := g) (o := 1) (v := .int .i64 1) hgw (bdraw HB3 q)) (balloc _ (.cells #[.int .i64 pl, .int .i64 1, .int .i64 xd, .int .i64 ya, .int .i64 k] 98))
            have X4 := fun q => blk_keep (balloc _ (.cells #[.int .i64 pl, .int .i64 1, .int .i64 xd, .int .i64 ya, .int .i64 k] 98)) (blk_other (i := 1) (v := .int .i64 1) (blk_keep (bdraw (Below.refl _ wc) q) X3) hnX)
            replace ho2 := hide ho2
            replace hb2 := hide hb2
            replace X4 := hide X4
            clear X3 P3 G0
            go_wp2_with fail
            go_quiet (fail)
            go_wp2_with (at_builtin; refine wpList_append_own _ rfl _ _ 62 rfl w.heap.size 98 i0 _ 5 40 Tryz.underlying62 hi hz0 hz1 hz2 rfl (by decide) _ _ _ rfl (ho2.out nq) ⟨_, 0, none⟩ 1 1 (RideV.vs ⟨pl, 1, xd, ya, k⟩) rfl rfl ?c1 ?c2 ?c3 ?c4 ?c5 ?_)
            case c1 => first | exact fun j u h => h | exact World.news_of_block (N4.out nq)
            case c2 => simp [Value.oneCell', RideV.vs]
            case c3 => unfold maxLen; omega
            case c4 => omega
            case c5 => have := HB3.size; simp; omega
            intro v2 w5 hown hgrow _
            have hb5 := (hb2.out nq).grown hgrow (hb2.out nq).size (own_from o3 (Nat.le_refl _))
            have X5 := blk_app (ho2.out nq) hgrow (X4.out nq) (by decide)
            have hown2 : w5.ownsRow w.heap.size 98 5 v2 (us ++ legsTo es k cs (j + 1)).length (flatRides (us ++ legsTo es k cs (j + 1))) := by
              rw [hL.out, ← List.append_assoc, hA.out, flatRides_app, flat_one_ride, List.length_append]
              exact hown
            clear hgrow hown ho2 hb2 o3 X4 hL
            go_wp2
            go_roundw
            case rel => exact ⟨j + 1, by omega, by go_num, hown2, hb5, X5⟩
            case measure => simp [intOf]; omega
        · have hjl' : ¬ ((j : Int) + 1 < (cs.length : Int)) := by omega
          have hje : j = cs.length - 1 := by omega
          have ho2 : wr.ownsRow w.heap.size 98 5 (.slice va (us ++ legsTo es k cs j).length vc) (usesTo es ts (k + 1)).length (flatRides (usesTo es ts (k + 1))) := by rw [hU.out, ← hje]; exact ho
          clear ho hc
          go_wp2
          go_roundw
          case rel => exact ⟨k + 1, by omega, by go_num, ho2, hb, X⟩
          case measure => simp [intOf]; omega
    · have hlt' : ¬ ((k : Int) < (ts.length : Int)) := by omega
      obtain rfl : k = ts.length := by omega
      go_wp2
      go_ret
      exact ⟨hb, .inl ⟨hRd.out, _, rfl, ho⟩⟩
end Go.Proofs.YtbghfihlpbcomaaGreat
