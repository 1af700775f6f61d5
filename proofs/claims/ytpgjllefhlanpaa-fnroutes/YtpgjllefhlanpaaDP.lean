/- The draw of a right plant. -/
import Derived.Test.YtpgjllefhlanpaaDM
import Derived.Test.YtpgjllefhlanpaaLR
namespace Go.Proofs.Ytpgjllefhlanpaa
open Go.RowKit
/-- A drawn plant. -/
def DrawnP (w : World) (cb cap : Nat) (a : Option Addr) (bs : List Int) (e : Ending) (w' : World) : Prop :=
  ∃ (B : Int) (us : List Int) (rs : List RouteV) (vs : List (Value × Value)) (pb : Nat) (au : Option Addr) (cu : Nat) (ar : Option Addr) (cr : Nat), e = .returned (.agg #[.slice au us.length cu, .int .i64 B, .slice ar rs.length cr]) ∧ w.heap.size ≤ pb ∧ 2 ≤ B ∧ B ≤ 7 ∧ us.length ≤ 4 ∧ 1 ≤ rs.length ∧ rs.length ≤ 5 ∧
    Pt w w' cb pb B (.slice au us.length cu) us (.slice ar rs.length cr) vs rs ∧ Cur w' cb a cap bs
theorem Pt.start {w0 w1 : World} {cb : Nat} {B : Int} (h : w0.grownBy w1 (some cb)) : Pt w0 (w1.alloc (.cells #[.slice none 0 0, .int .i64 B, .slice none 0 0] 27)) cb w1.heap.size B (.slice none 0 0) [] (.slice none 0 0) [] [] :=
  ⟨one_block _ _, World.ownsRow_nil _ _ _ _, World.ownsRow_nil _ _ _ _, rfl, fun j hj => by simp at hj, fun x hx => by simp at hx, fun x hx => by simp at hx, gtrans h (gofr _ (balloc _ _))⟩
theorem Rt.start {cb : Nat} (w : World) : Rt w (w.alloc (.cells #[.slice none 0 0, .slice none 0 0] 48)) cb w.heap.size (.slice none 0 0) [] (.slice none 0 0) [] :=
  ⟨one_block _ _, ⟨World.ownsRow_nil _ _ _ _, World.ownsRow_nil _ _ _ _⟩, gofr _ (balloc _ _)⟩
theorem Pt.from' {w w0 wr : World} {cb pb : Nat} {B : Int} {vu vr : Value} {us : List Int} {vs : List (Value × Value)} {rs : List RouteV} (h : Pt w0 wr cb pb B vu us vr vs rs) (hg : w.grownBy w0 (some cb)) : Pt w wr cb pb B vu us vr vs rs :=
  ⟨h.out, h.own, h.row, h.len, h.each, h.usB, h.ok, gtrans hg h.gr⟩
theorem Pt.set {w0 wr : World} {cb pb t i : Nat} {B : Int} {vu vr u : Value} {us : List Int} {vs : List (Value × Value)} {rs : List RouteV} (h : Pt w0 wr cb pb B vu us vr vs rs) (h1 : w0.heap.size ≤ t) (h2 : t < pb) : Pt w0 (wr.setCell ⟨t, i, none⟩ u) cb pb B vu us vr vs rs :=
  ⟨(Below.heap_setCell _ _ _ _ (by dsimp only; omega)).trans h.out, own_set h.own (fun k hk => by have := own_from h.own (Nat.le_refl _) k hk; omega), own_set h.row (fun k hk => by have := own_from h.row (Nat.le_refl _) k hk; omega), h.len,
    fun j hj => (h.each j hj).off (grown_set _ _ _ _) (fun k hk e => by have := own_from (h.each j hj).needs (Nat.le_refl _) k hk; simp at e; omega) (fun k hk e => by have := own_from (h.each j hj).blocks (Nat.le_refl _) k hk; simp at e; omega), h.usB, h.ok,
    grown_far h.gr (grown_set _ _ _ _) (fun k hk => by simp at hk; omega)⟩
theorem infoRoutes : (Try.prog.info? 48).map (fun i => (i.zero, i.size, i.bytes)) = some (some (.agg #[.slice none 0 0, .slice none 0 0]), 2, 48) := by kernel_rfl

set_option maxRecDepth 20000 in
set_option maxHeartbeats 6400000 in
theorem cDrawP (cb cap : Nat) (a : Option Addr) (bs : List Int) (w : World) (hc : Cur w cb a cap bs) (hl : bs.length ≤ 1048576) :
    Calls Try.prog 20 #[.pointer (some ⟨cb, 0, none⟩)] w (DrawnP w cb cap a bs) := by
  obtain ⟨i0, hi, hz0, hz1, hz2⟩ := info_parts2 infoInts
  obtain ⟨j0, hj, hy0, hy1, hy2⟩ := info_parts2 infoNeeds
  obtain ⟨q0, hq, hx0, hx1, hx2'⟩ := info_parts2 infoRoutes
  have hW := balloc w (.cells #[.slice none 0 0, .int .i64 0, .slice none 0 0] 27)
  have R0 := one_block w (.cells #[.slice none 0 0, .int .i64 0, .slice none 0 0] 27)
  have C := hc.below hW
  have hcl := hc.lt (.inl rfl)
  have hOnW : ∀ k, OnCur cb a bs k → k < w.heap.size := fun k hk => hc.lt hk
  have hV := sz1 w (.cells #[.slice none 0 0, .int .i64 0, .slice none 0 0] 27)
  have hGW := gofr (some cb) hW
  go_enter Try.func20, Try.ntmps20
  go_wp2_with fail
  generalize w.alloc (.cells #[.slice none 0 0, .int .i64 0, .slice none 0 0] 27) = V at *
  clear hW hc
  refine (cbelow cb cap a bs 6 _ C hl (by omega) (by omega)).mono ?_
  rintro e w1 ⟨x, rfl, x0, x1, C1, G1⟩
  have T0 := Pt.start (B := 2 + x) G1
  have hb1 := balloc w1 (.cells #[.slice none 0 0, .int .i64 (2 + x), .slice none 0 0] 27)
  have C2 := C1.below hb1
  have hOn : ∀ k, OnCur cb a bs k → k < w1.heap.size := fun k hk => C1.lt hk
  have hVp := G1.size
  have hwx : IntKind.i64.wrap (2 + x) = 2 + x := wrap_in _ (by omega) (by omega)
  clear C C1 G1 hb1
  go_wp2_with fail
  clear hwx
  have hB2 : 2 ≤ 2 + x := by omega
  have hB7 : 2 + x ≤ 7 := by omega
  generalize 2 + x = B at *
  generalize w1.alloc (.cells #[.slice none 0 0, .int .i64 B, .slice none 0 0] 27) = w2 at *
  generalize w1.heap.size = pb at *
  clear x0 x1
  have hcp : cb < pb := by omega
  refine (cbelow cb cap a bs 5 _ C2 hl (by omega) (by omega)).mono ?_
  rintro e w3 ⟨n1, rfl, n10, n11, C3, G3⟩
  have T3 := T0.cur hcp G3
  clear T0 C2 G3
  go_wp2
  go_loopw [4] (fun ii wr => ∃ (I : Int) (v : Value) (us : List Int), ii = .int .i64 I ∧ 0 ≤ I ∧ (us.length : Int) + I = n1 ∧ Pt V wr cb pb B v us (.slice none 0 0) [] [] ∧ Cur wr cb a cap bs) (fun ii _ => (intOf ii).toNat)
  case atStart => exact ⟨n1, _, [], rfl, n10, by simp, T3, C3⟩
  case round =>
    clear T3 C3
    obtain ⟨I, v, us, rfl, I0, hLI, TT, C⟩ := hrel
    obtain ⟨va, vc, rfl⟩ := own_form TT.own
    replace hLI := hide hLI
    have hul : us.length ≤ 4 := by have := hLI.out; omega
    have hI9 : I ≤ 4 := by have := hLI.out; omega
    by_cases hI : 0 < I
    · obtain ⟨⟨t0, t1, t2⟩, m0, m1, m2⟩ := blk3 TT.out
      have htl := lt_of_block TT.out
      have hD := (Below.refl wr.heap.size wr).drew
      have C1 := C.below hD
      have T1 := TT.below hD
      go_upto_region 5 with fail
      go_region_law (first
        | (go_simp; go_at_call 38; refine (cbelow cb cap a bs B _ C1 hl (by omega) (by omega)).mono ?_; rintro e w7 ⟨q, rfl, hq0, hq1, C7, G7⟩; have T7 := T1.cur hcp G7; obtain ⟨⟨u0, u1, u2⟩, o0, o1, o2⟩ := blk3 T7.out; have hl7 := lt_of_block T7.out; dsimp only)
        | (refine step_append_lies _ (by rfl) _ _ _ (by rfl) (pb + 1) 3 i0 (.int .i64 0) 1 8 Try.underlying24 hi hz0 hz1 hz2 rfl (by decide) (.slice va us.length vc) us.length (us.map (Value.int .i64)) (by rfl) (by exact T7.own.alloc _) ⟨w7.heap.size, 0, none⟩ 1 1 [.int .i64 q] rfl rfl (by intro i u hj; match i, hj with | 0, hj => simp at hj; subst hj; simp [Addr.add]) (by intro u hu; simp at hu; subst hu; rfl) (by decide) (by unfold maxLen; omega) (by omega) (by simp; omega) (w7.heap.size + 1) (by simp) ?_; intro g cap2 w9 hown hgrow hat hlt2; have hmid := far_blk hgrow (blk_keep (balloc w7 _) T7.out) (fun j hj => by have := own_from T7.own (Nat.le_refl _) j hj; omega); obtain ⟨⟨v0, v1, v2⟩, x0, x1, x2⟩ := blk3 hmid))
      all_goals (
        have T9 := T7.under (by omega) ⟨hq0, hq1⟩ (balloc w7 _) hown hgrow
        have C9 : Cur (w9.setCell ⟨pb, 0, none⟩ (.slice (some ⟨g, 0, none⟩) (us.length + 1) cap2)) cb a cap bs := ((C7.below (balloc w7 _)).grow hOn hgrow (fun k hk => by have := own_from T7.own (Nat.le_refl _) k hk; omega)).grow hOn (grown_set _ _ _ _) (fun k hk => by simp at hk; omega)
        clear hown hgrow hat hlt2 hmid v0 v1 v2 x0 x1 x2 u0 u1 u2 o0 o1 o2 T7 C7 G7 T1 C1 hD
        go_wp2
        go_roundw)
      all_goals first
        | exact ⟨I - 1, _, us ++ [q], by go_num, by omega, by have := hLI.out; simp; omega, T9, C9⟩
        | (simp [intOf]; omega)
    · obtain rfl : I = 0 := by omega
      clear hLI hI9 I0 hI
      go_wp2_with fail
      refine (cbelow cb cap a bs 5 _ C hl (by omega) (by omega)).mono ?_
      rintro e wA ⟨n2, rfl, n20, n21, CA, GA⟩
      have TA := TT.cur hcp GA
      have hwn : IntKind.i64.wrap (1 + n2) = 1 + n2 := wrap_in _ (by omega) (by omega)
      clear TT C GA n10 n11
      go_wp2
      go_loopw [5, 6, 7, 8, 9, 10] (fun ii _ _ _ _ _ wr => ∃ (I : Int) (v : Value) (vs : List (Value × Value)) (rs : List RouteV), ii = .int .i64 I ∧ 0 ≤ I ∧ (rs.length : Int) + I = 1 + n2 ∧ Pt V wr cb pb B (.slice va us.length vc) us v vs rs ∧ Cur wr cb a cap bs) (fun ii _ _ _ _ _ _ => (intOf ii).toNat)
      case atStart => exact ⟨1 + n2, _, [], [], rfl, by omega, by simp, TA, CA⟩
      case round =>
        clear TA CA hwn
        obtain ⟨I, v, vs, rs, rfl, I0, hLI, TT, C⟩ := hrel
        obtain ⟨ra, rc, rfl⟩ := own_form TT.row
        replace hLI := hide hLI
        have hrl : rs.length ≤ 5 := by have := hLI.out; omega
        have hI5 : I ≤ 5 := by have := hLI.out; omega
        by_cases hI : 0 < I
        · obtain ⟨wS, rfl⟩ : ∃ x, x = wr := ⟨wr, rfl⟩
          have hbR := balloc wS (.cells #[.slice none 0 0, .slice none 0 0] 48)
          have RT0 := Rt.start (cb := cb) wS
          have C0 := C.below hbR
          have hOnR : ∀ k, OnCur cb a bs k → k < wS.heap.size := fun k hk => C.lt hk
          have hcr : cb < wS.heap.size := C.lt (.inl rfl)
          have hpr : pb < wS.heap.size := lt_of_block TT.out
          go_wp2
          generalize wS.alloc (.cells #[.slice none 0 0, .slice none 0 0] 48) = wq0 at *
          go_loopw [7] (fun kk wq => ∃ (k : Nat) (v : Value) (ns : List NeedV), kk = .int .i64 k ∧ k ≤ us.length ∧ NeedsTo us.length k ns ∧ Rt wS wq cb wS.heap.size v ns (.slice none 0 0) [] ∧ Cur wq cb a cap bs) (fun kk _ => us.length - (intOf kk).toNat)
          case atStart => exact ⟨0, _, [], rfl, Nat.zero_le _, NeedsTo.nil _, RT0, C0⟩
          case round =>
            clear RT0 C0 hbR C
            obtain ⟨k, v, ns, rfl, hk, hN, RT, C⟩ := hrel
            obtain ⟨na, nc, rfl⟩ := own_form RT.own.needs
            have hnl : ns.length ≤ 4 := by have := hN.len; omega
            have TQ := TT.cur hcp RT.gr
            by_cases hkl : k < us.length
            · have hkl' : (k : Int) < (us.length : Int) := by omega
              obtain ⟨⟨t0, t1, t2⟩, -⟩ := blk3 TQ.out
              go_wp2_with fail
              refine (conce cb cap a bs 3 _ C hl (by omega) (by omega)).mono ?_
              rintro e w4 ⟨r, rfl, C4, G4⟩
              have R4 := RT.cur hcr G4
              clear TQ t0 t1 t2 RT C G4
              have hwk : IntKind.i64.wrap ((k : Int) + 1) = (k : Int) + 1 := wrap_in _ (by omega) (by omega)
              cases r
              · go_wp2
                go_roundw
                case rel => exact ⟨k + 1, _, ns, by go_num, by omega, hN.skip, R4, C4⟩
                case measure => simp [intOf]; omega
              · obtain ⟨⟨t0, t1⟩, m0, m1⟩ := blk2 R4.out
                have htl := lt_of_block R4.out
                have hD := (Below.refl w4.heap.size w4).drew
                have C5 := C4.below hD
                have R5 := R4.below hD
                go_upto_region 14 with fail
                go_region_law (first
                  | (go_simp; go_at_call 38; refine (cbelow cb cap a bs 2 _ C5 hl (by omega) (by omega)).mono ?_; rintro e w7 ⟨q, rfl, hq0, hq1, C7, G7⟩; have T7 := R5.cur hcr G7; obtain ⟨⟨u0, u1⟩, o0, o1⟩ := blk2 T7.out; have hl7 := lt_of_block T7.out; dsimp only)
                  | (refine step_append_lies _ (by rfl) _ _ _ (by rfl) (wS.heap.size + 1) 74 j0 _ 2 16 Try.underlying46 hj hy0 hy1 hy2 rfl (by decide) (.slice na ns.length nc) ns.length (flatNeeds ns) (by rfl) (by exact T7.own.needs.alloc _) ⟨w7.heap.size, 0, none⟩ 1 1 (NeedV.vs ⟨(k : Int), q⟩) rfl rfl (by exact World.news_of_block (one_block w7 _)) (by simp [NeedV.vs, Value.oneCell']) (by decide) (by unfold maxLen; omega) (by omega) (by simp; omega) (w7.heap.size + 1) (by simp) ?_; intro g cap2 w9 hown hgrow hat hlt2; have hmid := far_blk hgrow (blk_keep (balloc w7 _) T7.out) (fun j hj => by have := own_from T7.own.needs (Nat.le_refl _) j hj; omega); obtain ⟨⟨v0, v1⟩, x0, x1⟩ := blk2 hmid))
                all_goals (
                  have T9 := T7.need (Nat.le_refl _) (balloc w7 _) hown hgrow
                  have C9 : Cur (w9.setCell ⟨wS.heap.size, 0, none⟩ (.slice (some ⟨g, 0, none⟩) (ns.length + 1) cap2)) cb a cap bs := ((C7.below (balloc w7 _)).grow hOnR hgrow (fun k hk => by have := own_from T7.own.needs (Nat.le_refl _) k hk; omega)).grow hOnR (grown_set _ _ _ _) (fun k hk => by simp at hk; omega)
                  clear hown hgrow hat hlt2 hmid v0 v1 x0 x1 u0 u1 o0 o1 T7 C7 G7 R5 C5 hD
                  go_wp2
                  go_roundw)
                all_goals first
                  | exact ⟨k + 1, _, ns ++ [⟨(k : Int), q⟩], by go_num, by omega, hN.take hkl hq0 hq1, T9, C9⟩
                  | (simp [intOf]; omega)
            · have hkl' : ¬ ((k : Int) < (us.length : Int)) := by omega
              obtain ⟨⟨t0, t1, t2⟩, -⟩ := blk3 TQ.out
              go_wp2_with fail
              refine (cbelow cb cap a bs B _ C hl (by omega) (by omega)).mono ?_
              rintro e w4 ⟨b, rfl, b0, b1, C4, G4⟩
              have R4 := RT.cur hcr G4
              clear TQ t0 t1 t2 RT C G4
              go_wp2
              go_loopw [9, 10] (fun kk _ wq => ∃ (m : Nat) (v : Value) (ds : List Int), kk = .int .i64 m ∧ m ≤ 3 ∧ PathTo B m ds ∧ Rt wS wq cb wS.heap.size (.slice na ns.length nc) ns v ds ∧ Cur wq cb a cap bs) (fun kk _ _ => 3 - (intOf kk).toNat)
              case atStart => exact ⟨0, _, [], rfl, Nat.zero_le _, PathTo.nil _, R4, C4⟩
              case round =>
                clear R4 C4
                obtain ⟨m, v, ds, rfl, hm, hP, RT, C⟩ := hrel
                obtain ⟨da, dc, rfl⟩ := own_form RT.own.blocks
                have hdl : ds.length ≤ 3 := by have := hP.len; omega
                go_wp2_with fail
                refine (cbelow cb cap a bs 3 _ C hl (by omega) (by omega)).mono ?_
                rintro e w5 ⟨r, rfl, r0, r1, C5, G5⟩
                have R5 := RT.cur hcr G5
                have TQ := TT.cur hcp R5.gr
                have hwr : IntKind.i64.wrap (1 + r) = 1 + r := wrap_in _ (by omega) (by omega)
                clear RT C G5
                by_cases hmr : (m : Int) < 1 + r
                · have hwb : IntKind.i64.wrap (b + (m : Int)) = b + (m : Int) := wrap_in _ (by omega) (by omega)
                  obtain ⟨hwm, x0, x1⟩ := rem_in (x := b + (m : Int)) (n := B) (by omega) (by omega) (by omega)
                  obtain ⟨⟨t0, t1, t2⟩, -⟩ := blk3 TQ.out
                  obtain ⟨⟨y0, y1⟩, f0, f1⟩ := blk2 R5.out
                  have hBne : B ≠ 0 := by omega
                  have hwm2 : IntKind.i64.wrap ((m : Int) + 1) = (m : Int) + 1 := wrap_in _ (by omega) (by omega)
                  have hIn := Ints.own R5.own.blocks rfl
                  go_wp2_with fail
                  clear t0 t1 t2 hwb hwm hBne TQ
                  generalize (b + (m : Int)) % B = x at *
                  by_cases hx : x ∈ ds
                  · refine (cHasV (zs := ds) (v := true) (by simpa using hx) rfl hIn (by omega)).mono ?_
                    rintro e w6 ⟨rfl, hw⟩
                    subst w6
                    clear hIn y0 y1 f0 f1
                    go_wp2
                    go_roundw
                    case rel => exact ⟨m + 1, _, ds, by go_num, by omega, hP.skip hx, R5, C5⟩
                    case measure => simp [intOf]; omega
                  · refine (cHasV (zs := ds) (v := false) (by simpa using hx) rfl hIn (by omega)).mono ?_
                    rintro e w6 ⟨rfl, hw⟩
                    subst w6
                    clear hIn
                    have hx2 := balloc w5 (.cells #[.int .i64 x] 3)
                    have hBk := one_block w5 (.cells #[.int .i64 x] 3)
                    have ho2 := own_keep R5.own.blocks hx2
                    have hLt := lt_of_block R5.out
                    go_wp2_with (at_builtin; refine wpList_append_own _ rfl _ _ 24 rfl (wS.heap.size + 1) 3 i0 _ 1 8 Try.underlying24 hi hz0 hz1 hz2 rfl (by decide) _ _ _ rfl ho2 ⟨w5.heap.size, 0, none⟩ 1 1 [.int .i64 x] rfl rfl ?c1 ?c2 ?c3 ?c4 ?c5 ?_)
                    case c1 => exact World.news_of_block hBk
                    case c2 => simp [Value.oneCell']
                    case c3 => unfold maxLen; omega
                    case c4 => omega
                    case c5 => simp; omega
                    intro v2 w7 hown hgrow _
                    rcases hown.2 with ⟨_, h0⟩ | ⟨g, cap2, cur, rfl, _⟩
                    · simp at h0
                    have T9 := R5.block (Nat.le_refl _) hx2 hown hgrow
                    have hmid := far_blk hgrow (blk_keep hx2 R5.out) (fun j hj => by have := own_from R5.own.blocks (Nat.le_refl _) j hj; omega)
                    have C9 : Cur (w7.setCell ⟨wS.heap.size, 1, none⟩ (.slice (some ⟨g, 0, none⟩) (ds.length + 1) cap2)) cb a cap bs := ((C5.below hx2).grow hOnR hgrow (fun k hk => by have := own_from R5.own.blocks (Nat.le_refl _) k hk; omega)).grow hOnR (grown_set _ _ _ _) (fun k hk => by simp at hk; omega)
                    obtain ⟨⟨v0, v1⟩, e0, e1⟩ := blk2 hmid
                    clear hown hgrow hmid hx2 hBk ho2 y0 y1 f0 f1 R5 C5
                    go_wp2
                    go_roundw
                    case rel => exact ⟨m + 1, _, ds ++ [x], by go_num, by omega, hP.take hx x0 x1, T9, C9⟩
                    case measure => simp [intOf]; omega
                · have hm0 : 0 < m := by omega
                  have hRok := routeOk_of hN hP hm0
                  have hRo : RouteDr w5 (pb + 1) (.slice na ns.length nc) (.slice da ds.length dc) ⟨ns, ds⟩ := R5.own.mono (by omega)
                  have hx2 := balloc w5 (.cells #[.slice na ns.length nc, .slice da ds.length dc] 48)
                  have hBk := one_block w5 (.cells #[.slice na ns.length nc, .slice da ds.length dc] 48)
                  have ho2 := own_keep TQ.row hx2
                  have hLt := lt_of_block TQ.out
                  obtain ⟨⟨t0, t1, t2⟩, -⟩ := blk3 TQ.out
                  obtain ⟨⟨y0, y1⟩, -⟩ := blk2 R5.out
                  go_wp2_with (at_builtin; refine wpList_append_own _ rfl _ _ 25 rfl (pb + 1) 48 q0 _ 2 48 Try.underlying25 hq hx0 hx1 hx2' rfl (by decide) _ _ _ rfl ho2 ⟨w5.heap.size, 0, none⟩ 1 1 [.slice na ns.length nc, .slice da ds.length dc] rfl rfl ?c1 ?c2 ?c3 ?c4 ?c5 ?_)
                  case c1 => exact World.news_of_block hBk
                  case c2 => simp [Value.oneCell']
                  case c3 => unfold maxLen; omega
                  case c4 => omega
                  case c5 => simp; omega
                  intro v2 w7 hown hgrow _
                  rcases hown.2 with ⟨_, h0⟩ | ⟨g, cap2, cur, rfl, _⟩
                  · simp at h0
                  have T9 := TQ.push (by omega) hRo hRok hx2 hown hgrow
                  have hmid := far_blk hgrow (blk_keep hx2 TQ.out) (fun j hj => by have := own_from TQ.row (Nat.le_refl _) j hj; omega)
                  have C9 : Cur (w7.setCell ⟨pb, 2, none⟩ (.slice (some ⟨g, 0, none⟩) (rs.length + 1) cap2)) cb a cap bs := ((C5.below hx2).grow hOn hgrow (fun k hk => by have := own_from TQ.row (Nat.le_refl _) k hk; omega)).grow hOn (grown_set _ _ _ _) (fun k hk => by simp at hk; omega)
                  obtain ⟨⟨v0, v1, v2⟩, e0, e1, e2⟩ := blk3 hmid
                  have hwI : IntKind.i64.wrap (I - 1) = I - 1 := wrap_in _ (by omega) (by omega)
                  clear hown hgrow hmid hx2 hBk ho2 t0 t1 t2 y0 y1 R5 C5 TQ
                  go_wp2
                  go_roundw
                  case rel => exact ⟨I - 1, _, vs ++ [(.slice na ns.length nc, .slice da ds.length dc)], rs ++ [⟨ns, ds⟩], by go_num, by omega, by have := hLI.out; simp; omega, T9, C9⟩
                  case measure => simp [intOf]; omega
        · obtain rfl : I = 0 := by omega
          have R1 := far_blk TT.gr R0 (fun j hj => by simp at hj; omega)
          obtain ⟨⟨t0, t1, t2⟩, -⟩ := blk3 TT.out
          obtain ⟨⟨y0, y1, y2⟩, f0, f1, f2⟩ := blk3 R1
          have hne : w.heap.size ≠ pb := by omega
          have T9 := TT.from' hGW
          go_wp2
          refine bodyPost_ret (v := .agg #[.slice va us.length vc, .int .i64 B, .slice ra rs.length rc]) (by simp [results, Try.results20, go_sem, y0, y1, y2]) rfl ?_
          refine ⟨B, us, rs, vs, pb, va, vc, ra, rc, rfl, by omega, hB2, hB7, hul, by have := hLI.out; omega, hrl, ((T9.set (Nat.le_refl _) (by omega)).set (Nat.le_refl _) (by omega)).set (Nat.le_refl _) (by omega), ?_⟩
          exact ((C.keep fun k hk => Below.heap_setCell _ _ _ _ (by have := hOnW k hk; dsimp only; omega)).keep fun k hk => Below.heap_setCell _ _ _ _ (by have := hOnW k hk; dsimp only; omega)).keep fun k hk => Below.heap_setCell _ _ _ _ (by have := hOnW k hk; dsimp only; omega)
end Go.Proofs.Ytpgjllefhlanpaa
