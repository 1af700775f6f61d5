/- The model's LockingOk. -/
import Derived.Test.YtpgjllefhlanpaaSQ
import Derived.Test.YtpgjllefhlanpaaSA
import Derived.Test.YtpgjllefhlanpaaST
import Derived.Deep.RegionHeld3
namespace Go.Proofs.Ytpgjllefhlanpaa
open Go.RowKit
theorem lockOkS_parts (p : PlantV) (l : LockV) : lockOk p l = (plantOk p && decide (l.pos.length = p.under.length) && decide (l.set.length = p.routes.length) && decide ((l.taken.length : Int) = p.blocks) && l.pos.all (fun x => inB x 0 1) && setsS p l) := by
  by_cases h : l.set.length = p.routes.length
  · rw [sets_eq h]
    unfold lockOk fits
    simp only [Bool.and_assoc]
  · unfold lockOk fits
    simp [h]
def setsQ (R : List RouteV) (po : List Int) (se : List Bool) (a : Nat) : Bool :=
  !se.getD a false || (!((List.range a).any fun b => se.getD b false && clash (R.getD a RouteV.zero) (R.getD b RouteV.zero)) && (R.getD a RouteV.zero).needs.all fun n => decide (po.getD n.point.toNat 0 = n.pos))

set_option maxRecDepth 20000 in
set_option maxHeartbeats 6400000 in
theorem cLockOkS (a b x y z : Option Addr) (ca cb cx cy cz : Nat) (p : PlantV) (l : LockV) (w : World) (hP : PlantIn w a b p) (hL : LockIn w x y z l) (hS : Small p) (hT : LSmall l) :
    Calls Try.prog 54 #[plantVal a ca b cb p, lockVal x cx y cy z cz l] w fun e w' => e = .returned (.bool (lockOk p l)) ∧ Below w.heap.size w w' := by
  have CP := fun w hP => cPlantOkS a b ca cb p w hP hS
  generalize hres : lockOk p l = res
  rw [lockOkS_parts] at hres
  replace hres := hide hres
  have t1 := hT.pos
  have t2 := hT.set
  have t3 := hT.taken
  have u1 := hS.under
  have u2 := hS.routes
  have hat := fun (w1 : World) (hb : Below w.heap.size w w1) (i : Nat) (hi : i < p.routes.length) => (hP.below hb).at hi
  have hsm := fun i (hi : i < p.routes.length) => hS.at hi
  have hnd := fun (h : plantOk p = true) i (hi : i < p.routes.length) (e : NeedV) (he : e ∈ (p.route i).needs) => (right_of h).need hi he
  have hr12 := fun (h : plantOk p = true) => (right_of h).r12
  have hsets : Hid (setsS p l = (List.range p.routes.length).all (setsQ p.routes l.pos l.set)) := rfl
  obtain ⟨hx, hy, hz⟩ := hL
  unfold plantVal lockVal PlantV.route at *
  obtain ⟨po, se, ta⟩ := l
  dsimp only at *
  generalize hok : plantOk p = ok at *
  generalize setsS p ⟨po, se, ta⟩ = ss at *
  obtain ⟨U, B, R⟩ := p
  dsimp only at *
  have HB := btrans (balloc w (.cells #[.slice a U.length ca, .int .i64 B, .slice b R.length cb] 27)) (balloc _ (.cells #[.slice x po.length cx, .slice y se.length cy, .slice z ta.length cz] 33))
  have hk : ((w.alloc (.cells #[.slice a U.length ca, .int .i64 B, .slice b R.length cb] 27)).alloc (.cells #[.slice x po.length cx, .slice y se.length cy, .slice z ta.length cz] 33)).heap[w.heap.size]? = some (.cells #[.slice a U.length ca, .int .i64 B, .slice b R.length cb] 27 (0, 0)) := two_blocks1 _ _ _
  have hj : ((w.alloc (.cells #[.slice a U.length ca, .int .i64 B, .slice b R.length cb] 27)).alloc (.cells #[.slice x po.length cx, .slice y se.length cy, .slice z ta.length cz] 33)).heap[w.heap.size + 1]? = some (.cells #[.slice x po.length cx, .slice y se.length cy, .slice z ta.length cz] 33 (0, 0)) := two_blocks2 _ _ _
  go_enter Try.func54, Try.ntmps54
  go_wp2_with fail
  refine (CP _ (hP.below HB)).mono ?_
  rintro e w1 ⟨rfl, hb⟩
  replace hk := blk_keep hb hk
  replace hj := blk_keep hb hj
  replace HB := btrans HB hb
  clear hb CP
  cases ok
  · have hf := hide (show res = false by rw [← hres.out]; simp)
    replace hok := hide hok
    go_wp2
    go_ret
    exact ⟨ret_bool hf.out.symm, HB⟩
  obtain ⟨⟨z0, z1, z2⟩, -⟩ := blk3 hk
  obtain ⟨⟨z3, z4, z5⟩, -⟩ := blk3 hj
  replace hnd := hnd rfl
  replace hr12 := hr12 rfl
  replace hok := hide hok
  by_cases h1 : po.length = U.length
  rotate_left
  · have hf := hide (show res = false by rw [← hres.out]; simp [h1])
    have q3 : ((po.length : Int) != (U.length : Int)) = true := by simp; omega
    go_wp2
    go_ret
    exact ⟨ret_bool hf.out.symm, HB⟩
  by_cases h2 : se.length = R.length
  rotate_left
  · have hf := hide (show res = false by rw [← hres.out]; simp [h2])
    have q0 : ((po.length : Int) != (U.length : Int)) = false := by simp; omega
    have q3 : ((se.length : Int) != (R.length : Int)) = true := by simp; omega
    replace h1 := hide h1
    go_wp2
    go_ret
    exact ⟨ret_bool hf.out.symm, HB⟩
  by_cases h3 : (ta.length : Int) = B
  rotate_left
  · have hf := hide (show res = false by rw [← hres.out]; simp [h3])
    have q0 : ((po.length : Int) != (U.length : Int)) = false := by simp; omega
    have q1 : ((se.length : Int) != (R.length : Int)) = false := by simp; omega
    have q3 : ((ta.length : Int) != B) = true := by simp; omega
    replace h1 := hide h1
    replace h2 := hide h2
    go_wp2
    go_ret
    exact ⟨ret_bool hf.out.symm, HB⟩
  replace hres := hide (show (((po.drop 0).all fun x => inB x 0 1) && ((List.range R.length).drop 0).all (setsQ R po se)) = res by rw [← hres.out, hsets.out]; simp [h1, h2, h3])
  have q0 : ((po.length : Int) != (U.length : Int)) = false := by simp; omega
  have q1 : ((se.length : Int) != (R.length : Int)) = false := by simp; omega
  have q3 : ((ta.length : Int) != B) = false := by simp; omega
  replace h1 := hide h1
  replace h2 := hide h2
  replace h3 := hide h3
  clear hsets
  go_wp2
  clear z0 z1 z2 z3 z4 z5 q0 q1 q3
  go_loopw [5] (fun i wr => ∃ k : Nat, k ≤ po.length ∧ i = .int .i64 k ∧ Hid ((((po.drop k).all fun x => inB x 0 1) && ((List.range R.length).drop 0).all (setsQ R po se)) = res) ∧ Below w.heap.size w wr ∧ wr.heap[w.heap.size]? = some (.cells #[.slice a U.length ca, .int .i64 B, .slice b R.length cb] 27 (0, 0)) ∧ wr.heap[w.heap.size + 1]? = some (.cells #[.slice x po.length cx, .slice y se.length cy, .slice z ta.length cz] 33 (0, 0))) (fun i _ => po.length - (intOf i).toNat)
  case atStart => exact ⟨0, Nat.zero_le _, rfl, hres, HB, hk, hj⟩
  case round =>
    obtain ⟨k, hk', rfl, hres', hb, hk1, hj1⟩ := hrel
    clear hres HB hk hj
    obtain ⟨⟨z0, z1, z2⟩, -⟩ := blk3 hk1
    obtain ⟨⟨z3, z4, z5⟩, -⟩ := blk3 hj1
    by_cases hlt : k < po.length
    · rcases hx with h | ⟨xb, xo, rfl, hxc⟩
      · simp [h] at hlt
      have v0 := ble hb (hxc k hlt)
      have e0 : po.getD k 0 = po[k] := by simp [List.getD, hlt]
      rw [e0] at v0
      have hd := hide ((congrArg (· && ((List.range R.length).drop 0).all (setsQ R po se)) (all_drop (P := fun x => inB x 0 1) hlt)).symm.trans hres'.out)
      generalize po[k] = v at *
      clear hres' hxc e0
      go_wp2_with fail
      refine (cIn v 0 1 _).mono ?_
      rintro e w2 ⟨rfl, hw⟩
      subst w2
      cases hv : inB v 0 1
      · have hf := hide (show res = false by rw [← hd.out, hv]; rfl)
        clear hd
        go_wp2
        go_ret
        exact ⟨ret_bool hf.out.symm, hb⟩
      · have hf := hide (show (((po.drop (k + 1)).all fun x => inB x 0 1) && ((List.range R.length).drop 0).all (setsQ R po se)) = res by rw [← hd.out, hv]; rfl)
        clear hd
        go_wp2
        go_roundw
        case rel => exact ⟨k + 1, by omega, by go_num, hf, hb, hk1, hj1⟩
        case measure => simp [intOf]; omega
    obtain rfl : k = po.length := by omega
    have hr2 := hide (show ((List.range R.length).drop 0).all (setsQ R po se) = res by rw [← hres'.out, List.drop_length]; rfl)
    clear hres'
    go_wp2
    clear z0 z1 z2 z3 z4 z5
    obtain ⟨wo, hwo⟩ : ∃ wo, wo = wr := ⟨wr, rfl⟩
    rw [← hwo] at hb hk1 hj1
    rw [← hwo]
    clear hwo
    go_loopw [6, 7, 8] (fun i _ _ wr => ∃ k : Nat, k ≤ R.length ∧ i = .int .i64 k ∧ Hid (((List.range R.length).drop k).all (setsQ R po se) = res) ∧ Below w.heap.size w wr ∧ wr.heap[w.heap.size]? = some (.cells #[.slice a U.length ca, .int .i64 B, .slice b R.length cb] 27 (0, 0)) ∧ wr.heap[w.heap.size + 1]? = some (.cells #[.slice x po.length cx, .slice y se.length cy, .slice z ta.length cz] 33 (0, 0))) (fun i _ _ _ => R.length - (intOf i).toNat)
    case atStart => exact ⟨0, Nat.zero_le _, rfl, hr2, hb, hk1, hj1⟩
    case round =>
      obtain ⟨k, hk', rfl, hres', hb2, hk2, hj2⟩ := hrel
      clear hr2 hb hk1 hj1
      obtain ⟨⟨z0, z1, z2⟩, -⟩ := blk3 hk2
      obtain ⟨⟨z3, z4, z5⟩, -⟩ := blk3 hj2
      by_cases hlt : k < R.length
      rotate_left
      · obtain rfl : k = R.length := by omega
        have hf := hide (show res = true by rw [← hres'.out, List.drop_of_length_le (by simp)]; rfl)
        go_wp2
        go_ret
        exact ⟨ret_bool hf.out.symm, hb2⟩
      have hls : k < se.length := by have := h2.out; omega
      have hls' : (k : Int) < se.length := by omega
      have hlR' : (k : Int) < R.length := by omega
      rcases hy with h | ⟨yb, yo, rfl, hyc⟩
      · simp [h] at hls
      have v0 := ble hb2 (hyc k hls)
      have hd := hide ((all_drop (P := setsQ R po se) (zs := List.range R.length) (k := k) (by simpa using hlt)).symm.trans hres'.out)
      simp only [List.getElem_range] at hd
      unfold setsQ at hd
      have hfold : Hid (∀ j, setsQ R po se j = (!se.getD j false || (!((List.range j).any fun b => se.getD b false && clash (R.getD j RouteV.zero) (R.getD b RouteV.zero)) && (R.getD j RouteV.zero).needs.all fun n => decide (po.getD n.point.toNat 0 = n.pos)))) := fun _ => rfl
      generalize hrest : ((List.range R.length).drop (k + 1)).all (fun a => !se.getD a false || (!((List.range a).any fun b => se.getD b false && clash (R.getD a RouteV.zero) (R.getD b RouteV.zero)) && (R.getD a RouteV.zero).needs.all fun n => decide (po.getD n.point.toNat 0 = n.pos))) = rest at hd
      have hrest' : Hid (((List.range R.length).drop (k + 1)).all (setsQ R po se) = rest) := hrest
      clear hrest hfold hres'
      generalize hsv : se.getD k false = sv at v0 hd
      replace hsv := hide hsv
      cases sv
      · have hf := hide (show ((List.range R.length).drop (k + 1)).all (setsQ R po se) = res by rw [hrest'.out, ← hd.out]; rfl)
        clear hd hrest'
        go_wp2
        go_roundw
        case rel => exact ⟨k + 1, by omega, by go_num, hf, hb2, hk2, hj2⟩
        case measure => simp [intOf]; omega
      have hd2 := hide (show (!(((List.range k).drop 0).any fun b => se.getD b false && clash (R.getD k RouteV.zero) (R.getD b RouteV.zero)) && ((R.getD k RouteV.zero).needs.all fun n => decide (po.getD n.point.toNat 0 = n.pos)) && rest) = res by rw [← hd.out]; simp [Bool.and_assoc])
      clear hd
      go_wp2
      clear z0 z1 z2 z3 z4 z5 v0
      obtain ⟨wi, hwi⟩ : ∃ wi, wi = wr := ⟨wr, rfl⟩
      rw [← hwi] at hb2 hk2 hj2
      rw [← hwi]
      clear hwi
      go_loopw [7] (fun i wr => ∃ m : Nat, m ≤ k ∧ i = .int .i64 m ∧ Hid ((!(((List.range k).drop m).any fun b => se.getD b false && clash (R.getD k RouteV.zero) (R.getD b RouteV.zero)) && ((R.getD k RouteV.zero).needs.all fun n => decide (po.getD n.point.toNat 0 = n.pos)) && rest) = res) ∧ Below w.heap.size w wr ∧ wr.heap[w.heap.size]? = some (.cells #[.slice a U.length ca, .int .i64 B, .slice b R.length cb] 27 (0, 0)) ∧ wr.heap[w.heap.size + 1]? = some (.cells #[.slice x po.length cx, .slice (some ⟨yb, yo, none⟩) se.length cy, .slice z ta.length cz] 33 (0, 0))) (fun i _ => k - (intOf i).toNat)
      case atStart => exact ⟨0, Nat.zero_le _, rfl, hd2, hb2, hk2, hj2⟩
      case round =>
        obtain ⟨m, hm', rfl, hres', hb3, hk3, hj3⟩ := hrel
        clear hd2 hb2 hk2 hj2
        by_cases hlm : m < k
        · have hms : m < se.length := by omega
          have hms' : (m : Int) < se.length := by omega
          have hmR : m < R.length := by omega
          have hmR' : (m : Int) < R.length := by omega
          obtain ⟨g, off, n, cn, n2, cn2, rfl, c1, c2, -, c3, c4⟩ := hat _ hb3 k hlt
          obtain ⟨g', off', m1, cm1, m2, cm2, he, d1, d2, -, d3, d4⟩ := hat _ hb3 m hmR
          simp only [Option.some.injEq, Addr.mk.injEq, and_true] at he
          obtain ⟨rfl, rfl⟩ := he
          have CC := fun (w1 : World) (hb1 : Below wr.heap.size wr w1) => cAgainst n n2 m1 m2 cn cn2 cm1 cm2 (R.getD k RouteV.zero) (R.getD m RouteV.zero) w1 (c3.below hb1) (c4.below hb1) (d3.below hb1) (d4.below hb1) (hsm k hlt) (hsm m hmR)
          unfold routeVal at CC
          have v0 := ble hb3 (hyc m hms)
          have hd := hide ((congrArg (fun q => (!q && ((R.getD k RouteV.zero).needs.all fun n => decide (po.getD n.point.toNat 0 = n.pos)) && rest)) (any_drop (P := fun b => se.getD b false && clash (R.getD k RouteV.zero) (R.getD b RouteV.zero)) (zs := List.range k) (k := m) (by simpa using hlm))).symm.trans hres'.out)
          simp only [List.getElem_range] at hd
          generalize ((R.getD k RouteV.zero).needs.all fun n => decide (po.getD n.point.toNat 0 = n.pos)) = la at *
          generalize hanyP : (((List.range k).drop (m + 1)).any fun b => se.getD b false && clash (R.getD k RouteV.zero) (R.getD b RouteV.zero)) = an at *
          replace hanyP := hide hanyP
          generalize clash (R.getD k RouteV.zero) (R.getD m RouteV.zero) = cl at *
          obtain ⟨es, bs, hes, hbs⟩ : ∃ es bs, es = (R.getD k RouteV.zero).needs ∧ bs = (R.getD k RouteV.zero).blocks := ⟨_, _, rfl, rfl⟩
          obtain ⟨fs, cs, hfs, hcs⟩ : ∃ fs cs, fs = (R.getD m RouteV.zero).needs ∧ cs = (R.getD m RouteV.zero).blocks := ⟨_, _, rfl, rfl⟩
          rw [← hes] at c1
          rw [← hbs] at c2
          rw [← hfs] at d1
          rw [← hcs] at d2
          rw [← hes, ← hbs, ← hfs, ← hcs] at CC
          clear hes hbs hfs hcs c3 c4 d3 d4 hres'
          generalize hsm2 : se.getD m false = sm at v0 hd
          replace hsm2 := hide hsm2
          obtain ⟨⟨z0, z1, z2⟩, -⟩ := blk3 hk3
          obtain ⟨⟨z3, z4, z5⟩, -⟩ := blk3 hj3
          cases sm
          · have hf := hide (show (!an && la && rest) = res by rw [← hd.out]; simp)
            rw [← hanyP.out] at hf
            clear hd CC
            go_wp2
            go_quiet (fail)
            go_wp2
            go_roundw
            case rel => exact ⟨m + 1, by omega, by go_num, hf, bdraw hb3 _, hk3, hj3⟩
            case measure => simp [intOf]; omega
          cases cl
          · have hf := hide (show (!an && la && rest) = res by rw [← hd.out]; simp)
            rw [← hanyP.out] at hf
            clear hd
            go_wp2_with fail
            refine wp_region_held_drew (S := (fun w' => w'.cell? ⟨w.heap.size, 2, none⟩ = some (.slice (some ⟨g, off, none⟩) R.length cb) ∧ w'.cell? ⟨w.heap.size + 1, 1, none⟩ = some (.slice (some ⟨yb, yo, none⟩) se.length cy) ∧ w'.cell? ⟨yb, yo + m, none⟩ = some (.bool true) ∧ w'.cell? ⟨g, off + k * 2, none⟩ = some (.slice n es.length cn) ∧ w'.cell? ⟨g, off + k * 2 + 1, none⟩ = some (.slice n2 bs.length cn2) ∧ w'.cell? ⟨g, off + m * 2, none⟩ = some (.slice m1 fs.length cm1) ∧ w'.cell? ⟨g, off + m * 2 + 1, none⟩ = some (.slice m2 cs.length cm2))) (by kernel_rfl) ?_ (fun hHeld => ?_)
            · go_keep
            refine wpAnyH_take (i := 0) (v := .pointer (some ⟨w.heap.size + 1, 1, none⟩)) rfl (by kernel_rfl) (by kernel_rfl) (by kernel_rfl) (fun _ _ _ h => h) (Or.inl ⟨by kernel_rfl, fun w hS => by (obtain ⟨hS0, hS1, hS2, hS3, hS4, hS5, hS6⟩ := hS; go_simp)⟩) hHeld ?_
            change wpAnyH _ _ _ _ _ _ _ { tmps := #[_, _, _, _, _, _, _, _, _, _, _, _, _, _, _, _, _, _, _, _, _, _, _, _, _, _, _, _, _, _, _, _, _, _, _, _, _, _, _, _, _, _, _, _, _, _, _, _, _, _, _, _, _, _, _, _, _, _, _, _, _, _, _, _, _, _, _, _, _, _, .pointer (some ⟨w.heap.size + 1, 1, none⟩), _, _, _, _, _, _, _, _, _, _, _, _, _, _, _, _, _, _, _, _, _, _, _, _, _, _, _, _, _, _, _, _, _, _, _, _, _, _, _, _, _, _, _, _, _, _, _, _, _, _, _, _, _], defers := [] } _
            refine wpAnyH_take (i := 1) (v := .slice (some ⟨yb, yo, none⟩) se.length cy) rfl (by kernel_rfl) (by kernel_rfl) (by kernel_rfl) (fun _ _ _ h => h) (Or.inl ⟨by kernel_rfl, fun w hS => by (obtain ⟨hS0, hS1, hS2, hS3, hS4, hS5, hS6⟩ := hS; go_simp)⟩) hHeld ?_
            change wpAnyH _ _ _ _ _ _ _ { tmps := #[_, _, _, _, _, _, _, _, _, _, _, _, _, _, _, _, _, _, _, _, _, _, _, _, _, _, _, _, _, _, _, _, _, _, _, _, _, _, _, _, _, _, _, _, _, _, _, _, _, _, _, _, _, _, _, _, _, _, _, _, _, _, _, _, _, _, _, _, _, _, .pointer (some ⟨w.heap.size + 1, 1, none⟩), .slice (some ⟨yb, yo, none⟩) se.length cy, _, _, _, _, _, _, _, _, _, _, _, _, _, _, _, _, _, _, _, _, _, _, _, _, _, _, _, _, _, _, _, _, _, _, _, _, _, _, _, _, _, _, _, _, _, _, _, _, _, _, _, _], defers := [] } _
            refine wpAnyH_take (i := 2) (v := .int .i64 (m : Int)) rfl (by kernel_rfl) (by kernel_rfl) (by kernel_rfl) (fun _ _ _ h => h) (Or.inl ⟨by kernel_rfl, fun w hS => by (obtain ⟨hS0, hS1, hS2, hS3, hS4, hS5, hS6⟩ := hS; go_simp)⟩) hHeld ?_
            change wpAnyH _ _ _ _ _ _ _ { tmps := #[_, _, _, _, _, _, _, _, _, _, _, _, _, _, _, _, _, _, _, _, _, _, _, _, _, _, _, _, _, _, _, _, _, _, _, _, _, _, _, _, _, _, _, _, _, _, _, _, _, _, _, _, _, _, _, _, _, _, _, _, _, _, _, _, _, _, _, _, _, _, .pointer (some ⟨w.heap.size + 1, 1, none⟩), .slice (some ⟨yb, yo, none⟩) se.length cy, .int .i64 (m : Int), _, _, _, _, _, _, _, _, _, _, _, _, _, _, _, _, _, _, _, _, _, _, _, _, _, _, _, _, _, _, _, _, _, _, _, _, _, _, _, _, _, _, _, _, _, _, _, _, _, _, _], defers := [] } _
            refine wpAnyH_take (i := 3) (v := .pointer (some ⟨yb, yo + m, none⟩)) rfl (by kernel_rfl) (by kernel_rfl) (by kernel_rfl) (fun _ _ _ h => h) (Or.inl ⟨by kernel_rfl, fun w hS => by (obtain ⟨hS0, hS1, hS2, hS3, hS4, hS5, hS6⟩ := hS; go_simp)⟩) hHeld ?_
            change wpAnyH _ _ _ _ _ _ _ { tmps := #[_, _, _, _, _, _, _, _, _, _, _, _, _, _, _, _, _, _, _, _, _, _, _, _, _, _, _, _, _, _, _, _, _, _, _, _, _, _, _, _, _, _, _, _, _, _, _, _, _, _, _, _, _, _, _, _, _, _, _, _, _, _, _, _, _, _, _, _, _, _, .pointer (some ⟨w.heap.size + 1, 1, none⟩), .slice (some ⟨yb, yo, none⟩) se.length cy, .int .i64 (m : Int), .pointer (some ⟨yb, yo + m, none⟩), _, _, _, _, _, _, _, _, _, _, _, _, _, _, _, _, _, _, _, _, _, _, _, _, _, _, _, _, _, _, _, _, _, _, _, _, _, _, _, _, _, _, _, _, _, _, _, _, _, _], defers := [] } _
            refine wpAnyH_take (i := 4) (v := .bool true) rfl (by kernel_rfl) (by kernel_rfl) (by kernel_rfl) (fun _ _ _ h => h) (Or.inl ⟨by kernel_rfl, fun w hS => by (obtain ⟨hS0, hS1, hS2, hS3, hS4, hS5, hS6⟩ := hS; go_simp)⟩) hHeld ?_
            change wpAnyH _ _ _ _ _ _ _ { tmps := #[_, _, _, _, _, _, _, _, _, _, _, _, _, _, _, _, _, _, _, _, _, _, _, _, _, _, _, _, _, _, _, _, _, _, _, _, _, _, _, _, _, _, _, _, _, _, _, _, _, _, _, _, _, _, _, _, _, _, _, _, _, _, _, _, _, _, _, _, _, _, .pointer (some ⟨w.heap.size + 1, 1, none⟩), .slice (some ⟨yb, yo, none⟩) se.length cy, .int .i64 (m : Int), .pointer (some ⟨yb, yo + m, none⟩), .bool true, _, _, _, _, _, _, _, _, _, _, _, _, _, _, _, _, _, _, _, _, _, _, _, _, _, _, _, _, _, _, _, _, _, _, _, _, _, _, _, _, _, _, _, _, _, _, _, _, _], defers := [] } _
            refine wpAnyH_take (i := 5) (v := .bool true) rfl (by kernel_rfl) (by kernel_rfl) (by kernel_rfl) (fun _ _ _ h => h) (Or.inl ⟨by kernel_rfl, fun w hS => by (obtain ⟨hS0, hS1, hS2, hS3, hS4, hS5, hS6⟩ := hS; go_simp)⟩) hHeld ?_
            change wpAnyH _ _ _ _ _ _ _ { tmps := #[_, _, _, _, _, _, _, _, _, _, _, _, _, _, _, _, _, _, _, _, _, _, _, _, _, _, _, _, _, _, _, _, _, _, _, _, _, _, _, _, _, _, _, _, _, _, _, _, _, _, _, _, _, _, _, _, _, _, _, _, _, _, _, _, _, _, _, _, _, _, .pointer (some ⟨w.heap.size + 1, 1, none⟩), .slice (some ⟨yb, yo, none⟩) se.length cy, .int .i64 (m : Int), .pointer (some ⟨yb, yo + m, none⟩), .bool true, .bool true, _, _, _, _, _, _, _, _, _, _, _, _, _, _, _, _, _, _, _, _, _, _, _, _, _, _, _, _, _, _, _, _, _, _, _, _, _, _, _, _, _, _, _, _, _, _, _, _], defers := [] } _
            refine wpAnyH_take (i := 6) (v := .pointer (some ⟨w.heap.size, 2, none⟩)) rfl (by kernel_rfl) (by kernel_rfl) (by kernel_rfl) (fun _ _ _ h => h) (Or.inl ⟨by kernel_rfl, fun w hS => by (obtain ⟨hS0, hS1, hS2, hS3, hS4, hS5, hS6⟩ := hS; go_simp)⟩) hHeld ?_
            change wpAnyH _ _ _ _ _ _ _ { tmps := #[_, _, _, _, _, _, _, _, _, _, _, _, _, _, _, _, _, _, _, _, _, _, _, _, _, _, _, _, _, _, _, _, _, _, _, _, _, _, _, _, _, _, _, _, _, _, _, _, _, _, _, _, _, _, _, _, _, _, _, _, _, _, _, _, _, _, _, _, _, _, .pointer (some ⟨w.heap.size + 1, 1, none⟩), .slice (some ⟨yb, yo, none⟩) se.length cy, .int .i64 (m : Int), .pointer (some ⟨yb, yo + m, none⟩), .bool true, .bool true, .pointer (some ⟨w.heap.size, 2, none⟩), _, _, _, _, _, _, _, _, _, _, _, _, _, _, _, _, _, _, _, _, _, _, _, _, _, _, _, _, _, _, _, _, _, _, _, _, _, _, _, _, _, _, _, _, _, _, _], defers := [] } _
            refine wpAnyH_take (i := 7) (v := .slice (some ⟨g, off, none⟩) R.length cb) rfl (by kernel_rfl) (by kernel_rfl) (by kernel_rfl) (fun _ _ _ h => h) (Or.inl ⟨by kernel_rfl, fun w hS => by (obtain ⟨hS0, hS1, hS2, hS3, hS4, hS5, hS6⟩ := hS; go_simp)⟩) hHeld ?_
            change wpAnyH _ _ _ _ _ _ _ { tmps := #[_, _, _, _, _, _, _, _, _, _, _, _, _, _, _, _, _, _, _, _, _, _, _, _, _, _, _, _, _, _, _, _, _, _, _, _, _, _, _, _, _, _, _, _, _, _, _, _, _, _, _, _, _, _, _, _, _, _, _, _, _, _, _, _, _, _, _, _, _, _, .pointer (some ⟨w.heap.size + 1, 1, none⟩), .slice (some ⟨yb, yo, none⟩) se.length cy, .int .i64 (m : Int), .pointer (some ⟨yb, yo + m, none⟩), .bool true, .bool true, .pointer (some ⟨w.heap.size, 2, none⟩), .slice (some ⟨g, off, none⟩) R.length cb, _, _, _, _, _, _, _, _, _, _, _, _, _, _, _, _, _, _, _, _, _, _, _, _, _, _, _, _, _, _, _, _, _, _, _, _, _, _, _, _, _, _, _, _, _, _], defers := [] } _
            refine wpAnyH_take (i := 8) (v := .int .i64 (k : Int)) rfl (by kernel_rfl) (by kernel_rfl) (by kernel_rfl) (fun _ _ _ h => h) (Or.inl ⟨by kernel_rfl, fun w hS => by (obtain ⟨hS0, hS1, hS2, hS3, hS4, hS5, hS6⟩ := hS; go_simp)⟩) hHeld ?_
            change wpAnyH _ _ _ _ _ _ _ { tmps := #[_, _, _, _, _, _, _, _, _, _, _, _, _, _, _, _, _, _, _, _, _, _, _, _, _, _, _, _, _, _, _, _, _, _, _, _, _, _, _, _, _, _, _, _, _, _, _, _, _, _, _, _, _, _, _, _, _, _, _, _, _, _, _, _, _, _, _, _, _, _, .pointer (some ⟨w.heap.size + 1, 1, none⟩), .slice (some ⟨yb, yo, none⟩) se.length cy, .int .i64 (m : Int), .pointer (some ⟨yb, yo + m, none⟩), .bool true, .bool true, .pointer (some ⟨w.heap.size, 2, none⟩), .slice (some ⟨g, off, none⟩) R.length cb, .int .i64 (k : Int), _, _, _, _, _, _, _, _, _, _, _, _, _, _, _, _, _, _, _, _, _, _, _, _, _, _, _, _, _, _, _, _, _, _, _, _, _, _, _, _, _, _, _, _, _], defers := [] } _
            refine wpAnyH_take (i := 9) (v := .pointer (some ⟨g, off + k * 2, none⟩)) rfl (by kernel_rfl) (by kernel_rfl) (by kernel_rfl) (fun _ _ _ h => h) (Or.inl ⟨by kernel_rfl, fun w hS => by (obtain ⟨hS0, hS1, hS2, hS3, hS4, hS5, hS6⟩ := hS; go_simp)⟩) hHeld ?_
            change wpAnyH _ _ _ _ _ _ _ { tmps := #[_, _, _, _, _, _, _, _, _, _, _, _, _, _, _, _, _, _, _, _, _, _, _, _, _, _, _, _, _, _, _, _, _, _, _, _, _, _, _, _, _, _, _, _, _, _, _, _, _, _, _, _, _, _, _, _, _, _, _, _, _, _, _, _, _, _, _, _, _, _, .pointer (some ⟨w.heap.size + 1, 1, none⟩), .slice (some ⟨yb, yo, none⟩) se.length cy, .int .i64 (m : Int), .pointer (some ⟨yb, yo + m, none⟩), .bool true, .bool true, .pointer (some ⟨w.heap.size, 2, none⟩), .slice (some ⟨g, off, none⟩) R.length cb, .int .i64 (k : Int), .pointer (some ⟨g, off + k * 2, none⟩), _, _, _, _, _, _, _, _, _, _, _, _, _, _, _, _, _, _, _, _, _, _, _, _, _, _, _, _, _, _, _, _, _, _, _, _, _, _, _, _, _, _, _, _], defers := [] } _
            refine wpAnyH_take (i := 10) (v := .agg #[.slice n es.length cn, .slice n2 bs.length cn2]) rfl (by kernel_rfl) (by kernel_rfl) (by kernel_rfl) (fun _ _ _ h => h) (Or.inl ⟨by kernel_rfl, fun w hS => by (obtain ⟨hS0, hS1, hS2, hS3, hS4, hS5, hS6⟩ := hS; go_simp)⟩) hHeld ?_
            change wpAnyH _ _ _ _ _ _ _ { tmps := #[_, _, _, _, _, _, _, _, _, _, _, _, _, _, _, _, _, _, _, _, _, _, _, _, _, _, _, _, _, _, _, _, _, _, _, _, _, _, _, _, _, _, _, _, _, _, _, _, _, _, _, _, _, _, _, _, _, _, _, _, _, _, _, _, _, _, _, _, _, _, .pointer (some ⟨w.heap.size + 1, 1, none⟩), .slice (some ⟨yb, yo, none⟩) se.length cy, .int .i64 (m : Int), .pointer (some ⟨yb, yo + m, none⟩), .bool true, .bool true, .pointer (some ⟨w.heap.size, 2, none⟩), .slice (some ⟨g, off, none⟩) R.length cb, .int .i64 (k : Int), .pointer (some ⟨g, off + k * 2, none⟩), .agg #[.slice n es.length cn, .slice n2 bs.length cn2], _, _, _, _, _, _, _, _, _, _, _, _, _, _, _, _, _, _, _, _, _, _, _, _, _, _, _, _, _, _, _, _, _, _, _, _, _, _, _, _, _, _, _], defers := [] } _
            refine wpAnyH_take (i := 11) (v := .pointer (some ⟨w.heap.size, 2, none⟩)) rfl (by kernel_rfl) (by kernel_rfl) (by kernel_rfl) (fun _ _ _ h => h) (Or.inl ⟨by kernel_rfl, fun w hS => by (obtain ⟨hS0, hS1, hS2, hS3, hS4, hS5, hS6⟩ := hS; go_simp)⟩) hHeld ?_
            change wpAnyH _ _ _ _ _ _ _ { tmps := #[_, _, _, _, _, _, _, _, _, _, _, _, _, _, _, _, _, _, _, _, _, _, _, _, _, _, _, _, _, _, _, _, _, _, _, _, _, _, _, _, _, _, _, _, _, _, _, _, _, _, _, _, _, _, _, _, _, _, _, _, _, _, _, _, _, _, _, _, _, _, .pointer (some ⟨w.heap.size + 1, 1, none⟩), .slice (some ⟨yb, yo, none⟩) se.length cy, .int .i64 (m : Int), .pointer (some ⟨yb, yo + m, none⟩), .bool true, .bool true, .pointer (some ⟨w.heap.size, 2, none⟩), .slice (some ⟨g, off, none⟩) R.length cb, .int .i64 (k : Int), .pointer (some ⟨g, off + k * 2, none⟩), .agg #[.slice n es.length cn, .slice n2 bs.length cn2], .pointer (some ⟨w.heap.size, 2, none⟩), _, _, _, _, _, _, _, _, _, _, _, _, _, _, _, _, _, _, _, _, _, _, _, _, _, _, _, _, _, _, _, _, _, _, _, _, _, _, _, _, _, _], defers := [] } _
            refine wpAnyH_take (i := 12) (v := .slice (some ⟨g, off, none⟩) R.length cb) rfl (by kernel_rfl) (by kernel_rfl) (by kernel_rfl) (fun _ _ _ h => h) (Or.inl ⟨by kernel_rfl, fun w hS => by (obtain ⟨hS0, hS1, hS2, hS3, hS4, hS5, hS6⟩ := hS; go_simp)⟩) hHeld ?_
            change wpAnyH _ _ _ _ _ _ _ { tmps := #[_, _, _, _, _, _, _, _, _, _, _, _, _, _, _, _, _, _, _, _, _, _, _, _, _, _, _, _, _, _, _, _, _, _, _, _, _, _, _, _, _, _, _, _, _, _, _, _, _, _, _, _, _, _, _, _, _, _, _, _, _, _, _, _, _, _, _, _, _, _, .pointer (some ⟨w.heap.size + 1, 1, none⟩), .slice (some ⟨yb, yo, none⟩) se.length cy, .int .i64 (m : Int), .pointer (some ⟨yb, yo + m, none⟩), .bool true, .bool true, .pointer (some ⟨w.heap.size, 2, none⟩), .slice (some ⟨g, off, none⟩) R.length cb, .int .i64 (k : Int), .pointer (some ⟨g, off + k * 2, none⟩), .agg #[.slice n es.length cn, .slice n2 bs.length cn2], .pointer (some ⟨w.heap.size, 2, none⟩), .slice (some ⟨g, off, none⟩) R.length cb, _, _, _, _, _, _, _, _, _, _, _, _, _, _, _, _, _, _, _, _, _, _, _, _, _, _, _, _, _, _, _, _, _, _, _, _, _, _, _, _, _], defers := [] } _
            refine wpAnyH_take (i := 13) (v := .int .i64 (m : Int)) rfl (by kernel_rfl) (by kernel_rfl) (by kernel_rfl) (fun _ _ _ h => h) (Or.inl ⟨by kernel_rfl, fun w hS => by (obtain ⟨hS0, hS1, hS2, hS3, hS4, hS5, hS6⟩ := hS; go_simp)⟩) hHeld ?_
            change wpAnyH _ _ _ _ _ _ _ { tmps := #[_, _, _, _, _, _, _, _, _, _, _, _, _, _, _, _, _, _, _, _, _, _, _, _, _, _, _, _, _, _, _, _, _, _, _, _, _, _, _, _, _, _, _, _, _, _, _, _, _, _, _, _, _, _, _, _, _, _, _, _, _, _, _, _, _, _, _, _, _, _, .pointer (some ⟨w.heap.size + 1, 1, none⟩), .slice (some ⟨yb, yo, none⟩) se.length cy, .int .i64 (m : Int), .pointer (some ⟨yb, yo + m, none⟩), .bool true, .bool true, .pointer (some ⟨w.heap.size, 2, none⟩), .slice (some ⟨g, off, none⟩) R.length cb, .int .i64 (k : Int), .pointer (some ⟨g, off + k * 2, none⟩), .agg #[.slice n es.length cn, .slice n2 bs.length cn2], .pointer (some ⟨w.heap.size, 2, none⟩), .slice (some ⟨g, off, none⟩) R.length cb, .int .i64 (m : Int), _, _, _, _, _, _, _, _, _, _, _, _, _, _, _, _, _, _, _, _, _, _, _, _, _, _, _, _, _, _, _, _, _, _, _, _, _, _, _, _], defers := [] } _
            refine wpAnyH_take (i := 14) (v := .pointer (some ⟨g, off + m * 2, none⟩)) rfl (by kernel_rfl) (by kernel_rfl) (by kernel_rfl) (fun _ _ _ h => h) (Or.inl ⟨by kernel_rfl, fun w hS => by (obtain ⟨hS0, hS1, hS2, hS3, hS4, hS5, hS6⟩ := hS; go_simp)⟩) hHeld ?_
            change wpAnyH _ _ _ _ _ _ _ { tmps := #[_, _, _, _, _, _, _, _, _, _, _, _, _, _, _, _, _, _, _, _, _, _, _, _, _, _, _, _, _, _, _, _, _, _, _, _, _, _, _, _, _, _, _, _, _, _, _, _, _, _, _, _, _, _, _, _, _, _, _, _, _, _, _, _, _, _, _, _, _, _, .pointer (some ⟨w.heap.size + 1, 1, none⟩), .slice (some ⟨yb, yo, none⟩) se.length cy, .int .i64 (m : Int), .pointer (some ⟨yb, yo + m, none⟩), .bool true, .bool true, .pointer (some ⟨w.heap.size, 2, none⟩), .slice (some ⟨g, off, none⟩) R.length cb, .int .i64 (k : Int), .pointer (some ⟨g, off + k * 2, none⟩), .agg #[.slice n es.length cn, .slice n2 bs.length cn2], .pointer (some ⟨w.heap.size, 2, none⟩), .slice (some ⟨g, off, none⟩) R.length cb, .int .i64 (m : Int), .pointer (some ⟨g, off + m * 2, none⟩), _, _, _, _, _, _, _, _, _, _, _, _, _, _, _, _, _, _, _, _, _, _, _, _, _, _, _, _, _, _, _, _, _, _, _, _, _, _, _], defers := [] } _
            refine wpAnyH_take (i := 15) (v := .agg #[.slice m1 fs.length cm1, .slice m2 cs.length cm2]) rfl (by kernel_rfl) (by kernel_rfl) (by kernel_rfl) (fun _ _ _ h => h) (Or.inl ⟨by kernel_rfl, fun w hS => by (obtain ⟨hS0, hS1, hS2, hS3, hS4, hS5, hS6⟩ := hS; go_simp)⟩) hHeld ?_
            change wpAnyH _ _ _ _ _ _ _ { tmps := #[_, _, _, _, _, _, _, _, _, _, _, _, _, _, _, _, _, _, _, _, _, _, _, _, _, _, _, _, _, _, _, _, _, _, _, _, _, _, _, _, _, _, _, _, _, _, _, _, _, _, _, _, _, _, _, _, _, _, _, _, _, _, _, _, _, _, _, _, _, _, .pointer (some ⟨w.heap.size + 1, 1, none⟩), .slice (some ⟨yb, yo, none⟩) se.length cy, .int .i64 (m : Int), .pointer (some ⟨yb, yo + m, none⟩), .bool true, .bool true, .pointer (some ⟨w.heap.size, 2, none⟩), .slice (some ⟨g, off, none⟩) R.length cb, .int .i64 (k : Int), .pointer (some ⟨g, off + k * 2, none⟩), .agg #[.slice n es.length cn, .slice n2 bs.length cn2], .pointer (some ⟨w.heap.size, 2, none⟩), .slice (some ⟨g, off, none⟩) R.length cb, .int .i64 (m : Int), .pointer (some ⟨g, off + m * 2, none⟩), .agg #[.slice m1 fs.length cm1, .slice m2 cs.length cm2], _, _, _, _, _, _, _, _, _, _, _, _, _, _, _, _, _, _, _, _, _, _, _, _, _, _, _, _, _, _, _, _, _, _, _, _, _, _], defers := [] } _
            refine wpAnyH_ready (rs := [16]) (by kernel_rfl) (by simp) ?_
            refine AllReadyH.cons rfl (fun K hK => ?_) AllReadyH.nil
            go_simp
            go_wp2_with (first | (go_at_call 55; refine (CC _ (Below.refl _ _).drew).mono ?_; rintro e w6 ⟨rfl, hb6⟩; have HW6 := undrew hb6; have HB6 := btrans hb3 HW6; have HK6 := blk_keep HW6 hk3; have HJ6 := blk_keep HW6 hj3; clear hb6))
            clear hHeld
            refine hK.out _ _ (by obtain ⟨⟨t0, t1, t2⟩, -⟩ := blk3 HK6; obtain ⟨⟨t3, t4, t5⟩, -⟩ := blk3 HJ6; exact ⟨t2, t4, ble HW6 v0, ble HW6 c1, ble HW6 c2, ble HW6 d1, ble HW6 d2⟩) (fun hHeld => ?_)
            clear hK K
            change wpAnyH _ _ _ _ _ _ _ { tmps := #[_, _, _, _, _, _, _, _, _, _, _, _, _, _, _, _, _, _, _, _, _, _, _, _, _, _, _, _, _, _, _, _, _, _, _, _, _, _, _, _, _, _, _, _, _, _, _, _, _, _, _, _, _, _, _, _, _, _, _, _, _, _, _, _, _, _, _, _, _, _, .pointer (some ⟨w.heap.size + 1, 1, none⟩), .slice (some ⟨yb, yo, none⟩) se.length cy, .int .i64 (m : Int), .pointer (some ⟨yb, yo + m, none⟩), .bool true, .bool true, .pointer (some ⟨w.heap.size, 2, none⟩), .slice (some ⟨g, off, none⟩) R.length cb, .int .i64 (k : Int), .pointer (some ⟨g, off + k * 2, none⟩), .agg #[.slice n es.length cn, .slice n2 bs.length cn2], .pointer (some ⟨w.heap.size, 2, none⟩), .slice (some ⟨g, off, none⟩) R.length cb, .int .i64 (m : Int), .pointer (some ⟨g, off + m * 2, none⟩), .agg #[.slice m1 fs.length cm1, .slice m2 cs.length cm2], .bool false, _, _, _, _, _, _, _, _, _, _, _, _, _, _, _, _, _, _, _, _, _, _, _, _, _, _, _, _, _, _, _, _, _, _, _, _, _], defers := [] } _
            refine wpAnyH_take (i := 17) (v := .bool false) rfl (by kernel_rfl) (by kernel_rfl) (by kernel_rfl) (fun _ _ _ h => h) (Or.inl ⟨by kernel_rfl, fun w hS => by (obtain ⟨hS0, hS1, hS2, hS3, hS4, hS5, hS6⟩ := hS; go_simp)⟩) hHeld ?_
            change wpAnyH _ _ _ _ _ _ _ { tmps := #[_, _, _, _, _, _, _, _, _, _, _, _, _, _, _, _, _, _, _, _, _, _, _, _, _, _, _, _, _, _, _, _, _, _, _, _, _, _, _, _, _, _, _, _, _, _, _, _, _, _, _, _, _, _, _, _, _, _, _, _, _, _, _, _, _, _, _, _, _, _, .pointer (some ⟨w.heap.size + 1, 1, none⟩), .slice (some ⟨yb, yo, none⟩) se.length cy, .int .i64 (m : Int), .pointer (some ⟨yb, yo + m, none⟩), .bool true, .bool true, .pointer (some ⟨w.heap.size, 2, none⟩), .slice (some ⟨g, off, none⟩) R.length cb, .int .i64 (k : Int), .pointer (some ⟨g, off + k * 2, none⟩), .agg #[.slice n es.length cn, .slice n2 bs.length cn2], .pointer (some ⟨w.heap.size, 2, none⟩), .slice (some ⟨g, off, none⟩) R.length cb, .int .i64 (m : Int), .pointer (some ⟨g, off + m * 2, none⟩), .agg #[.slice m1 fs.length cm1, .slice m2 cs.length cm2], .bool false, .bool false, _, _, _, _, _, _, _, _, _, _, _, _, _, _, _, _, _, _, _, _, _, _, _, _, _, _, _, _, _, _, _, _, _, _, _, _], defers := [] } _
            refine wpAnyH_done (by kernel_rfl) ?_ _
            go_wp2
            exact ⟨⟨m + 1, by omega, by go_num, hf, HB6, HK6, HJ6⟩, by simp [intOf]; omega⟩
          · have hf := hide (show res = false by rw [← hd.out]; simp)
            clear hd
            go_wp2_with fail
            refine wp_region_held_drew (S := (fun w' => w'.cell? ⟨w.heap.size, 2, none⟩ = some (.slice (some ⟨g, off, none⟩) R.length cb) ∧ w'.cell? ⟨w.heap.size + 1, 1, none⟩ = some (.slice (some ⟨yb, yo, none⟩) se.length cy) ∧ w'.cell? ⟨yb, yo + m, none⟩ = some (.bool true) ∧ w'.cell? ⟨g, off + k * 2, none⟩ = some (.slice n es.length cn) ∧ w'.cell? ⟨g, off + k * 2 + 1, none⟩ = some (.slice n2 bs.length cn2) ∧ w'.cell? ⟨g, off + m * 2, none⟩ = some (.slice m1 fs.length cm1) ∧ w'.cell? ⟨g, off + m * 2 + 1, none⟩ = some (.slice m2 cs.length cm2))) (by kernel_rfl) ?_ (fun hHeld => ?_)
            · go_keep
            refine wpAnyH_take (i := 0) (v := .pointer (some ⟨w.heap.size + 1, 1, none⟩)) rfl (by kernel_rfl) (by kernel_rfl) (by kernel_rfl) (fun _ _ _ h => h) (Or.inl ⟨by kernel_rfl, fun w hS => by (obtain ⟨hS0, hS1, hS2, hS3, hS4, hS5, hS6⟩ := hS; go_simp)⟩) hHeld ?_
            change wpAnyH _ _ _ _ _ _ _ { tmps := #[_, _, _, _, _, _, _, _, _, _, _, _, _, _, _, _, _, _, _, _, _, _, _, _, _, _, _, _, _, _, _, _, _, _, _, _, _, _, _, _, _, _, _, _, _, _, _, _, _, _, _, _, _, _, _, _, _, _, _, _, _, _, _, _, _, _, _, _, _, _, .pointer (some ⟨w.heap.size + 1, 1, none⟩), _, _, _, _, _, _, _, _, _, _, _, _, _, _, _, _, _, _, _, _, _, _, _, _, _, _, _, _, _, _, _, _, _, _, _, _, _, _, _, _, _, _, _, _, _, _, _, _, _, _, _, _, _], defers := [] } _
            refine wpAnyH_take (i := 1) (v := .slice (some ⟨yb, yo, none⟩) se.length cy) rfl (by kernel_rfl) (by kernel_rfl) (by kernel_rfl) (fun _ _ _ h => h) (Or.inl ⟨by kernel_rfl, fun w hS => by (obtain ⟨hS0, hS1, hS2, hS3, hS4, hS5, hS6⟩ := hS; go_simp)⟩) hHeld ?_
            change wpAnyH _ _ _ _ _ _ _ { tmps := #[_, _, _, _, _, _, _, _, _, _, _, _, _, _, _, _, _, _, _, _, _, _, _, _, _, _, _, _, _, _, _, _, _, _, _, _, _, _, _, _, _, _, _, _, _, _, _, _, _, _, _, _, _, _, _, _, _, _, _, _, _, _, _, _, _, _, _, _, _, _, .pointer (some ⟨w.heap.size + 1, 1, none⟩), .slice (some ⟨yb, yo, none⟩) se.length cy, _, _, _, _, _, _, _, _, _, _, _, _, _, _, _, _, _, _, _, _, _, _, _, _, _, _, _, _, _, _, _, _, _, _, _, _, _, _, _, _, _, _, _, _, _, _, _, _, _, _, _, _], defers := [] } _
            refine wpAnyH_take (i := 2) (v := .int .i64 (m : Int)) rfl (by kernel_rfl) (by kernel_rfl) (by kernel_rfl) (fun _ _ _ h => h) (Or.inl ⟨by kernel_rfl, fun w hS => by (obtain ⟨hS0, hS1, hS2, hS3, hS4, hS5, hS6⟩ := hS; go_simp)⟩) hHeld ?_
            change wpAnyH _ _ _ _ _ _ _ { tmps := #[_, _, _, _, _, _, _, _, _, _, _, _, _, _, _, _, _, _, _, _, _, _, _, _, _, _, _, _, _, _, _, _, _, _, _, _, _, _, _, _, _, _, _, _, _, _, _, _, _, _, _, _, _, _, _, _, _, _, _, _, _, _, _, _, _, _, _, _, _, _, .pointer (some ⟨w.heap.size + 1, 1, none⟩), .slice (some ⟨yb, yo, none⟩) se.length cy, .int .i64 (m : Int), _, _, _, _, _, _, _, _, _, _, _, _, _, _, _, _, _, _, _, _, _, _, _, _, _, _, _, _, _, _, _, _, _, _, _, _, _, _, _, _, _, _, _, _, _, _, _, _, _, _, _], defers := [] } _
            refine wpAnyH_take (i := 3) (v := .pointer (some ⟨yb, yo + m, none⟩)) rfl (by kernel_rfl) (by kernel_rfl) (by kernel_rfl) (fun _ _ _ h => h) (Or.inl ⟨by kernel_rfl, fun w hS => by (obtain ⟨hS0, hS1, hS2, hS3, hS4, hS5, hS6⟩ := hS; go_simp)⟩) hHeld ?_
            change wpAnyH _ _ _ _ _ _ _ { tmps := #[_, _, _, _, _, _, _, _, _, _, _, _, _, _, _, _, _, _, _, _, _, _, _, _, _, _, _, _, _, _, _, _, _, _, _, _, _, _, _, _, _, _, _, _, _, _, _, _, _, _, _, _, _, _, _, _, _, _, _, _, _, _, _, _, _, _, _, _, _, _, .pointer (some ⟨w.heap.size + 1, 1, none⟩), .slice (some ⟨yb, yo, none⟩) se.length cy, .int .i64 (m : Int), .pointer (some ⟨yb, yo + m, none⟩), _, _, _, _, _, _, _, _, _, _, _, _, _, _, _, _, _, _, _, _, _, _, _, _, _, _, _, _, _, _, _, _, _, _, _, _, _, _, _, _, _, _, _, _, _, _, _, _, _, _], defers := [] } _
            refine wpAnyH_take (i := 4) (v := .bool true) rfl (by kernel_rfl) (by kernel_rfl) (by kernel_rfl) (fun _ _ _ h => h) (Or.inl ⟨by kernel_rfl, fun w hS => by (obtain ⟨hS0, hS1, hS2, hS3, hS4, hS5, hS6⟩ := hS; go_simp)⟩) hHeld ?_
            change wpAnyH _ _ _ _ _ _ _ { tmps := #[_, _, _, _, _, _, _, _, _, _, _, _, _, _, _, _, _, _, _, _, _, _, _, _, _, _, _, _, _, _, _, _, _, _, _, _, _, _, _, _, _, _, _, _, _, _, _, _, _, _, _, _, _, _, _, _, _, _, _, _, _, _, _, _, _, _, _, _, _, _, .pointer (some ⟨w.heap.size + 1, 1, none⟩), .slice (some ⟨yb, yo, none⟩) se.length cy, .int .i64 (m : Int), .pointer (some ⟨yb, yo + m, none⟩), .bool true, _, _, _, _, _, _, _, _, _, _, _, _, _, _, _, _, _, _, _, _, _, _, _, _, _, _, _, _, _, _, _, _, _, _, _, _, _, _, _, _, _, _, _, _, _, _, _, _, _], defers := [] } _
            refine wpAnyH_take (i := 5) (v := .bool true) rfl (by kernel_rfl) (by kernel_rfl) (by kernel_rfl) (fun _ _ _ h => h) (Or.inl ⟨by kernel_rfl, fun w hS => by (obtain ⟨hS0, hS1, hS2, hS3, hS4, hS5, hS6⟩ := hS; go_simp)⟩) hHeld ?_
            change wpAnyH _ _ _ _ _ _ _ { tmps := #[_, _, _, _, _, _, _, _, _, _, _, _, _, _, _, _, _, _, _, _, _, _, _, _, _, _, _, _, _, _, _, _, _, _, _, _, _, _, _, _, _, _, _, _, _, _, _, _, _, _, _, _, _, _, _, _, _, _, _, _, _, _, _, _, _, _, _, _, _, _, .pointer (some ⟨w.heap.size + 1, 1, none⟩), .slice (some ⟨yb, yo, none⟩) se.length cy, .int .i64 (m : Int), .pointer (some ⟨yb, yo + m, none⟩), .bool true, .bool true, _, _, _, _, _, _, _, _, _, _, _, _, _, _, _, _, _, _, _, _, _, _, _, _, _, _, _, _, _, _, _, _, _, _, _, _, _, _, _, _, _, _, _, _, _, _, _, _], defers := [] } _
            refine wpAnyH_take (i := 6) (v := .pointer (some ⟨w.heap.size, 2, none⟩)) rfl (by kernel_rfl) (by kernel_rfl) (by kernel_rfl) (fun _ _ _ h => h) (Or.inl ⟨by kernel_rfl, fun w hS => by (obtain ⟨hS0, hS1, hS2, hS3, hS4, hS5, hS6⟩ := hS; go_simp)⟩) hHeld ?_
            change wpAnyH _ _ _ _ _ _ _ { tmps := #[_, _, _, _, _, _, _, _, _, _, _, _, _, _, _, _, _, _, _, _, _, _, _, _, _, _, _, _, _, _, _, _, _, _, _, _, _, _, _, _, _, _, _, _, _, _, _, _, _, _, _, _, _, _, _, _, _, _, _, _, _, _, _, _, _, _, _, _, _, _, .pointer (some ⟨w.heap.size + 1, 1, none⟩), .slice (some ⟨yb, yo, none⟩) se.length cy, .int .i64 (m : Int), .pointer (some ⟨yb, yo + m, none⟩), .bool true, .bool true, .pointer (some ⟨w.heap.size, 2, none⟩), _, _, _, _, _, _, _, _, _, _, _, _, _, _, _, _, _, _, _, _, _, _, _, _, _, _, _, _, _, _, _, _, _, _, _, _, _, _, _, _, _, _, _, _, _, _, _], defers := [] } _
            refine wpAnyH_take (i := 7) (v := .slice (some ⟨g, off, none⟩) R.length cb) rfl (by kernel_rfl) (by kernel_rfl) (by kernel_rfl) (fun _ _ _ h => h) (Or.inl ⟨by kernel_rfl, fun w hS => by (obtain ⟨hS0, hS1, hS2, hS3, hS4, hS5, hS6⟩ := hS; go_simp)⟩) hHeld ?_
            change wpAnyH _ _ _ _ _ _ _ { tmps := #[_, _, _, _, _, _, _, _, _, _, _, _, _, _, _, _, _, _, _, _, _, _, _, _, _, _, _, _, _, _, _, _, _, _, _, _, _, _, _, _, _, _, _, _, _, _, _, _, _, _, _, _, _, _, _, _, _, _, _, _, _, _, _, _, _, _, _, _, _, _, .pointer (some ⟨w.heap.size + 1, 1, none⟩), .slice (some ⟨yb, yo, none⟩) se.length cy, .int .i64 (m : Int), .pointer (some ⟨yb, yo + m, none⟩), .bool true, .bool true, .pointer (some ⟨w.heap.size, 2, none⟩), .slice (some ⟨g, off, none⟩) R.length cb, _, _, _, _, _, _, _, _, _, _, _, _, _, _, _, _, _, _, _, _, _, _, _, _, _, _, _, _, _, _, _, _, _, _, _, _, _, _, _, _, _, _, _, _, _, _], defers := [] } _
            refine wpAnyH_take (i := 8) (v := .int .i64 (k : Int)) rfl (by kernel_rfl) (by kernel_rfl) (by kernel_rfl) (fun _ _ _ h => h) (Or.inl ⟨by kernel_rfl, fun w hS => by (obtain ⟨hS0, hS1, hS2, hS3, hS4, hS5, hS6⟩ := hS; go_simp)⟩) hHeld ?_
            change wpAnyH _ _ _ _ _ _ _ { tmps := #[_, _, _, _, _, _, _, _, _, _, _, _, _, _, _, _, _, _, _, _, _, _, _, _, _, _, _, _, _, _, _, _, _, _, _, _, _, _, _, _, _, _, _, _, _, _, _, _, _, _, _, _, _, _, _, _, _, _, _, _, _, _, _, _, _, _, _, _, _, _, .pointer (some ⟨w.heap.size + 1, 1, none⟩), .slice (some ⟨yb, yo, none⟩) se.length cy, .int .i64 (m : Int), .pointer (some ⟨yb, yo + m, none⟩), .bool true, .bool true, .pointer (some ⟨w.heap.size, 2, none⟩), .slice (some ⟨g, off, none⟩) R.length cb, .int .i64 (k : Int), _, _, _, _, _, _, _, _, _, _, _, _, _, _, _, _, _, _, _, _, _, _, _, _, _, _, _, _, _, _, _, _, _, _, _, _, _, _, _, _, _, _, _, _, _], defers := [] } _
            refine wpAnyH_take (i := 9) (v := .pointer (some ⟨g, off + k * 2, none⟩)) rfl (by kernel_rfl) (by kernel_rfl) (by kernel_rfl) (fun _ _ _ h => h) (Or.inl ⟨by kernel_rfl, fun w hS => by (obtain ⟨hS0, hS1, hS2, hS3, hS4, hS5, hS6⟩ := hS; go_simp)⟩) hHeld ?_
            change wpAnyH _ _ _ _ _ _ _ { tmps := #[_, _, _, _, _, _, _, _, _, _, _, _, _, _, _, _, _, _, _, _, _, _, _, _, _, _, _, _, _, _, _, _, _, _, _, _, _, _, _, _, _, _, _, _, _, _, _, _, _, _, _, _, _, _, _, _, _, _, _, _, _, _, _, _, _, _, _, _, _, _, .pointer (some ⟨w.heap.size + 1, 1, none⟩), .slice (some ⟨yb, yo, none⟩) se.length cy, .int .i64 (m : Int), .pointer (some ⟨yb, yo + m, none⟩), .bool true, .bool true, .pointer (some ⟨w.heap.size, 2, none⟩), .slice (some ⟨g, off, none⟩) R.length cb, .int .i64 (k : Int), .pointer (some ⟨g, off + k * 2, none⟩), _, _, _, _, _, _, _, _, _, _, _, _, _, _, _, _, _, _, _, _, _, _, _, _, _, _, _, _, _, _, _, _, _, _, _, _, _, _, _, _, _, _, _, _], defers := [] } _
            refine wpAnyH_take (i := 10) (v := .agg #[.slice n es.length cn, .slice n2 bs.length cn2]) rfl (by kernel_rfl) (by kernel_rfl) (by kernel_rfl) (fun _ _ _ h => h) (Or.inl ⟨by kernel_rfl, fun w hS => by (obtain ⟨hS0, hS1, hS2, hS3, hS4, hS5, hS6⟩ := hS; go_simp)⟩) hHeld ?_
            change wpAnyH _ _ _ _ _ _ _ { tmps := #[_, _, _, _, _, _, _, _, _, _, _, _, _, _, _, _, _, _, _, _, _, _, _, _, _, _, _, _, _, _, _, _, _, _, _, _, _, _, _, _, _, _, _, _, _, _, _, _, _, _, _, _, _, _, _, _, _, _, _, _, _, _, _, _, _, _, _, _, _, _, .pointer (some ⟨w.heap.size + 1, 1, none⟩), .slice (some ⟨yb, yo, none⟩) se.length cy, .int .i64 (m : Int), .pointer (some ⟨yb, yo + m, none⟩), .bool true, .bool true, .pointer (some ⟨w.heap.size, 2, none⟩), .slice (some ⟨g, off, none⟩) R.length cb, .int .i64 (k : Int), .pointer (some ⟨g, off + k * 2, none⟩), .agg #[.slice n es.length cn, .slice n2 bs.length cn2], _, _, _, _, _, _, _, _, _, _, _, _, _, _, _, _, _, _, _, _, _, _, _, _, _, _, _, _, _, _, _, _, _, _, _, _, _, _, _, _, _, _, _], defers := [] } _
            refine wpAnyH_take (i := 11) (v := .pointer (some ⟨w.heap.size, 2, none⟩)) rfl (by kernel_rfl) (by kernel_rfl) (by kernel_rfl) (fun _ _ _ h => h) (Or.inl ⟨by kernel_rfl, fun w hS => by (obtain ⟨hS0, hS1, hS2, hS3, hS4, hS5, hS6⟩ := hS; go_simp)⟩) hHeld ?_
            change wpAnyH _ _ _ _ _ _ _ { tmps := #[_, _, _, _, _, _, _, _, _, _, _, _, _, _, _, _, _, _, _, _, _, _, _, _, _, _, _, _, _, _, _, _, _, _, _, _, _, _, _, _, _, _, _, _, _, _, _, _, _, _, _, _, _, _, _, _, _, _, _, _, _, _, _, _, _, _, _, _, _, _, .pointer (some ⟨w.heap.size + 1, 1, none⟩), .slice (some ⟨yb, yo, none⟩) se.length cy, .int .i64 (m : Int), .pointer (some ⟨yb, yo + m, none⟩), .bool true, .bool true, .pointer (some ⟨w.heap.size, 2, none⟩), .slice (some ⟨g, off, none⟩) R.length cb, .int .i64 (k : Int), .pointer (some ⟨g, off + k * 2, none⟩), .agg #[.slice n es.length cn, .slice n2 bs.length cn2], .pointer (some ⟨w.heap.size, 2, none⟩), _, _, _, _, _, _, _, _, _, _, _, _, _, _, _, _, _, _, _, _, _, _, _, _, _, _, _, _, _, _, _, _, _, _, _, _, _, _, _, _, _, _], defers := [] } _
            refine wpAnyH_take (i := 12) (v := .slice (some ⟨g, off, none⟩) R.length cb) rfl (by kernel_rfl) (by kernel_rfl) (by kernel_rfl) (fun _ _ _ h => h) (Or.inl ⟨by kernel_rfl, fun w hS => by (obtain ⟨hS0, hS1, hS2, hS3, hS4, hS5, hS6⟩ := hS; go_simp)⟩) hHeld ?_
            change wpAnyH _ _ _ _ _ _ _ { tmps := #[_, _, _, _, _, _, _, _, _, _, _, _, _, _, _, _, _, _, _, _, _, _, _, _, _, _, _, _, _, _, _, _, _, _, _, _, _, _, _, _, _, _, _, _, _, _, _, _, _, _, _, _, _, _, _, _, _, _, _, _, _, _, _, _, _, _, _, _, _, _, .pointer (some ⟨w.heap.size + 1, 1, none⟩), .slice (some ⟨yb, yo, none⟩) se.length cy, .int .i64 (m : Int), .pointer (some ⟨yb, yo + m, none⟩), .bool true, .bool true, .pointer (some ⟨w.heap.size, 2, none⟩), .slice (some ⟨g, off, none⟩) R.length cb, .int .i64 (k : Int), .pointer (some ⟨g, off + k * 2, none⟩), .agg #[.slice n es.length cn, .slice n2 bs.length cn2], .pointer (some ⟨w.heap.size, 2, none⟩), .slice (some ⟨g, off, none⟩) R.length cb, _, _, _, _, _, _, _, _, _, _, _, _, _, _, _, _, _, _, _, _, _, _, _, _, _, _, _, _, _, _, _, _, _, _, _, _, _, _, _, _, _], defers := [] } _
            refine wpAnyH_take (i := 13) (v := .int .i64 (m : Int)) rfl (by kernel_rfl) (by kernel_rfl) (by kernel_rfl) (fun _ _ _ h => h) (Or.inl ⟨by kernel_rfl, fun w hS => by (obtain ⟨hS0, hS1, hS2, hS3, hS4, hS5, hS6⟩ := hS; go_simp)⟩) hHeld ?_
            change wpAnyH _ _ _ _ _ _ _ { tmps := #[_, _, _, _, _, _, _, _, _, _, _, _, _, _, _, _, _, _, _, _, _, _, _, _, _, _, _, _, _, _, _, _, _, _, _, _, _, _, _, _, _, _, _, _, _, _, _, _, _, _, _, _, _, _, _, _, _, _, _, _, _, _, _, _, _, _, _, _, _, _, .pointer (some ⟨w.heap.size + 1, 1, none⟩), .slice (some ⟨yb, yo, none⟩) se.length cy, .int .i64 (m : Int), .pointer (some ⟨yb, yo + m, none⟩), .bool true, .bool true, .pointer (some ⟨w.heap.size, 2, none⟩), .slice (some ⟨g, off, none⟩) R.length cb, .int .i64 (k : Int), .pointer (some ⟨g, off + k * 2, none⟩), .agg #[.slice n es.length cn, .slice n2 bs.length cn2], .pointer (some ⟨w.heap.size, 2, none⟩), .slice (some ⟨g, off, none⟩) R.length cb, .int .i64 (m : Int), _, _, _, _, _, _, _, _, _, _, _, _, _, _, _, _, _, _, _, _, _, _, _, _, _, _, _, _, _, _, _, _, _, _, _, _, _, _, _, _], defers := [] } _
            refine wpAnyH_take (i := 14) (v := .pointer (some ⟨g, off + m * 2, none⟩)) rfl (by kernel_rfl) (by kernel_rfl) (by kernel_rfl) (fun _ _ _ h => h) (Or.inl ⟨by kernel_rfl, fun w hS => by (obtain ⟨hS0, hS1, hS2, hS3, hS4, hS5, hS6⟩ := hS; go_simp)⟩) hHeld ?_
            change wpAnyH _ _ _ _ _ _ _ { tmps := #[_, _, _, _, _, _, _, _, _, _, _, _, _, _, _, _, _, _, _, _, _, _, _, _, _, _, _, _, _, _, _, _, _, _, _, _, _, _, _, _, _, _, _, _, _, _, _, _, _, _, _, _, _, _, _, _, _, _, _, _, _, _, _, _, _, _, _, _, _, _, .pointer (some ⟨w.heap.size + 1, 1, none⟩), .slice (some ⟨yb, yo, none⟩) se.length cy, .int .i64 (m : Int), .pointer (some ⟨yb, yo + m, none⟩), .bool true, .bool true, .pointer (some ⟨w.heap.size, 2, none⟩), .slice (some ⟨g, off, none⟩) R.length cb, .int .i64 (k : Int), .pointer (some ⟨g, off + k * 2, none⟩), .agg #[.slice n es.length cn, .slice n2 bs.length cn2], .pointer (some ⟨w.heap.size, 2, none⟩), .slice (some ⟨g, off, none⟩) R.length cb, .int .i64 (m : Int), .pointer (some ⟨g, off + m * 2, none⟩), _, _, _, _, _, _, _, _, _, _, _, _, _, _, _, _, _, _, _, _, _, _, _, _, _, _, _, _, _, _, _, _, _, _, _, _, _, _, _], defers := [] } _
            refine wpAnyH_take (i := 15) (v := .agg #[.slice m1 fs.length cm1, .slice m2 cs.length cm2]) rfl (by kernel_rfl) (by kernel_rfl) (by kernel_rfl) (fun _ _ _ h => h) (Or.inl ⟨by kernel_rfl, fun w hS => by (obtain ⟨hS0, hS1, hS2, hS3, hS4, hS5, hS6⟩ := hS; go_simp)⟩) hHeld ?_
            change wpAnyH _ _ _ _ _ _ _ { tmps := #[_, _, _, _, _, _, _, _, _, _, _, _, _, _, _, _, _, _, _, _, _, _, _, _, _, _, _, _, _, _, _, _, _, _, _, _, _, _, _, _, _, _, _, _, _, _, _, _, _, _, _, _, _, _, _, _, _, _, _, _, _, _, _, _, _, _, _, _, _, _, .pointer (some ⟨w.heap.size + 1, 1, none⟩), .slice (some ⟨yb, yo, none⟩) se.length cy, .int .i64 (m : Int), .pointer (some ⟨yb, yo + m, none⟩), .bool true, .bool true, .pointer (some ⟨w.heap.size, 2, none⟩), .slice (some ⟨g, off, none⟩) R.length cb, .int .i64 (k : Int), .pointer (some ⟨g, off + k * 2, none⟩), .agg #[.slice n es.length cn, .slice n2 bs.length cn2], .pointer (some ⟨w.heap.size, 2, none⟩), .slice (some ⟨g, off, none⟩) R.length cb, .int .i64 (m : Int), .pointer (some ⟨g, off + m * 2, none⟩), .agg #[.slice m1 fs.length cm1, .slice m2 cs.length cm2], _, _, _, _, _, _, _, _, _, _, _, _, _, _, _, _, _, _, _, _, _, _, _, _, _, _, _, _, _, _, _, _, _, _, _, _, _, _], defers := [] } _
            refine wpAnyH_ready (rs := [16]) (by kernel_rfl) (by simp) ?_
            refine AllReadyH.cons rfl (fun K hK => ?_) AllReadyH.nil
            go_simp
            go_wp2_with (first | (go_at_call 55; refine (CC _ (Below.refl _ _).drew).mono ?_; rintro e w6 ⟨rfl, hb6⟩; have HW6 := undrew hb6; have HB6 := btrans hb3 HW6; have HK6 := blk_keep HW6 hk3; have HJ6 := blk_keep HW6 hj3; clear hb6))
            clear hHeld
            refine hK.out _ _ (by obtain ⟨⟨t0, t1, t2⟩, -⟩ := blk3 HK6; obtain ⟨⟨t3, t4, t5⟩, -⟩ := blk3 HJ6; exact ⟨t2, t4, ble HW6 v0, ble HW6 c1, ble HW6 c2, ble HW6 d1, ble HW6 d2⟩) (fun hHeld => ?_)
            clear hK K
            change wpAnyH _ _ _ _ _ _ _ { tmps := #[_, _, _, _, _, _, _, _, _, _, _, _, _, _, _, _, _, _, _, _, _, _, _, _, _, _, _, _, _, _, _, _, _, _, _, _, _, _, _, _, _, _, _, _, _, _, _, _, _, _, _, _, _, _, _, _, _, _, _, _, _, _, _, _, _, _, _, _, _, _, .pointer (some ⟨w.heap.size + 1, 1, none⟩), .slice (some ⟨yb, yo, none⟩) se.length cy, .int .i64 (m : Int), .pointer (some ⟨yb, yo + m, none⟩), .bool true, .bool true, .pointer (some ⟨w.heap.size, 2, none⟩), .slice (some ⟨g, off, none⟩) R.length cb, .int .i64 (k : Int), .pointer (some ⟨g, off + k * 2, none⟩), .agg #[.slice n es.length cn, .slice n2 bs.length cn2], .pointer (some ⟨w.heap.size, 2, none⟩), .slice (some ⟨g, off, none⟩) R.length cb, .int .i64 (m : Int), .pointer (some ⟨g, off + m * 2, none⟩), .agg #[.slice m1 fs.length cm1, .slice m2 cs.length cm2], .bool true, _, _, _, _, _, _, _, _, _, _, _, _, _, _, _, _, _, _, _, _, _, _, _, _, _, _, _, _, _, _, _, _, _, _, _, _, _], defers := [] } _
            refine wpAnyH_take (i := 17) (v := .bool true) rfl (by kernel_rfl) (by kernel_rfl) (by kernel_rfl) (fun _ _ _ h => h) (Or.inl ⟨by kernel_rfl, fun w hS => by (obtain ⟨hS0, hS1, hS2, hS3, hS4, hS5, hS6⟩ := hS; go_simp)⟩) hHeld ?_
            change wpAnyH _ _ _ _ _ _ _ { tmps := #[_, _, _, _, _, _, _, _, _, _, _, _, _, _, _, _, _, _, _, _, _, _, _, _, _, _, _, _, _, _, _, _, _, _, _, _, _, _, _, _, _, _, _, _, _, _, _, _, _, _, _, _, _, _, _, _, _, _, _, _, _, _, _, _, _, _, _, _, _, _, .pointer (some ⟨w.heap.size + 1, 1, none⟩), .slice (some ⟨yb, yo, none⟩) se.length cy, .int .i64 (m : Int), .pointer (some ⟨yb, yo + m, none⟩), .bool true, .bool true, .pointer (some ⟨w.heap.size, 2, none⟩), .slice (some ⟨g, off, none⟩) R.length cb, .int .i64 (k : Int), .pointer (some ⟨g, off + k * 2, none⟩), .agg #[.slice n es.length cn, .slice n2 bs.length cn2], .pointer (some ⟨w.heap.size, 2, none⟩), .slice (some ⟨g, off, none⟩) R.length cb, .int .i64 (m : Int), .pointer (some ⟨g, off + m * 2, none⟩), .agg #[.slice m1 fs.length cm1, .slice m2 cs.length cm2], .bool true, .bool true, _, _, _, _, _, _, _, _, _, _, _, _, _, _, _, _, _, _, _, _, _, _, _, _, _, _, _, _, _, _, _, _, _, _, _, _], defers := [] } _
            refine wpAnyH_done (by kernel_rfl) ?_ _
            go_wp2
            go_ret
            exact ⟨ret_bool hf.out.symm, HB6⟩
        obtain rfl : m = k := by omega
        have hz0 : (List.range m).drop m = [] := List.drop_of_length_le (by simp)
        have hd3 := hide (show (((R.getD m RouteV.zero).needs.drop 0).all (fun n => decide (po.getD n.point.toNat 0 = n.pos)) && rest) = res by rw [← hres'.out, hz0, List.any_nil, Bool.not_false, Bool.true_and]; rfl)
        clear hz0
        clear hres' hyc
        go_wp2
        obtain ⟨wj, hwj⟩ : ∃ wj, wj = wr := ⟨wr, rfl⟩
        rw [← hwj] at hb3 hk3 hj3
        rw [← hwj]
        clear hwj
        have hsml := hsm m hlt
        replace hnd := hnd m hlt
        replace hat := fun w1 hb1 => hat w1 hb1 m hlt
        generalize R.getD m RouteV.zero = Q at *
        go_loopw [8] (fun i wr => ∃ q : Nat, q ≤ Q.needs.length ∧ i = .int .i64 q ∧ Hid (((Q.needs.drop q).all (fun n => decide (po.getD n.point.toNat 0 = n.pos)) && rest) = res) ∧ Below w.heap.size w wr ∧ wr.heap[w.heap.size]? = some (.cells #[.slice a U.length ca, .int .i64 B, .slice b R.length cb] 27 (0, 0)) ∧ wr.heap[w.heap.size + 1]? = some (.cells #[.slice x po.length cx, .slice (some ⟨yb, yo, none⟩) se.length cy, .slice z ta.length cz] 33 (0, 0))) (fun i _ => Q.needs.length - (intOf i).toNat)
        case atStart => exact ⟨0, Nat.zero_le _, rfl, hd3, hb3, hk3, hj3⟩
        case round =>
          obtain ⟨q, hq', rfl, hres', hb4, hk4, hj4⟩ := hrel
          clear hd3 hb3 hk3 hj3
          obtain ⟨g, off, n, cn, n2, cn2, rfl, c1, c2, -, c3, c4⟩ := hat _ hb4
          obtain ⟨⟨z0, z1, z2⟩, -⟩ := blk3 hk4
          obtain ⟨⟨z3, z4, z5⟩, -⟩ := blk3 hj4
          obtain ⟨es, bs⟩ := Q
          dsimp only at *
          by_cases hlq : q < es.length
          · rcases c3 with h | ⟨nb, no, rfl, hc⟩
            · simp [h] at hlq
            obtain ⟨w0, w1'⟩ := hc q hlq
            have e0 : es.getD q NeedV.zero = es[q] := by simp [List.getD, hlq]
            rw [e0] at w0 w1'
            have hd := hide ((congrArg (· && rest) (all_drop (P := fun n : NeedV => decide (po.getD n.point.toNat 0 = n.pos)) hlq)).symm.trans hres'.out)
            have hbk := hnd es[q] (List.getElem_mem hlq)
            generalize es[q] = E at *
            obtain ⟨pt, ps⟩ := E
            dsimp only at *
            obtain ⟨j, rfl⟩ := Int.eq_ofNat_of_zero_le hbk.1
            have hj5 : j < po.length := by have := h1.out; omega
            have hj5' : (j : Int) < po.length := by omega
            rcases hx with h | ⟨xb, xo, rfl, hxc⟩
            · simp [h] at hj5
            have v0 := ble hb4 (hxc j hj5)
            rw [show ((j : Int)).toNat = j from rfl] at hd
            generalize po.getD j 0 = v at *
            clear hc e0 hres' hxc hnd hat
            by_cases hv : v = ps
            · subst hv
              have hf := hide (show ((es.drop (q + 1)).all (fun n => decide (po.getD n.point.toNat 0 = n.pos)) && rest) = res by rw [← hd.out]; simp)
              clear hd
              go_wp2
              go_quiet (fail)
              go_wp2
              go_roundw
              case rel => exact ⟨q + 1, by omega, by go_num, hf, bdraw hb4 _, hk4, hj4⟩
              case measure => simp [intOf]; omega
            · have hf := hide (show res = false by rw [← hd.out]; simp [hv])
              have hv' : (v == ps) = false := by simp [hv]
              have hv2 : (v != ps) = true := by simp [hv]
              clear hd
              go_wp2
              go_quiet (fail)
              go_wp2
              go_ret
              exact ⟨ret_bool hf.out.symm, bdraw hb4 _⟩
          · obtain rfl : q = es.length := by omega
            have hf := hide (show ((List.range R.length).drop (m + 1)).all (setsQ R po se) = res by rw [hrest'.out, ← hres'.out, List.drop_length]; rfl)
            clear hres' hrest' hnd hat
            go_wp2
            go_roundw
            case rel => exact ⟨m + 1, by omega, by go_num, hf, hb4, hk4, hj4⟩
            case measure => simp [intOf]; omega
end Go.Proofs.Ytpgjllefhlanpaa
