/- The model's Withdraw. -/
import Derived.Test.YtpgjllefhlanpaaSO
namespace Go.Proofs.Ytpgjllefhlanpaa
open Go.RowKit

set_option maxRecDepth 20000 in
set_option maxHeartbeats 6400000 in
theorem cWdS (v : Int) (a b x y z : Option Addr) (ca cb cx cy cz : Nat) (p : PlantV) (l : LockV) (w : World) (hP : PlantIn w a b p) (hL : LockIn w x y z l) (hS : Small p) (hT : LSmall l) :
    Calls Try.prog 35 #[plantVal a ca b cb p, lockVal x cx y cy z cz l, .int .i64 v] w fun e w' => ∃ x' cx' y' cy' z' cz', e = .returned (.tuple #[lockVal x' cx' y' cy' z' cz' (opL .wd p l v), .int .i64 (opC .wd p l v)]) ∧
      LockOwn w' w.heap.size w'.heap.size x' cx' y' cy' z' cz' (opL .wd p l v) ∧ Below w.heap.size w w' := by
  have CC := fun w h => cCopyLock x y z cx cy cz l w h hT
  have CK := fun w hP hL => cLockOkS a b x y z ca cb cx cy cz p l w hP hL hS hT
  have t1 := hT.pos
  have t2 := hT.set
  have t3 := hT.taken
  have u2 := hS.routes
  unfold plantVal lockVal at *
  have HB := below3 w (.cells #[.slice a p.under.length ca, .int .i64 p.blocks, .slice b p.routes.length cb] 27) (.cells #[.slice x l.pos.length cx, .slice y l.set.length cy, .slice z l.taken.length cz] 33) (.cells #[.slice none 0 0, .slice none 0 0, .slice none 0 0] 33)
  obtain ⟨K0, K1, K2⟩ := three_blocks w (.cells #[.slice a p.under.length ca, .int .i64 p.blocks, .slice b p.routes.length cb] 27) (.cells #[.slice x l.pos.length cx, .slice y l.set.length cy, .slice z l.taken.length cz] 33) (.cells #[.slice none 0 0, .slice none 0 0, .slice none 0 0] 33)
  have hs := size3 w (.cells #[.slice a p.under.length ca, .int .i64 p.blocks, .slice b p.routes.length cb] 27) (.cells #[.slice x l.pos.length cx, .slice y l.set.length cy, .slice z l.taken.length cz] 33) (.cells #[.slice none 0 0, .slice none 0 0, .slice none 0 0] 33)
  go_enter Try.func35, Try.ntmps35
  go_wp2_with fail
  refine (CC _ (hL.below HB)).mono ?_
  rintro e w1 ⟨x1, cx1, y1, cy1, z1, cz1, rfl, hO, hb⟩
  rw [hs] at hO
  have hs1 : w.heap.size + 1 + 1 + 1 ≤ w1.heap.size := by have := hb.size; rw [hs] at this; exact this
  have hba := balloc w1 (.cells #[.slice x1 l.pos.length cx1, .slice y1 l.set.length cy1, .slice z1 l.taken.length cz1] 33)
  have Pr : Pre a b x y z x1 y1 z1 ca cb cx cy cz cx1 cy1 cz1 w1.heap.size p l w (w1.alloc (.cells #[.slice x1 l.pos.length cx1, .slice y1 l.set.length cy1, .slice z1 l.taken.length cz1] 33)) :=
    ⟨btrans (btrans HB hb) hba, blk_keep hba (blk_keep hb K0), blk_keep hba (blk_keep hb K1), blk_keep hba (blk_keep hb K2), new1, hO.below hba, hs1⟩
  obtain ⟨⟨q0, q1, q2⟩, -⟩ := blk3 (blk_keep hb K0)
  obtain ⟨⟨q3, q4, q5⟩, -⟩ := blk3 (blk_keep hb K1)
  have q0' := ble hba q0
  have q1' := ble hba q1
  have q2' := ble hba q2
  have q3' := ble hba q3
  have q4' := ble hba q4
  have q5' := ble hba q5
  clear K0 K1 K2 HB hs hb hba hO CC q0 q1 q2 q3 q4 q5
  go_wp2_with fail
  clear q0' q1' q2' q3' q4' q5'
  refine (CK _ (hP.below Pr.hb) (hL.below Pr.hb)).mono ?_
  rintro e w2 ⟨rfl, hb⟩
  replace Pr := Pr.below hb
  clear hb CK
  cases h : lockOk p l
  · have hC := hide (show opC .wd p l v = 1 from (op_bad h).1)
    have hQ := hide (show opL .wd p l v = l from (op_bad h).2)
    obtain ⟨⟨r0, r1, r2⟩, j0, j1, j2⟩ := blk3 Pr.k2
    obtain ⟨⟨e0, e1, e2⟩, -⟩ := blk3 Pr.k8
    have fO := fin_own (n1 := l.pos.length) (n2 := l.set.length) (n3 := l.taken.length) Pr.own (Nat.le_of_lt (lt_of_block Pr.k8))
    have fB := fin_below (x1 := x1) (y1 := y1) (z1 := z1) (cx1 := cx1) (cy1 := cy1) (cz1 := cz1) (n1 := l.pos.length) (n2 := l.set.length) (n3 := l.taken.length) Pr.hb
    go_wp2_with fail
    refine bodyPost_ret (v := .tuple #[.agg #[.slice x1 l.pos.length cx1, .slice y1 l.set.length cy1, .slice z1 l.taken.length cz1], .int .i64 1]) (by simp [results, Try.results35, go_sem, r0, r1, r2]) rfl ⟨x1, cx1, y1, cy1, z1, cz1, by rw [hC.out, hQ.out], by rw [hQ.out]; exact fO, fB⟩

  have hF := lock_fits h
  have r12 := hF.ok.r12
  have b24 := hF.ok.b24
  have b1 := hF.ok.b1
  have hw : IntKind.i64.wrap ((p.routes.length : Int) - 1) = (p.routes.length : Int) - 1 := wrap_in _ (by omega) (by omega)
  obtain ⟨⟨q0, q1, q2⟩, -⟩ := blk3 Pr.k0
  go_wp2_with fail
  clear q0 q1 q2 hw
  refine (cIn v 0 (p.routes.length - 1) _).mono ?_
  rintro e w3 ⟨rfl, hw3⟩
  subst w3
  cases hv : inB v 0 (p.routes.length - 1)
  · have hv' : isRoute p v = false := hv
    have hC := hide (show opC .wd p l v = 1 by simp [opC, wdC, hv'])
    have hQ := hide (show opL .wd p l v = l by simp [opL, wdL, wdC, hv'])
    obtain ⟨⟨r0, r1, r2⟩, j0, j1, j2⟩ := blk3 Pr.k2
    obtain ⟨⟨e0, e1, e2⟩, -⟩ := blk3 Pr.k8
    have fO := fin_own (n1 := l.pos.length) (n2 := l.set.length) (n3 := l.taken.length) Pr.own (Nat.le_of_lt (lt_of_block Pr.k8))
    have fB := fin_below (x1 := x1) (y1 := y1) (z1 := z1) (cx1 := cx1) (cy1 := cy1) (cz1 := cz1) (n1 := l.pos.length) (n2 := l.set.length) (n3 := l.taken.length) Pr.hb
    go_wp2_with fail
    refine bodyPost_ret (v := .tuple #[.agg #[.slice x1 l.pos.length cx1, .slice y1 l.set.length cy1, .slice z1 l.taken.length cz1], .int .i64 1]) (by simp [results, Try.results35, go_sem, r0, r1, r2]) rfl ⟨x1, cx1, y1, cy1, z1, cz1, by rw [hC.out, hQ.out], by rw [hQ.out]; exact fO, fB⟩

  have hv' : isRoute p v = true := hv
  obtain ⟨q, rfl⟩ := Int.eq_ofNat_of_zero_le (inB_true hv).1
  have hq := (inB_true hv).2
  have hqr : q < p.routes.length := by omega
  have hqr' : (q : Int) < p.routes.length := by omega
  have hqs : q < l.set.length := by rw [hF.set]; exact hqr
  have hqs' : (q : Int) < l.set.length := by omega
  have hC0 : opC .wd p l (q : Int) = (bif l.set.getD q false then (bif held p l q then 4 else 0) else 6) := by simp [opC, wdC, h, hv']
  have hQ0 : opL .wd p l (q : Int) = (bif l.set.getD q false && !held p l q then ⟨l.pos, l.set.set q false, l.taken⟩ else l) := by
    have hc : wdC p l (q : Int) = (bif l.set.getD q false then (bif held p l q then 4 else 0) else 6) := hC0
    show wdL p l (q : Int) = _
    unfold wdL; rw [hc]; cases l.set.getD q false <;> cases held p l q <;> rfl
  replace hC0 := hide hC0
  replace hQ0 := hide hQ0
  have hsm := hS.at hqr
  have hnd : ∀ (k : Nat) (hk : k < (p.route q).blocks.length), 0 ≤ (p.route q).blocks[k] ∧ (p.route q).blocks[k] < l.taken.length := fun k hk => by
    have := hF.ok.block hqr (List.getElem_mem hk); rw [hF.taken]; exact this
  have hr0 : Hid (((p.route q).blocks.drop 0).any (fun b => l.taken.getD b.toNat false) = held p l q) := rfl
  generalize held p l q = vh at *
  obtain ⟨yb, yo, rfl, vy⟩ := (hL.set.below Pr.hb).bit hqs
  obtain ⟨⟨q3, q4, q5⟩, -⟩ := blk3 Pr.k1
  generalize hbit : l.set.getD q false = bit at *
  replace hbit := hide hbit
  cases bit
  · have hC := hide (show opC .wd p l (q : Int) = 6 from hC0.out)
    have hQ := hide (show opL .wd p l (q : Int) = l from hQ0.out)
    obtain ⟨⟨r0, r1, r2⟩, j0, j1, j2⟩ := blk3 Pr.k2
    obtain ⟨⟨e0, e1, e2⟩, -⟩ := blk3 Pr.k8
    have fO := fin_own (n1 := l.pos.length) (n2 := l.set.length) (n3 := l.taken.length) Pr.own (Nat.le_of_lt (lt_of_block Pr.k8))
    have fB := fin_below (x1 := x1) (y1 := y1) (z1 := z1) (cx1 := cx1) (cy1 := cy1) (cz1 := cz1) (n1 := l.pos.length) (n2 := l.set.length) (n3 := l.taken.length) Pr.hb
    go_wp2_with fail
    refine bodyPost_ret (v := .tuple #[.agg #[.slice x1 l.pos.length cx1, .slice y1 l.set.length cy1, .slice z1 l.taken.length cz1], .int .i64 6]) (by simp [results, Try.results35, go_sem, r0, r1, r2]) rfl ⟨x1, cx1, y1, cy1, z1, cz1, by rw [hC.out, hQ.out], by rw [hQ.out]; exact fO, fB⟩

  go_wp2
  clear q3 q4 q5 vy
  go_loopw [9] (fun i wr => ∃ k : Nat, k ≤ (p.route q).blocks.length ∧ i = .int .i64 k ∧ Hid (((p.route q).blocks.drop k).any (fun b => l.taken.getD b.toNat false) = vh) ∧ Pre a b x (some ⟨yb, yo, none⟩) z x1 y1 z1 ca cb cx cy cz cx1 cy1 cz1 w1.heap.size p l w wr) (fun i _ => (p.route q).blocks.length - (intOf i).toNat)
  case atStart => exact ⟨0, Nat.zero_le _, rfl, hr0, Pr⟩
  case round =>
    obtain ⟨k, hk, rfl, hres, Qr⟩ := hrel
    clear Pr hr0
    obtain ⟨g, off, n, cn, m, cm, rfl, c1, c2, -, -, c4⟩ := (hP.below Qr.hb).at hqr
    generalize (p.route q).needs = es at *
    generalize (p.route q).blocks = bs at *
    obtain ⟨⟨q0, q1, q2⟩, -⟩ := blk3 Qr.k0
    obtain ⟨⟨q3, q4, q5⟩, -⟩ := blk3 Qr.k1
    by_cases hlt : k < bs.length
    · rcases c4 with hh | ⟨nb, no, rfl, hc⟩
      · simp [hh] at hlt
      have p0 := hc k hlt
      have e0 : bs.getD k 0 = bs[k] := by simp [List.getD, hlt]
      rw [e0] at p0
      have hd := hide ((any_drop (P := fun b : Int => l.taken.getD b.toNat false) hlt).symm.trans hres.out)
      have hbk := hnd k hlt
      generalize bs[k] = E at *
      obtain ⟨j, rfl⟩ := Int.eq_ofNat_of_zero_le hbk.1
      have hj : j < l.taken.length := by omega
      have hj' : (j : Int) < l.taken.length := by omega
      obtain ⟨zb, zo, rfl, vz⟩ := (hL.taken.below Qr.hb).bit hj
      rw [show ((j : Int)).toNat = j from rfl] at hd
      generalize l.taken.getD j false = tv at *
      clear hc e0 hres hnd
      cases tv
      · have hf := hide (show (bs.drop (k + 1)).any (fun b => l.taken.getD b.toNat false) = vh by rw [← hd.out]; simp)
        clear hd
        go_wp2
        go_quiet (fail)
        go_wp2
        go_roundw
        case rel => exact ⟨k + 1, by omega, by go_num, hf, Qr.drawn _⟩
        case measure => simp [intOf]; omega
      · have hvh : vh = true := by rw [← hd.out]; simp
        subst hvh
        have hC := hide (show opC .wd p l (q : Int) = 4 from hC0.out)
        have hQ := hide (show opL .wd p l (q : Int) = l from hQ0.out)
        clear hd
        go_wp2
        go_quiet (fail)
        clear q0 q1 q2 q3 q4 q5
        obtain ⟨⟨r0, r1, r2⟩, j0, j1, j2⟩ := blk3 Qr.k2
        obtain ⟨⟨e0, e1, e2⟩, -⟩ := blk3 Qr.k8
        have fO := fun n => fin_own (n1 := l.pos.length) (n2 := l.set.length) (n3 := l.taken.length) (Qr.drawn n).own (Nat.le_of_lt (lt_of_block (Qr.drawn n).k8))
        have fB := fun n => fin_below (x1 := x1) (y1 := y1) (z1 := z1) (cx1 := cx1) (cy1 := cy1) (cz1 := cz1) (n1 := l.pos.length) (n2 := l.set.length) (n3 := l.taken.length) (Qr.drawn n).hb
        go_wp2_with fail
        refine bodyPost_ret (v := .tuple #[.agg #[.slice x1 l.pos.length cx1, .slice y1 l.set.length cy1, .slice z1 l.taken.length cz1], .int .i64 4]) (by simp [results, Try.results35, go_sem, r0, r1, r2]) rfl ⟨x1, cx1, y1, cy1, z1, cz1, by rw [hC.out, hQ.out], by rw [hQ.out]; exact fO _, fB _⟩

    · obtain rfl : k = bs.length := by omega
      have hvh : vh = false := by rw [← hres.out, List.drop_length]; rfl
      subst hvh
      have hC := hide (show opC .wd p l (q : Int) = 0 from hC0.out)
      have hQ := hide (show opL .wd p l (q : Int) = ⟨l.pos, l.set.set q false, l.taken⟩ from hQ0.out)
      obtain ⟨g', rfl, g1, g2, ⟨u, hu⟩, hf, hO2⟩ := Qr.own.putSet hqs false
      have hlt8 := Qr.lt
      have k2' := blk_other (b := g') (i := q) (v := .bool false) Qr.k2 (by omega)
      have k8' := blk_other (b := g') (i := q) (v := .bool false) Qr.k8 (by omega)
      have hb' := below_set (o := q) (v := .bool false) (b := g') (by omega) Qr.hb
      obtain ⟨⟨i0, i1, i2⟩, -⟩ := blk3 Qr.k8
      obtain ⟨⟨r0, r1, r2⟩, j0, j1, j2⟩ := blk3 k2'
      obtain ⟨⟨e0, e1, e2⟩, -⟩ := blk3 k8'
      have fO := fin_own (n1 := l.pos.length) (n2 := l.set.length) (n3 := l.taken.length) hO2 (Nat.le_of_lt (lt_of_block k8'))
      have fB := fin_below (x1 := x1) (y1 := some ⟨g', 0, none⟩) (z1 := z1) (cx1 := cx1) (cy1 := cy1) (cz1 := cz1) (n1 := l.pos.length) (n2 := l.set.length) (n3 := l.taken.length) hb'
      go_wp2_with fail
      refine bodyPost_ret (v := .tuple #[.agg #[.slice x1 l.pos.length cx1, .slice (some ⟨g', 0, none⟩) l.set.length cy1, .slice z1 l.taken.length cz1], .int .i64 0]) (by simp [results, Try.results35, go_sem, r0, r1, r2]) rfl ⟨x1, cx1, some ⟨g', 0, none⟩, cy1, z1, cz1, by rw [hC.out, hQ.out]; simp, by rw [hQ.out]; exact fO, fB⟩
end Go.Proofs.Ytpgjllefhlanpaa
