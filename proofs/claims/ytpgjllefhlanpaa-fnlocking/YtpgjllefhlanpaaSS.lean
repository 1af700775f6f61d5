/- The model's Occupy. -/
import Derived.Test.YtpgjllefhlanpaaSO
namespace Go.Proofs.Ytpgjllefhlanpaa
open Go.RowKit

set_option maxRecDepth 20000 in
set_option maxHeartbeats 6400000 in
theorem cOccS (v : Int) (a b x y z : Option Addr) (ca cb cx cy cz : Nat) (p : PlantV) (l : LockV) (w : World) (hP : PlantIn w a b p) (hL : LockIn w x y z l) (hS : Small p) (hT : LSmall l) :
    Calls Try.prog 33 #[plantVal a ca b cb p, lockVal x cx y cy z cz l, .int .i64 v] w fun e w' => ∃ x' cx' y' cy' z' cz', e = .returned (.tuple #[lockVal x' cx' y' cy' z' cz' (opL .occ p l v), .int .i64 (opC .occ p l v)]) ∧
      LockOwn w' w.heap.size w'.heap.size x' cx' y' cy' z' cz' (opL .occ p l v) ∧ Below w.heap.size w w' := by
  have CC := fun w h => cCopyLock x y z cx cy cz l w h hT
  have CK := fun w hP hL => cLockOkS a b x y z ca cb cx cy cz p l w hP hL hS hT
  have t1 := hT.pos
  have t2 := hT.set
  have t3 := hT.taken
  have u2 := hS.routes
  unfold plantVal lockVal at *
  have HB := below3 w (.cells #[.slice a p.under.length ca, .int .i64 p.blocks, .slice b p.routes.length cb] 27) (.cells #[.slice x l.pos.length cx, .slice y l.set.length cy, .slice z l.taken.length cz] 33) (.cells #[.slice none 0 0, .slice none 0 0, .slice none 0 0] 33)
  obtain ⟨K0, K1, K2⟩ := three_blocks w (.cells #[.slice a p.under.length ca, .int .i64 p.blocks, .slice b p.routes.length cb] 27) (.cells #[.slice x l.pos.length cx, .slice y l.set.length cy, .slice z l.taken.length cz] 33) (.cells #[.slice none 0 0, .slice none 0 0, .slice none 0 0] 33)
  have hs := size3 w (.cells #[.slice a p.under.length ca, .int .i64 p.blocks, .slice b p.routes.length cb] 27) (.cells #[.slice x l.pos.length cx, .slice y l.set.length cy, .slice z l.taken.length cz] 33) (.cells #[.slice none 0 0, .slice none 0 0, .slice none 0 0] 33)
  go_enter Try.func33, Try.ntmps33
  go_wp2_with fail
  refine (CC _ (hL.below HB)).mono ?_
  rintro e w1 ⟨x1, cx1, y1, cy1, z1, cz1, rfl, hO, hb⟩
  rw [hs] at hO
  have hs1 : w.heap.size + 1 + 1 + 1 ≤ w1.heap.size := by have := hb.size; rw [hs] at this; exact this
  have hba := balloc w1 (.cells #[.slice x1 l.pos.length cx1, .slice y1 l.set.length cy1, .slice z1 l.taken.length cz1] 33)
  have Pr : Pre a b x y z x1 y1 z1 ca cb cx cy cz cx1 cy1 cz1 w1.heap.size p l w (w1.alloc (.cells #[.slice x1 l.pos.length cx1, .slice y1 l.set.length cy1, .slice z1 l.taken.length cz1] 33)) :=
    ⟨btrans (btrans HB hb) hba, blk_keep hba (blk_keep hb K0), blk_keep hba (blk_keep hb K1), blk_keep hba (blk_keep hb K2), new1, hO.below hba, hs1⟩
  obtain ⟨⟨q0, q1, q2⟩, -⟩ := blk3 (blk_keep hb K0)
  obtain ⟨⟨q3, q4, q5⟩, -⟩ := blk3 (blk_keep hb K1)
  have q0' := ble hba q0
  have q1' := ble hba q1
  have q2' := ble hba q2
  have q3' := ble hba q3
  have q4' := ble hba q4
  have q5' := ble hba q5
  clear K0 K1 K2 HB hs hb hba hO CC q0 q1 q2 q3 q4 q5
  go_wp2_with fail
  clear q0' q1' q2' q3' q4' q5'
  refine (CK _ (hP.below Pr.hb) (hL.below Pr.hb)).mono ?_
  rintro e w2 ⟨rfl, hb⟩
  replace Pr := Pr.below hb
  clear hb CK
  cases h : lockOk p l
  · have hC := hide (show opC .occ p l v = 1 from (op_bad h).1)
    have hQ := hide (show opL .occ p l v = l from (op_bad h).2)
    obtain ⟨⟨r0, r1, r2⟩, j0, j1, j2⟩ := blk3 Pr.k2
    obtain ⟨⟨e0, e1, e2⟩, -⟩ := blk3 Pr.k8
    have fO := fin_own (n1 := l.pos.length) (n2 := l.set.length) (n3 := l.taken.length) Pr.own (Nat.le_of_lt (lt_of_block Pr.k8))
    have fB := fin_below (x1 := x1) (y1 := y1) (z1 := z1) (cx1 := cx1) (cy1 := cy1) (cz1 := cz1) (n1 := l.pos.length) (n2 := l.set.length) (n3 := l.taken.length) Pr.hb
    go_wp2_with fail
    refine bodyPost_ret (v := .tuple #[.agg #[.slice x1 l.pos.length cx1, .slice y1 l.set.length cy1, .slice z1 l.taken.length cz1], .int .i64 1]) (by simp [results, Try.results33, go_sem, r0, r1, r2]) rfl ⟨x1, cx1, y1, cy1, z1, cz1, by rw [hC.out, hQ.out], by rw [hQ.out]; exact fO, fB⟩

  have hF := lock_fits h
  have r12 := hF.ok.r12
  have b24 := hF.ok.b24
  have b1 := hF.ok.b1
  have hw : IntKind.i64.wrap (p.blocks - 1) = p.blocks - 1 := wrap_in _ (by omega) (by omega)
  obtain ⟨⟨q0, q1, q2⟩, -⟩ := blk3 Pr.k0
  go_wp2_with fail
  clear q0 q1 q2 hw
  refine (cIn v 0 (p.blocks - 1) _).mono ?_
  rintro e w3 ⟨rfl, hw3⟩
  subst w3
  cases hv : inB v 0 (p.blocks - 1)
  · have hv' : isBlock p v = false := hv
    have hC := hide (show opC .occ p l v = 1 by simp [opC, occC, hv'])
    have hQ := hide (show opL .occ p l v = l by simp [opL, occL, occC, hv'])
    obtain ⟨⟨r0, r1, r2⟩, j0, j1, j2⟩ := blk3 Pr.k2
    obtain ⟨⟨e0, e1, e2⟩, -⟩ := blk3 Pr.k8
    have fO := fin_own (n1 := l.pos.length) (n2 := l.set.length) (n3 := l.taken.length) Pr.own (Nat.le_of_lt (lt_of_block Pr.k8))
    have fB := fin_below (x1 := x1) (y1 := y1) (z1 := z1) (cx1 := cx1) (cy1 := cy1) (cz1 := cz1) (n1 := l.pos.length) (n2 := l.set.length) (n3 := l.taken.length) Pr.hb
    go_wp2_with fail
    refine bodyPost_ret (v := .tuple #[.agg #[.slice x1 l.pos.length cx1, .slice y1 l.set.length cy1, .slice z1 l.taken.length cz1], .int .i64 1]) (by simp [results, Try.results33, go_sem, r0, r1, r2]) rfl ⟨x1, cx1, y1, cy1, z1, cz1, by rw [hC.out, hQ.out], by rw [hQ.out]; exact fO, fB⟩

  have hv' : isBlock p v = true := hv
  obtain ⟨q, rfl⟩ := Int.eq_ofNat_of_zero_le (inB_true hv).1
  have hq := (inB_true hv).2
  have hqt : q < l.taken.length := by have := hF.taken; omega
  have hqt' : (q : Int) < l.taken.length := by omega
  have hC0 : opC .occ p l (q : Int) = (bif l.taken.getD q false then 4 else bif reached p l (q : Int) then 0 else 6) := by simp [opC, occC, h, hv']
  have hQ0 : opL .occ p l (q : Int) = (bif !l.taken.getD q false && reached p l (q : Int) then ⟨l.pos, l.set, l.taken.set q true⟩ else l) := by
    have hc : occC p l (q : Int) = (bif l.taken.getD q false then 4 else bif reached p l (q : Int) then 0 else 6) := hC0
    show occL p l (q : Int) = _
    unfold occL; rw [hc]; cases l.taken.getD q false <;> cases reached p l (q : Int) <;> rfl
  replace hC0 := hide hC0
  replace hQ0 := hide hQ0
  have hsl := hide hF.set
  have hr0 : Hid (((List.range p.routes.length).drop 0).any (fun r => l.set.getD r false && decide ((q : Int) ∈ (p.route r).blocks)) = reached p l (q : Int)) := by
    refine hide ?_
    unfold reached; rw [hsl.out]; rfl
  generalize reached p l (q : Int) = vr at *
  obtain ⟨zb, zo, rfl, vz⟩ := (hL.taken.below Pr.hb).bit hqt
  obtain ⟨⟨q3, q4, q5⟩, -⟩ := blk3 Pr.k1
  generalize hbit : l.taken.getD q false = bit at *
  replace hbit := hide hbit
  cases bit
  rotate_left
  · have hC := hide (show opC .occ p l (q : Int) = 4 from hC0.out)
    have hQ := hide (show opL .occ p l (q : Int) = l from hQ0.out)
    obtain ⟨⟨r0, r1, r2⟩, j0, j1, j2⟩ := blk3 Pr.k2
    obtain ⟨⟨e0, e1, e2⟩, -⟩ := blk3 Pr.k8
    have fO := fin_own (n1 := l.pos.length) (n2 := l.set.length) (n3 := l.taken.length) Pr.own (Nat.le_of_lt (lt_of_block Pr.k8))
    have fB := fin_below (x1 := x1) (y1 := y1) (z1 := z1) (cx1 := cx1) (cy1 := cy1) (cz1 := cz1) (n1 := l.pos.length) (n2 := l.set.length) (n3 := l.taken.length) Pr.hb
    go_wp2_with fail
    refine bodyPost_ret (v := .tuple #[.agg #[.slice x1 l.pos.length cx1, .slice y1 l.set.length cy1, .slice z1 l.taken.length cz1], .int .i64 4]) (by simp [results, Try.results33, go_sem, r0, r1, r2]) rfl ⟨x1, cx1, y1, cy1, z1, cz1, by rw [hC.out, hQ.out], by rw [hQ.out]; exact fO, fB⟩

  go_wp2
  clear q3 q4 q5 vz
  go_loopw [9] (fun i wr => ∃ k : Nat, k ≤ p.routes.length ∧ i = .int .i64 k ∧ Hid (((List.range p.routes.length).drop k).any (fun r => l.set.getD r false && decide ((q : Int) ∈ (p.route r).blocks)) = vr) ∧ Pre a b x y (some ⟨zb, zo, none⟩) x1 y1 z1 ca cb cx cy cz cx1 cy1 cz1 w1.heap.size p l w wr) (fun i _ => p.routes.length - (intOf i).toNat)
  case atStart => exact ⟨0, Nat.zero_le _, rfl, hr0, Pr⟩
  case round =>
    obtain ⟨k, hk, rfl, hres, Qr⟩ := hrel
    clear Pr hr0
    obtain ⟨⟨q0, q1, q2⟩, -⟩ := blk3 Qr.k0
    obtain ⟨⟨q3, q4, q5⟩, -⟩ := blk3 Qr.k1
    have hlt8 := Qr.lt
    by_cases hlt : k < p.routes.length
    · have hls : k < l.set.length := by rw [hsl.out]; exact hlt
      have hls' : (k : Int) < l.set.length := by omega
      have hlt' : (k : Int) < p.routes.length := by omega
      obtain ⟨g, off, n, cn, m, cm, rfl, c1, c2, -, -, c4⟩ := (hP.below Qr.hb).at hlt
      have hsm := hS.at hlt
      have hd := hide ((any_drop (P := fun r => l.set.getD r false && decide ((q : Int) ∈ (p.route r).blocks)) (zs := List.range p.routes.length) (k := k) (by simpa using hlt)).symm.trans hres.out)
      simp only [List.getElem_range] at hd
      obtain ⟨yb, yo, rfl, vy⟩ := (hL.set.below Qr.hb).bit hls
      generalize l.set.getD k false = sv at *
      clear hres
      cases sv
      · have hf := hide (show ((List.range p.routes.length).drop (k + 1)).any (fun r => l.set.getD r false && decide ((q : Int) ∈ (p.route r).blocks)) = vr by rw [← hd.out]; simp)
        clear hd
        go_wp2
        go_roundw
        case rel => exact ⟨k + 1, by omega, by go_num, hf, Qr⟩
        case measure => simp [intOf]; omega
      · go_wp2_with fail
        clear q0 q1 q2 q3 q4 q5
        refine (cHas m cm (p.route k).blocks (q : Int) _ c4 hsm.2).mono ?_
        rintro e w5 ⟨rfl, hw5⟩
        subst w5
        cases hin : decide ((q : Int) ∈ (p.route k).blocks)
        · have hf := hide (show ((List.range p.routes.length).drop (k + 1)).any (fun r => l.set.getD r false && decide ((q : Int) ∈ (p.route r).blocks)) = vr by rw [← hd.out, hin]; simp)
          replace hin := hide hin
          clear hd
          go_wp2
          go_roundw
          case rel => exact ⟨k + 1, by omega, by go_num, hf, Qr⟩
          case measure => simp [intOf]; omega
        · have hvr : vr = true := by rw [← hd.out, hin]; simp
          subst hvr
          replace hin := hide hin
          have hC := hide (show opC .occ p l (q : Int) = 0 from hC0.out)
          have hQ := hide (show opL .occ p l (q : Int) = ⟨l.pos, l.set, l.taken.set q true⟩ from hQ0.out)
          obtain ⟨g', rfl, g1, g2, ⟨u, hu⟩, hf, hO2⟩ := Qr.own.putTaken hqt true
          have k2' := blk_other (b := g') (i := q) (v := .bool true) Qr.k2 (by omega)
          have k8' := blk_other (b := g') (i := q) (v := .bool true) Qr.k8 (by omega)
          have hb' := below_set (o := q) (v := .bool true) (b := g') (by omega) Qr.hb
          obtain ⟨⟨i0, i1, i2⟩, -⟩ := blk3 Qr.k8
          obtain ⟨⟨r0, r1, r2⟩, j0, j1, j2⟩ := blk3 k2'
          obtain ⟨⟨e0, e1, e2⟩, -⟩ := blk3 k8'
          have fO := fin_own (n1 := l.pos.length) (n2 := l.set.length) (n3 := l.taken.length) hO2 (Nat.le_of_lt (lt_of_block k8'))
          have fB := fin_below (x1 := x1) (y1 := y1) (z1 := some ⟨g', 0, none⟩) (cx1 := cx1) (cy1 := cy1) (cz1 := cz1) (n1 := l.pos.length) (n2 := l.set.length) (n3 := l.taken.length) hb'
          go_wp2_with fail
          refine bodyPost_ret (v := .tuple #[.agg #[.slice x1 l.pos.length cx1, .slice y1 l.set.length cy1, .slice (some ⟨g', 0, none⟩) l.taken.length cz1], .int .i64 0]) (by simp [results, Try.results33, go_sem, r0, r1, r2]) rfl ⟨x1, cx1, y1, cy1, some ⟨g', 0, none⟩, cz1, by rw [hC.out, hQ.out]; simp, by rw [hQ.out]; exact fO, fB⟩

    · obtain rfl : k = p.routes.length := by omega
      have hvr : vr = false := by rw [← hres.out, List.drop_of_length_le (by simp)]; rfl
      subst hvr
      have hC := hide (show opC .occ p l (q : Int) = 6 from hC0.out)
      have hQ := hide (show opL .occ p l (q : Int) = l from hQ0.out)
      obtain ⟨⟨r0, r1, r2⟩, j0, j1, j2⟩ := blk3 Qr.k2
      obtain ⟨⟨e0, e1, e2⟩, -⟩ := blk3 Qr.k8
      have fO := fin_own (n1 := l.pos.length) (n2 := l.set.length) (n3 := l.taken.length) Qr.own (Nat.le_of_lt (lt_of_block Qr.k8))
      have fB := fin_below (x1 := x1) (y1 := y1) (z1 := z1) (cx1 := cx1) (cy1 := cy1) (cz1 := cz1) (n1 := l.pos.length) (n2 := l.set.length) (n3 := l.taken.length) Qr.hb
      go_wp2_with fail
      refine bodyPost_ret (v := .tuple #[.agg #[.slice x1 l.pos.length cx1, .slice y1 l.set.length cy1, .slice z1 l.taken.length cz1], .int .i64 6]) (by simp [results, Try.results33, go_sem, r0, r1, r2]) rfl ⟨x1, cx1, y1, cy1, z1, cz1, by rw [hC.out, hQ.out], by rw [hQ.out]; exact fO, fB⟩
end Go.Proofs.Ytpgjllefhlanpaa
