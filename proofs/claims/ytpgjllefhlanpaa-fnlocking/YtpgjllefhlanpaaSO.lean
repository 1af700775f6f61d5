/- The model's ops: what they share. -/
import Derived.Test.YtpgjllefhlanpaaSC
namespace Go.Proofs.Ytpgjllefhlanpaa
open Go.RowKit
/-- Where an op of the model stands behind its copy. -/
structure Pre (a b x y z x1 y1 z1 : Option Addr) (ca cb cx cy cz cx1 cy1 cz1 B8 : Nat) (p : PlantV) (l : LockV) (w W : World) : Prop where
  hb : Below w.heap.size w W
  k0 : W.heap[w.heap.size]? = some (.cells #[.slice a p.under.length ca, .int .i64 p.blocks, .slice b p.routes.length cb] 27 (0, 0))
  k1 : W.heap[w.heap.size + 1]? = some (.cells #[.slice x l.pos.length cx, .slice y l.set.length cy, .slice z l.taken.length cz] 33 (0, 0))
  k2 : W.heap[w.heap.size + 1 + 1]? = some (.cells #[.slice none 0 0, .slice none 0 0, .slice none 0 0] 33 (0, 0))
  k8 : W.heap[B8]? = some (.cells #[.slice x1 l.pos.length cx1, .slice y1 l.set.length cy1, .slice z1 l.taken.length cz1] 33 (0, 0))
  own : LockOwn W (w.heap.size + 1 + 1 + 1) B8 x1 cx1 y1 cy1 z1 cz1 l
  lt : w.heap.size + 1 + 1 + 1 ≤ B8
theorem Pre.below {a b x y z x1 y1 z1 : Option Addr} {ca cb cx cy cz cx1 cy1 cz1 B8 : Nat} {p : PlantV} {l : LockV} {w W W' : World} (h : Pre a b x y z x1 y1 z1 ca cb cx cy cz cx1 cy1 cz1 B8 p l w W) (hb : Below W.heap.size W W') : Pre a b x y z x1 y1 z1 ca cb cx cy cz cx1 cy1 cz1 B8 p l w W' :=
  ⟨btrans h.hb hb, blk_keep hb h.k0, blk_keep hb h.k1, blk_keep hb h.k2, blk_keep hb h.k8, h.own.below hb, h.lt⟩
theorem Pre.drawn {a b x y z x1 y1 z1 : Option Addr} {ca cb cx cy cz cx1 cy1 cz1 B8 : Nat} {p : PlantV} {l : LockV} {w W : World} (h : Pre a b x y z x1 y1 z1 ca cb cx cy cz cx1 cy1 cz1 B8 p l w W) (n : Nat) : Pre a b x y z x1 y1 z1 ca cb cx cy cz cx1 cy1 cz1 B8 p l w (W.drewN n) := h.below (bdraw (Below.refl _ _) n)
/-- What is behind an op's return. -/
theorem fin_own {x1 y1 z1 : Option Addr} {cx1 cy1 cz1 B8 n1 n2 n3 : Nat} {l : LockV} {w W : World} (h : LockOwn W (w.heap.size + 1 + 1 + 1) B8 x1 cx1 y1 cy1 z1 cz1 l) (h8 : B8 ≤ W.heap.size) :
    LockOwn (((W.setCell ⟨w.heap.size + 1 + 1, 0, none⟩ (.slice x1 n1 cx1)).setCell ⟨w.heap.size + 1 + 1, 1, none⟩ (.slice y1 n2 cy1)).setCell ⟨w.heap.size + 1 + 1, 2, none⟩ (.slice z1 n3 cz1)) w.heap.size (((W.setCell ⟨w.heap.size + 1 + 1, 0, none⟩ (.slice x1 n1 cx1)).setCell ⟨w.heap.size + 1 + 1, 1, none⟩ (.slice y1 n2 cy1)).setCell ⟨w.heap.size + 1 + 1, 2, none⟩ (.slice z1 n3 cz1)).heap.size x1 cx1 y1 cy1 z1 cz1 l :=
  (((h.setFar (g := w.heap.size + 1 + 1) (i := 0) (u := .slice x1 n1 cx1) (by omega)).setFar (g := w.heap.size + 1 + 1) (i := 1) (u := .slice y1 n2 cy1) (by omega)).setFar (g := w.heap.size + 1 + 1) (i := 2) (u := .slice z1 n3 cz1) (by omega)).wider (by omega) (by simpa using h8)
theorem fin_below {x1 y1 z1 : Option Addr} {cx1 cy1 cz1 n1 n2 n3 : Nat} {w W : World} (h : Below w.heap.size w W) : Below w.heap.size w (((W.setCell ⟨w.heap.size + 1 + 1, 0, none⟩ (.slice x1 n1 cx1)).setCell ⟨w.heap.size + 1 + 1, 1, none⟩ (.slice y1 n2 cy1)).setCell ⟨w.heap.size + 1 + 1, 2, none⟩ (.slice z1 n3 cz1)) :=
  below_set (by omega) (below_set (by omega) (below_set (by omega) h))

set_option maxRecDepth 20000 in
set_option maxHeartbeats 6400000 in
theorem cVacS (v : Int) (a b x y z : Option Addr) (ca cb cx cy cz : Nat) (p : PlantV) (l : LockV) (w : World) (hP : PlantIn w a b p) (hL : LockIn w x y z l) (hS : Small p) (hT : LSmall l) :
    Calls Try.prog 34 #[plantVal a ca b cb p, lockVal x cx y cy z cz l, .int .i64 v] w fun e w' => ∃ x' cx' y' cy' z' cz', e = .returned (.tuple #[lockVal x' cx' y' cy' z' cz' (opL .vac p l v), .int .i64 (opC .vac p l v)]) ∧
      LockOwn w' w.heap.size w'.heap.size x' cx' y' cy' z' cz' (opL .vac p l v) ∧ Below w.heap.size w w' := by
  have CC := fun w h => cCopyLock x y z cx cy cz l w h hT
  have CK := fun w hP hL => cLockOkS a b x y z ca cb cx cy cz p l w hP hL hS hT
  have t1 := hT.pos
  have t2 := hT.set
  have t3 := hT.taken
  have u2 := hS.routes
  unfold plantVal lockVal at *
  have HB := below3 w (.cells #[.slice a p.under.length ca, .int .i64 p.blocks, .slice b p.routes.length cb] 27) (.cells #[.slice x l.pos.length cx, .slice y l.set.length cy, .slice z l.taken.length cz] 33) (.cells #[.slice none 0 0, .slice none 0 0, .slice none 0 0] 33)
  obtain ⟨K0, K1, K2⟩ := three_blocks w (.cells #[.slice a p.under.length ca, .int .i64 p.blocks, .slice b p.routes.length cb] 27) (.cells #[.slice x l.pos.length cx, .slice y l.set.length cy, .slice z l.taken.length cz] 33) (.cells #[.slice none 0 0, .slice none 0 0, .slice none 0 0] 33)
  have hs := size3 w (.cells #[.slice a p.under.length ca, .int .i64 p.blocks, .slice b p.routes.length cb] 27) (.cells #[.slice x l.pos.length cx, .slice y l.set.length cy, .slice z l.taken.length cz] 33) (.cells #[.slice none 0 0, .slice none 0 0, .slice none 0 0] 33)
  go_enter Try.func34, Try.ntmps34
  go_wp2_with fail
  refine (CC _ (hL.below HB)).mono ?_
  rintro e w1 ⟨x1, cx1, y1, cy1, z1, cz1, rfl, hO, hb⟩
  rw [hs] at hO
  have hs1 : w.heap.size + 1 + 1 + 1 ≤ w1.heap.size := by have := hb.size; rw [hs] at this; exact this
  have hba := balloc w1 (.cells #[.slice x1 l.pos.length cx1, .slice y1 l.set.length cy1, .slice z1 l.taken.length cz1] 33)
  have Pr : Pre a b x y z x1 y1 z1 ca cb cx cy cz cx1 cy1 cz1 w1.heap.size p l w (w1.alloc (.cells #[.slice x1 l.pos.length cx1, .slice y1 l.set.length cy1, .slice z1 l.taken.length cz1] 33)) :=
    ⟨btrans (btrans HB hb) hba, blk_keep hba (blk_keep hb K0), blk_keep hba (blk_keep hb K1), blk_keep hba (blk_keep hb K2), new1, hO.below hba, hs1⟩
  obtain ⟨⟨q0, q1, q2⟩, -⟩ := blk3 (blk_keep hb K0)
  obtain ⟨⟨q3, q4, q5⟩, -⟩ := blk3 (blk_keep hb K1)
  have q0' := ble hba q0
  have q1' := ble hba q1
  have q2' := ble hba q2
  have q3' := ble hba q3
  have q4' := ble hba q4
  have q5' := ble hba q5
  clear K0 K1 K2 HB hs hb hba hO CC q0 q1 q2 q3 q4 q5
  go_wp2_with fail
  clear q0' q1' q2' q3' q4' q5'
  refine (CK _ (hP.below Pr.hb) (hL.below Pr.hb)).mono ?_
  rintro e w2 ⟨rfl, hb⟩
  replace Pr := Pr.below hb
  clear hb CK
  cases h : lockOk p l
  · have hC := hide (show opC .vac p l v = 1 from (op_bad h).1)
    have hQ := hide (show opL .vac p l v = l from (op_bad h).2)
    obtain ⟨⟨r0, r1, r2⟩, j0, j1, j2⟩ := blk3 Pr.k2
    obtain ⟨⟨e0, e1, e2⟩, -⟩ := blk3 Pr.k8
    have fO := fin_own (n1 := l.pos.length) (n2 := l.set.length) (n3 := l.taken.length) Pr.own (Nat.le_of_lt (lt_of_block Pr.k8))
    have fB := fin_below (x1 := x1) (y1 := y1) (z1 := z1) (cx1 := cx1) (cy1 := cy1) (cz1 := cz1) (n1 := l.pos.length) (n2 := l.set.length) (n3 := l.taken.length) Pr.hb
    go_wp2_with fail
    refine bodyPost_ret (v := .tuple #[.agg #[.slice x1 l.pos.length cx1, .slice y1 l.set.length cy1, .slice z1 l.taken.length cz1], .int .i64 1]) (by simp [results, Try.results34, go_sem, r0, r1, r2]) rfl ⟨x1, cx1, y1, cy1, z1, cz1, by rw [hC.out, hQ.out], by rw [hQ.out]; exact fO, fB⟩

  have hF := lock_fits h
  have r12 := hF.ok.r12
  have b24 := hF.ok.b24
  have b1 := hF.ok.b1
  have hw : IntKind.i64.wrap (p.blocks - 1) = p.blocks - 1 := wrap_in _ (by omega) (by omega)
  obtain ⟨⟨q0, q1, q2⟩, -⟩ := blk3 Pr.k0
  go_wp2_with fail
  clear q0 q1 q2 hw
  refine (cIn v 0 (p.blocks - 1) _).mono ?_
  rintro e w3 ⟨rfl, hw3⟩
  subst w3
  cases hv : inB v 0 (p.blocks - 1)
  · have hv' : isBlock p v = false := hv
    have hC := hide (show opC .vac p l v = 1 by simp [opC, vacC, hv'])
    have hQ := hide (show opL .vac p l v = l by simp [opL, vacL, vacC, hv'])
    obtain ⟨⟨r0, r1, r2⟩, j0, j1, j2⟩ := blk3 Pr.k2
    obtain ⟨⟨e0, e1, e2⟩, -⟩ := blk3 Pr.k8
    have fO := fin_own (n1 := l.pos.length) (n2 := l.set.length) (n3 := l.taken.length) Pr.own (Nat.le_of_lt (lt_of_block Pr.k8))
    have fB := fin_below (x1 := x1) (y1 := y1) (z1 := z1) (cx1 := cx1) (cy1 := cy1) (cz1 := cz1) (n1 := l.pos.length) (n2 := l.set.length) (n3 := l.taken.length) Pr.hb
    go_wp2_with fail
    refine bodyPost_ret (v := .tuple #[.agg #[.slice x1 l.pos.length cx1, .slice y1 l.set.length cy1, .slice z1 l.taken.length cz1], .int .i64 1]) (by simp [results, Try.results34, go_sem, r0, r1, r2]) rfl ⟨x1, cx1, y1, cy1, z1, cz1, by rw [hC.out, hQ.out], by rw [hQ.out]; exact fO, fB⟩

  have hv' : isBlock p v = true := hv
  obtain ⟨q, rfl⟩ := Int.eq_ofNat_of_zero_le (inB_true hv).1
  have hq := (inB_true hv).2
  have hqt : q < l.taken.length := by have := hF.taken; omega
  have hqt' : (q : Int) < l.taken.length := by omega
  have hC0 : opC .vac p l (q : Int) = (bif l.taken.getD q false then 0 else 6) := by simp [opC, vacC, h, hv']
  have hQ0 : opL .vac p l (q : Int) = (bif l.taken.getD q false then ⟨l.pos, l.set, l.taken.set q false⟩ else l) := by
    have hc : vacC p l (q : Int) = (bif l.taken.getD q false then 0 else 6) := hC0
    show vacL p l (q : Int) = _
    unfold vacL; rw [hc]; cases l.taken.getD q false <;> rfl
  replace hC0 := hide hC0
  replace hQ0 := hide hQ0
  obtain ⟨zb, zo, rfl, vz⟩ := (hL.taken.below Pr.hb).bit hqt
  obtain ⟨⟨q3, q4, q5⟩, -⟩ := blk3 Pr.k1
  generalize hbit : l.taken.getD q false = bit at *
  replace hbit := hide hbit
  cases bit
  · have hC := hide (show opC .vac p l (q : Int) = 6 from hC0.out)
    have hQ := hide (show opL .vac p l (q : Int) = l from hQ0.out)
    obtain ⟨⟨r0, r1, r2⟩, j0, j1, j2⟩ := blk3 Pr.k2
    obtain ⟨⟨e0, e1, e2⟩, -⟩ := blk3 Pr.k8
    have fO := fin_own (n1 := l.pos.length) (n2 := l.set.length) (n3 := l.taken.length) Pr.own (Nat.le_of_lt (lt_of_block Pr.k8))
    have fB := fin_below (x1 := x1) (y1 := y1) (z1 := z1) (cx1 := cx1) (cy1 := cy1) (cz1 := cz1) (n1 := l.pos.length) (n2 := l.set.length) (n3 := l.taken.length) Pr.hb
    go_wp2_with fail
    refine bodyPost_ret (v := .tuple #[.agg #[.slice x1 l.pos.length cx1, .slice y1 l.set.length cy1, .slice z1 l.taken.length cz1], .int .i64 6]) (by simp [results, Try.results34, go_sem, r0, r1, r2]) rfl ⟨x1, cx1, y1, cy1, z1, cz1, by rw [hC.out, hQ.out], by rw [hQ.out]; exact fO, fB⟩

  · have hC := hide (show opC .vac p l (q : Int) = 0 from hC0.out)
    have hQ := hide (show opL .vac p l (q : Int) = ⟨l.pos, l.set, l.taken.set q false⟩ from hQ0.out)
    obtain ⟨g, rfl, g1, g2, ⟨u, hu⟩, hf, hO2⟩ := Pr.own.putTaken hqt false
    have k2' := blk_other (b := g) (i := q) (v := .bool false) Pr.k2 (by omega)
    have k8' := blk_other (b := g) (i := q) (v := .bool false) Pr.k8 (by omega)
    have hb' := below_set (o := q) (v := .bool false) (b := g) (by omega) Pr.hb
    obtain ⟨⟨i0, i1, i2⟩, -⟩ := blk3 Pr.k8
    obtain ⟨⟨r0, r1, r2⟩, j0, j1, j2⟩ := blk3 k2'
    obtain ⟨⟨e0, e1, e2⟩, -⟩ := blk3 k8'
    have fO := fin_own (n1 := l.pos.length) (n2 := l.set.length) (n3 := l.taken.length) hO2 (Nat.le_of_lt (lt_of_block k8'))
    have fB := fin_below (x1 := x1) (y1 := y1) (z1 := some ⟨g, 0, none⟩) (cx1 := cx1) (cy1 := cy1) (cz1 := cz1) (n1 := l.pos.length) (n2 := l.set.length) (n3 := l.taken.length) hb'
    go_wp2_with fail
    refine bodyPost_ret (v := .tuple #[.agg #[.slice x1 l.pos.length cx1, .slice y1 l.set.length cy1, .slice (some ⟨g, 0, none⟩) l.taken.length cz1], .int .i64 0]) (by simp [results, Try.results34, go_sem, r0, r1, r2]) rfl ⟨x1, cx1, y1, cy1, some ⟨g, 0, none⟩, cz1, by rw [hC.out, hQ.out]; simp, by rw [hQ.out]; exact fO, fB⟩
end Go.Proofs.Ytpgjllefhlanpaa
