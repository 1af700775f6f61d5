/- The model's Request. -/
import Derived.Test.YtpgjllefhlanpaaSO
namespace Go.Proofs.Ytpgjllefhlanpaa
open Go.RowKit

set_option maxRecDepth 20000 in
set_option maxHeartbeats 6400000 in
theorem cReqS (v : Int) (a b x y z : Option Addr) (ca cb cx cy cz : Nat) (p : PlantV) (l : LockV) (w : World) (hP : PlantIn w a b p) (hL : LockIn w x y z l) (hS : Small p) (hT : LSmall l) :
    Calls Try.prog 32 #[plantVal a ca b cb p, lockVal x cx y cy z cz l, .int .i64 v] w fun e w' => ∃ x' cx' y' cy' z' cz', e = .returned (.tuple #[lockVal x' cx' y' cy' z' cz' (opL .req p l v), .int .i64 (opC .req p l v)]) ∧
      LockOwn w' w.heap.size w'.heap.size x' cx' y' cy' z' cz' (opL .req p l v) ∧ Below w.heap.size w w' := by
  have CC := fun w h => cCopyLock x y z cx cy cz l w h hT
  have CK := fun w hP hL => cLockOkS a b x y z ca cb cx cy cz p l w hP hL hS hT
  have t1 := hT.pos
  have t2 := hT.set
  have t3 := hT.taken
  have u2 := hS.routes
  unfold plantVal lockVal at *
  have HB := below3 w (.cells #[.slice a p.under.length ca, .int .i64 p.blocks, .slice b p.routes.length cb] 27) (.cells #[.slice x l.pos.length cx, .slice y l.set.length cy, .slice z l.taken.length cz] 33) (.cells #[.slice none 0 0, .slice none 0 0, .slice none 0 0] 33)
  obtain ⟨K0, K1, K2⟩ := three_blocks w (.cells #[.slice a p.under.length ca, .int .i64 p.blocks, .slice b p.routes.length cb] 27) (.cells #[.slice x l.pos.length cx, .slice y l.set.length cy, .slice z l.taken.length cz] 33) (.cells #[.slice none 0 0, .slice none 0 0, .slice none 0 0] 33)
  have hs := size3 w (.cells #[.slice a p.under.length ca, .int .i64 p.blocks, .slice b p.routes.length cb] 27) (.cells #[.slice x l.pos.length cx, .slice y l.set.length cy, .slice z l.taken.length cz] 33) (.cells #[.slice none 0 0, .slice none 0 0, .slice none 0 0] 33)
  go_enter Try.func32, Try.ntmps32
  go_wp2_with fail
  refine (CC _ (hL.below HB)).mono ?_
  rintro e w1 ⟨x1, cx1, y1, cy1, z1, cz1, rfl, hO, hb⟩
  rw [hs] at hO
  have hs1 : w.heap.size + 1 + 1 + 1 ≤ w1.heap.size := by have := hb.size; rw [hs] at this; exact this
  have hba := balloc w1 (.cells #[.slice x1 l.pos.length cx1, .slice y1 l.set.length cy1, .slice z1 l.taken.length cz1] 33)
  have Pr : Pre a b x y z x1 y1 z1 ca cb cx cy cz cx1 cy1 cz1 w1.heap.size p l w (w1.alloc (.cells #[.slice x1 l.pos.length cx1, .slice y1 l.set.length cy1, .slice z1 l.taken.length cz1] 33)) :=
    ⟨btrans (btrans HB hb) hba, blk_keep hba (blk_keep hb K0), blk_keep hba (blk_keep hb K1), blk_keep hba (blk_keep hb K2), new1, hO.below hba, hs1⟩
  obtain ⟨⟨q0, q1, q2⟩, -⟩ := blk3 (blk_keep hb K0)
  obtain ⟨⟨q3, q4, q5⟩, -⟩ := blk3 (blk_keep hb K1)
  have q0' := ble hba q0
  have q1' := ble hba q1
  have q2' := ble hba q2
  have q3' := ble hba q3
  have q4' := ble hba q4
  have q5' := ble hba q5
  clear K0 K1 K2 HB hs hb hba hO CC q0 q1 q2 q3 q4 q5
  go_wp2_with fail
  clear q0' q1' q2' q3' q4' q5'
  refine (CK _ (hP.below Pr.hb) (hL.below Pr.hb)).mono ?_
  rintro e w2 ⟨rfl, hb⟩
  replace Pr := Pr.below hb
  clear hb CK
  cases h : lockOk p l
  · have hC := hide (show opC .req p l v = 1 from (op_bad h).1)
    have hQ := hide (show opL .req p l v = l from (op_bad h).2)
    obtain ⟨⟨r0, r1, r2⟩, j0, j1, j2⟩ := blk3 Pr.k2
    obtain ⟨⟨e0, e1, e2⟩, -⟩ := blk3 Pr.k8
    have fO := fin_own (n1 := l.pos.length) (n2 := l.set.length) (n3 := l.taken.length) Pr.own (Nat.le_of_lt (lt_of_block Pr.k8))
    have fB := fin_below (x1 := x1) (y1 := y1) (z1 := z1) (cx1 := cx1) (cy1 := cy1) (cz1 := cz1) (n1 := l.pos.length) (n2 := l.set.length) (n3 := l.taken.length) Pr.hb
    go_wp2_with fail
    refine bodyPost_ret (v := .tuple #[.agg #[.slice x1 l.pos.length cx1, .slice y1 l.set.length cy1, .slice z1 l.taken.length cz1], .int .i64 1]) (by simp [results, Try.results32, go_sem, r0, r1, r2]) rfl ⟨x1, cx1, y1, cy1, z1, cz1, by rw [hC.out, hQ.out], by rw [hQ.out]; exact fO, fB⟩

  have hF := lock_fits h
  have r12 := hF.ok.r12
  have b24 := hF.ok.b24
  have b1 := hF.ok.b1
  have hw : IntKind.i64.wrap ((p.routes.length : Int) - 1) = (p.routes.length : Int) - 1 := wrap_in _ (by omega) (by omega)
  obtain ⟨⟨q0, q1, q2⟩, -⟩ := blk3 Pr.k0
  go_wp2_with fail
  clear q0 q1 q2 hw
  refine (cIn v 0 (p.routes.length - 1) _).mono ?_
  rintro e w3 ⟨rfl, hw3⟩
  subst w3
  cases hv : inB v 0 (p.routes.length - 1)
  · have hv' : isRoute p v = false := hv
    have hC := hide (show opC .req p l v = 1 by simp [opC, reqC, hv'])
    have hQ := hide (show opL .req p l v = l by simp [opL, reqL, reqC, hv'])
    obtain ⟨⟨r0, r1, r2⟩, j0, j1, j2⟩ := blk3 Pr.k2
    obtain ⟨⟨e0, e1, e2⟩, -⟩ := blk3 Pr.k8
    have fO := fin_own (n1 := l.pos.length) (n2 := l.set.length) (n3 := l.taken.length) Pr.own (Nat.le_of_lt (lt_of_block Pr.k8))
    have fB := fin_below (x1 := x1) (y1 := y1) (z1 := z1) (cx1 := cx1) (cy1 := cy1) (cz1 := cz1) (n1 := l.pos.length) (n2 := l.set.length) (n3 := l.taken.length) Pr.hb
    go_wp2_with fail
    refine bodyPost_ret (v := .tuple #[.agg #[.slice x1 l.pos.length cx1, .slice y1 l.set.length cy1, .slice z1 l.taken.length cz1], .int .i64 1]) (by simp [results, Try.results32, go_sem, r0, r1, r2]) rfl ⟨x1, cx1, y1, cy1, z1, cz1, by rw [hC.out, hQ.out], by rw [hQ.out]; exact fO, fB⟩

  have hv' : isRoute p v = true := hv
  obtain ⟨q, rfl⟩ := Int.eq_ofNat_of_zero_le (inB_true hv).1
  have hq := (inB_true hv).2
  have hqr : q < p.routes.length := by omega
  have hqr' : (q : Int) < p.routes.length := by omega
  have hqs : q < l.set.length := by rw [hF.set]; exact hqr
  have hqs' : (q : Int) < l.set.length := by omega
  have hsl := hide hF.set
  have hpl := hide hF.pos
  have hC0 : opC .req p l (q : Int) = setC p l q := by simp [opC, reqC, setC, h, hv']
  have hQ0 : opL .req p l (q : Int) = (bif decide (setC p l q = 0) then setRoute p l q else l) := by
    have hc : reqC p l (q : Int) = setC p l q := hC0
    show reqL p l (q : Int) = _
    unfold reqL; rw [hc]
  have hsC := setC_eq (p := p) (l := l) (r := q) rfl rfl rfl rfl
  rw [hsC] at hC0 hQ0
  clear hsC
  have hsm := hS.at hqr
  have hsmA := fun i (hi : i < p.routes.length) => hS.at hi
  have hat := fun (w5 : World) (hb : Below w.heap.size w w5) (i : Nat) (hi : i < p.routes.length) => (hP.below hb).at hi
  have hbl : ∀ (k : Nat) (hk : k < (p.route q).blocks.length), 0 ≤ (p.route q).blocks[k] ∧ (p.route q).blocks[k] < l.taken.length := fun k hk => by
    have := hF.ok.block hqr (List.getElem_mem hk); rw [hF.taken]; exact this
  have hnd : ∀ (k : Nat) (hk : k < (p.route q).needs.length), 0 ≤ (p.route q).needs[k].point ∧ (p.route q).needs[k].point < l.pos.length := fun k hk => by
    have := hF.ok.need hqr (List.getElem_mem hk); rw [hF.pos]; exact ⟨this.1, this.2.1⟩
  have hun : ∀ (k : Nat) (hk : k < p.under.length), 0 ≤ p.under.getD k 0 ∧ p.under.getD k 0 < l.taken.length := fun k hk => by
    rw [getD_nat _ _ hk, hF.taken]; exact hF.ok.und _ (List.getElem_mem hk)
  have hbar : l.set.getD q false = false → Hid (((List.range p.routes.length).drop 0).any (fun b => l.set.getD b false && clash (p.route q) (p.route b)) = barred p l q) := fun hz => barred_eq hsl.out hz
  have hhl : Hid (((p.route q).blocks.drop 0).any (fun b => l.taken.getD b.toNat false) = held p l q) := rfl
  have hst : Hid (((p.route q).needs.drop 0).any (fun n => !decide (l.pos.getD n.point.toNat 0 = n.pos) && l.taken.getD (p.under.getD n.point.toNat 0).toNat false) = stuck p l q) := rfl
  have hsr : Hid (setRoute p l (q : Int) = ⟨throwAll l.pos (p.route q).needs, l.set.set q true, l.taken⟩) := rfl
  generalize setRoute p l (q : Int) = SRt at *
  generalize barred p l q = vb at *
  generalize held p l q = vh at *
  generalize stuck p l q = vs at *
  obtain ⟨g, off, n, cn, m, cm, rfl, c1, c2, -, c3, c4⟩ := (hP.below Pr.hb).at hqr
  have n3 := hP.at hqr
  obtain ⟨_, _, n', cn', m', cm', he', d1', d2', -, n3, i3⟩ := n3
  simp only [Option.some.injEq, Addr.mk.injEq, and_true] at he'
  obtain ⟨rfl, rfl⟩ := he'
  have ec := c1.symm.trans (ble Pr.hb d1')
  have ed := c2.symm.trans (ble Pr.hb d2')
  simp only [Option.some.injEq, Value.slice.injEq] at ec ed
  obtain ⟨rfl, -, rfl⟩ := ec
  obtain ⟨rfl, -, rfl⟩ := ed
  clear c3 c4 d1' d2'
  obtain ⟨yb, yo, rfl, vy⟩ := (hL.set.below Pr.hb).bit hqs
  obtain ⟨⟨q0, q1, q2⟩, -⟩ := blk3 Pr.k0
  have hcl := fun (r : RouteV) => hide (show clash (p.route q) r = clash (p.route q) r from rfl)
  generalize hes : (p.route q).needs = es at *
  generalize hbs : (p.route q).blocks = bs at *
  replace hes := hide hes
  replace hbs := hide hbs
  have hba := balloc w2 (.cells #[.slice n es.length cn, .slice m bs.length cm] 48)
  have kw : (w2.alloc (.cells #[.slice n es.length cn, .slice m bs.length cm] 48)).heap[w2.heap.size]? = some (.cells #[.slice n es.length cn, .slice m bs.length cm] 48 (0, 0)) := new1
  have hB8 : w1.heap.size < w2.heap.size := lt_of_block Pr.k8
  replace Pr := Pr.below hba
  replace vy := ble hba vy
  clear hba hcl
  obtain ⟨⟨q3, q4, q5⟩, -⟩ := blk3 Pr.k1
  generalize hbit : l.set.getD q false = bit at *
  cases bit
  rotate_left
  · have hC := hide (show opC .req p l (q : Int) = 2 from hC0)
    have hQ := hide (show opL .req p l (q : Int) = l from hQ0)
    replace hbit := hide hbit
    clear hC0 hQ0 hbar
    obtain ⟨⟨r0, r1, r2⟩, j0, j1, j2⟩ := blk3 Pr.k2
    obtain ⟨⟨e0, e1, e2⟩, -⟩ := blk3 Pr.k8
    have fO := fin_own (n1 := l.pos.length) (n2 := l.set.length) (n3 := l.taken.length) Pr.own (Nat.le_of_lt (lt_of_block Pr.k8))
    have fB := fin_below (x1 := x1) (y1 := y1) (z1 := z1) (cx1 := cx1) (cy1 := cy1) (cz1 := cz1) (n1 := l.pos.length) (n2 := l.set.length) (n3 := l.taken.length) Pr.hb
    go_wp2_with fail
    refine bodyPost_ret (v := .tuple #[.agg #[.slice x1 l.pos.length cx1, .slice y1 l.set.length cy1, .slice z1 l.taken.length cz1], .int .i64 2]) (by simp [results, Try.results32, go_sem, r0, r1, r2]) rfl ⟨x1, cx1, y1, cy1, z1, cz1, by rw [hC.out, hQ.out], by rw [hQ.out]; exact fO, fB⟩

  replace hbar := hbar rfl
  replace hbit := hide hbit
  replace hC0 := hide hC0
  replace hQ0 := hide hQ0
  go_wp2
  clear q0 q1 q2 q3 q4 q5 vy c1 c2
  go_loopw [10] (fun i wr => ∃ k : Nat, k ≤ p.routes.length ∧ i = .int .i64 k ∧ Hid (((List.range p.routes.length).drop k).any (fun b => l.set.getD b false && clash (p.route q) (p.route b)) = vb) ∧ Pre a (some ⟨g, off, none⟩) x (some ⟨yb, yo, none⟩) z x1 y1 z1 ca cb cx cy cz cx1 cy1 cz1 w1.heap.size p l w wr ∧ wr.heap[w2.heap.size]? = some (.cells #[.slice n es.length cn, .slice m bs.length cm] 48 (0, 0))) (fun i _ => p.routes.length - (intOf i).toNat)
  case atStart => exact ⟨0, Nat.zero_le _, rfl, hbar, Pr, kw⟩
  case round =>
    obtain ⟨k, hk, rfl, hres, Qr, kq⟩ := hrel
    clear Pr kw hbar
    obtain ⟨⟨q0, q1, q2⟩, -⟩ := blk3 Qr.k0
    obtain ⟨⟨q3, q4, q5⟩, -⟩ := blk3 Qr.k1
    obtain ⟨⟨q6, q7⟩, -⟩ := blk2 kq
    by_cases hlt : k < p.routes.length
    · have hls : k < l.set.length := by rw [hsl.out]; exact hlt
      have hls' : (k : Int) < l.set.length := by omega
      have hlt' : (k : Int) < p.routes.length := by omega
      obtain ⟨_, _, m1, cm1, m2, cm2, he, d1, d2, -, d3, d4⟩ := hat _ Qr.hb k hlt
      simp only [Option.some.injEq, Addr.mk.injEq, and_true] at he
      obtain ⟨rfl, rfl⟩ := he
      have CC := fun (w5 : World) (hb5 : Below wr.heap.size wr w5) => cAgainst n m m1 m2 cn cm cm1 cm2 (p.route q) (p.route k) w5 (by rw [hes.out]; exact (n3.below Qr.hb).below hb5) (by rw [hbs.out]; exact (i3.below Qr.hb).below hb5) (d3.below hb5) (d4.below hb5) (hsmA q hqr) (hsmA k hlt)
      unfold routeVal at CC
      rw [hes.out, hbs.out] at CC
      have hd := hide ((any_drop (P := fun b => l.set.getD b false && clash (p.route q) (p.route b)) (zs := List.range p.routes.length) (k := k) (by simpa using hlt)).symm.trans hres.out)
      simp only [List.getElem_range] at hd
      have vy := ((hL.set.below Qr.hb).bit hls)
      obtain ⟨_, _, he, vy⟩ := vy
      simp only [Option.some.injEq, Addr.mk.injEq, and_true] at he
      obtain ⟨rfl, rfl⟩ := he
      generalize clash (p.route q) (p.route k) = cl at *
      generalize (p.route k).needs = fs at *
      generalize (p.route k).blocks = cs at *
      generalize hsv : l.set.getD k false = sv at vy hd
      replace hsv := hide hsv
      clear hres d3 d4
      cases sv
      · have hf := hide (show ((List.range p.routes.length).drop (k + 1)).any (fun b => l.set.getD b false && clash (p.route q) (p.route b)) = vb by rw [← hd.out]; simp)
        clear hd CC
        go_wp2
        go_quiet (fail)
        go_wp2
        go_roundw
        case rel => exact ⟨k + 1, by omega, by go_num, hf, Qr.drawn _, kq⟩
        case measure => simp [intOf]; omega
      cases cl
      · have hf := hide (show ((List.range p.routes.length).drop (k + 1)).any (fun b => l.set.getD b false && clash (p.route q) (p.route b)) = vb by rw [← hd.out]; simp)
        clear hd
        go_wp2_with fail
        refine wp_region_held_drew (S := (fun w' => w'.cell? ⟨w.heap.size + 1, 1, none⟩ = some (.slice (some ⟨yb, yo, none⟩) l.set.length cy) ∧ w'.cell? ⟨yb, yo + k, none⟩ = some (.bool true) ∧ w'.cell? ⟨w2.heap.size, 0, none⟩ = some (.slice n es.length cn) ∧ w'.cell? ⟨w2.heap.size, 1, none⟩ = some (.slice m bs.length cm) ∧ w'.cell? ⟨w.heap.size, 2, none⟩ = some (.slice (some ⟨g, off, none⟩) p.routes.length cb) ∧ w'.cell? ⟨g, off + k * 2, none⟩ = some (.slice m1 fs.length cm1) ∧ w'.cell? ⟨g, off + k * 2 + 1, none⟩ = some (.slice m2 cs.length cm2))) (by kernel_rfl) ?_ (fun hHeld => ?_)
        · go_keep
        refine wpAnyH_take (i := 0) (v := .pointer (some ⟨w.heap.size + 1, 1, none⟩)) rfl (by kernel_rfl) (by kernel_rfl) (by kernel_rfl) (fun _ _ _ h => h) (Or.inl ⟨by kernel_rfl, fun w hS => by (obtain ⟨hS0, hS1, hS2, hS3, hS4, hS5, hS6⟩ := hS; go_simp)⟩) hHeld ?_
        change wpAnyH _ _ _ _ _ _ _ { tmps := #[_, _, _, _, _, _, _, _, _, _, _, _, _, _, _, _, _, _, _, _, _, _, _, _, _, _, _, _, _, _, _, _, _, _, _, _, _, _, _, _, _, _, _, _, _, _, _, _, _, .pointer (some ⟨w.heap.size + 1, 1, none⟩), _, _, _, _, _, _, _, _, _, _, _, _, _, _, _, _, _, _, _, _, _, _, _, _, _, _, _, _, _, _, _, _, _, _, _, _, _, _, _, _, _, _, _, _, _, _, _, _, _, _, _, _, _, _, _, _, _, _, _, _, _, _, _, _, _, _, _, _, _, _, _, _, _, _, _, _, _, _, _, _, _, _, _, _, _, _, _, _, _, _, _, _], defers := [] } _
        refine wpAnyH_take (i := 1) (v := .slice (some ⟨yb, yo, none⟩) l.set.length cy) rfl (by kernel_rfl) (by kernel_rfl) (by kernel_rfl) (fun _ _ _ h => h) (Or.inl ⟨by kernel_rfl, fun w hS => by (obtain ⟨hS0, hS1, hS2, hS3, hS4, hS5, hS6⟩ := hS; go_simp)⟩) hHeld ?_
        change wpAnyH _ _ _ _ _ _ _ { tmps := #[_, _, _, _, _, _, _, _, _, _, _, _, _, _, _, _, _, _, _, _, _, _, _, _, _, _, _, _, _, _, _, _, _, _, _, _, _, _, _, _, _, _, _, _, _, _, _, _, _, .pointer (some ⟨w.heap.size + 1, 1, none⟩), .slice (some ⟨yb, yo, none⟩) l.set.length cy, _, _, _, _, _, _, _, _, _, _, _, _, _, _, _, _, _, _, _, _, _, _, _, _, _, _, _, _, _, _, _, _, _, _, _, _, _, _, _, _, _, _, _, _, _, _, _, _, _, _, _, _, _, _, _, _, _, _, _, _, _, _, _, _, _, _, _, _, _, _, _, _, _, _, _, _, _, _, _, _, _, _, _, _, _, _, _, _, _, _, _], defers := [] } _
        refine wpAnyH_take (i := 2) (v := .int .i64 (k : Int)) rfl (by kernel_rfl) (by kernel_rfl) (by kernel_rfl) (fun _ _ _ h => h) (Or.inl ⟨by kernel_rfl, fun w hS => by (obtain ⟨hS0, hS1, hS2, hS3, hS4, hS5, hS6⟩ := hS; go_simp)⟩) hHeld ?_
        change wpAnyH _ _ _ _ _ _ _ { tmps := #[_, _, _, _, _, _, _, _, _, _, _, _, _, _, _, _, _, _, _, _, _, _, _, _, _, _, _, _, _, _, _, _, _, _, _, _, _, _, _, _, _, _, _, _, _, _, _, _, _, .pointer (some ⟨w.heap.size + 1, 1, none⟩), .slice (some ⟨yb, yo, none⟩) l.set.length cy, .int .i64 (k : Int), _, _, _, _, _, _, _, _, _, _, _, _, _, _, _, _, _, _, _, _, _, _, _, _, _, _, _, _, _, _, _, _, _, _, _, _, _, _, _, _, _, _, _, _, _, _, _, _, _, _, _, _, _, _, _, _, _, _, _, _, _, _, _, _, _, _, _, _, _, _, _, _, _, _, _, _, _, _, _, _, _, _, _, _, _, _, _, _, _, _], defers := [] } _
        refine wpAnyH_take (i := 3) (v := .pointer (some ⟨yb, yo + k, none⟩)) rfl (by kernel_rfl) (by kernel_rfl) (by kernel_rfl) (fun _ _ _ h => h) (Or.inl ⟨by kernel_rfl, fun w hS => by (obtain ⟨hS0, hS1, hS2, hS3, hS4, hS5, hS6⟩ := hS; go_simp)⟩) hHeld ?_
        change wpAnyH _ _ _ _ _ _ _ { tmps := #[_, _, _, _, _, _, _, _, _, _, _, _, _, _, _, _, _, _, _, _, _, _, _, _, _, _, _, _, _, _, _, _, _, _, _, _, _, _, _, _, _, _, _, _, _, _, _, _, _, .pointer (some ⟨w.heap.size + 1, 1, none⟩), .slice (some ⟨yb, yo, none⟩) l.set.length cy, .int .i64 (k : Int), .pointer (some ⟨yb, yo + k, none⟩), _, _, _, _, _, _, _, _, _, _, _, _, _, _, _, _, _, _, _, _, _, _, _, _, _, _, _, _, _, _, _, _, _, _, _, _, _, _, _, _, _, _, _, _, _, _, _, _, _, _, _, _, _, _, _, _, _, _, _, _, _, _, _, _, _, _, _, _, _, _, _, _, _, _, _, _, _, _, _, _, _, _, _, _, _, _, _, _, _], defers := [] } _
        refine wpAnyH_take (i := 4) (v := .bool true) rfl (by kernel_rfl) (by kernel_rfl) (by kernel_rfl) (fun _ _ _ h => h) (Or.inl ⟨by kernel_rfl, fun w hS => by (obtain ⟨hS0, hS1, hS2, hS3, hS4, hS5, hS6⟩ := hS; go_simp)⟩) hHeld ?_
        change wpAnyH _ _ _ _ _ _ _ { tmps := #[_, _, _, _, _, _, _, _, _, _, _, _, _, _, _, _, _, _, _, _, _, _, _, _, _, _, _, _, _, _, _, _, _, _, _, _, _, _, _, _, _, _, _, _, _, _, _, _, _, .pointer (some ⟨w.heap.size + 1, 1, none⟩), .slice (some ⟨yb, yo, none⟩) l.set.length cy, .int .i64 (k : Int), .pointer (some ⟨yb, yo + k, none⟩), .bool true, _, _, _, _, _, _, _, _, _, _, _, _, _, _, _, _, _, _, _, _, _, _, _, _, _, _, _, _, _, _, _, _, _, _, _, _, _, _, _, _, _, _, _, _, _, _, _, _, _, _, _, _, _, _, _, _, _, _, _, _, _, _, _, _, _, _, _, _, _, _, _, _, _, _, _, _, _, _, _, _, _, _, _, _, _, _, _, _], defers := [] } _
        refine wpAnyH_take (i := 5) (v := .bool true) rfl (by kernel_rfl) (by kernel_rfl) (by kernel_rfl) (fun _ _ _ h => h) (Or.inl ⟨by kernel_rfl, fun w hS => by (obtain ⟨hS0, hS1, hS2, hS3, hS4, hS5, hS6⟩ := hS; go_simp)⟩) hHeld ?_
        change wpAnyH _ _ _ _ _ _ _ { tmps := #[_, _, _, _, _, _, _, _, _, _, _, _, _, _, _, _, _, _, _, _, _, _, _, _, _, _, _, _, _, _, _, _, _, _, _, _, _, _, _, _, _, _, _, _, _, _, _, _, _, .pointer (some ⟨w.heap.size + 1, 1, none⟩), .slice (some ⟨yb, yo, none⟩) l.set.length cy, .int .i64 (k : Int), .pointer (some ⟨yb, yo + k, none⟩), .bool true, .bool true, _, _, _, _, _, _, _, _, _, _, _, _, _, _, _, _, _, _, _, _, _, _, _, _, _, _, _, _, _, _, _, _, _, _, _, _, _, _, _, _, _, _, _, _, _, _, _, _, _, _, _, _, _, _, _, _, _, _, _, _, _, _, _, _, _, _, _, _, _, _, _, _, _, _, _, _, _, _, _, _, _, _, _, _, _, _, _], defers := [] } _
        refine wpAnyH_take (i := 6) (v := .agg #[.slice n es.length cn, .slice m bs.length cm]) rfl (by kernel_rfl) (by kernel_rfl) (by kernel_rfl) (fun _ _ _ h => h) (Or.inl ⟨by kernel_rfl, fun w hS => by (obtain ⟨hS0, hS1, hS2, hS3, hS4, hS5, hS6⟩ := hS; go_simp)⟩) hHeld ?_
        change wpAnyH _ _ _ _ _ _ _ { tmps := #[_, _, _, _, _, _, _, _, _, _, _, _, _, _, _, _, _, _, _, _, _, _, _, _, _, _, _, _, _, _, _, _, _, _, _, _, _, _, _, _, _, _, _, _, _, _, _, _, _, .pointer (some ⟨w.heap.size + 1, 1, none⟩), .slice (some ⟨yb, yo, none⟩) l.set.length cy, .int .i64 (k : Int), .pointer (some ⟨yb, yo + k, none⟩), .bool true, .bool true, .agg #[.slice n es.length cn, .slice m bs.length cm], _, _, _, _, _, _, _, _, _, _, _, _, _, _, _, _, _, _, _, _, _, _, _, _, _, _, _, _, _, _, _, _, _, _, _, _, _, _, _, _, _, _, _, _, _, _, _, _, _, _, _, _, _, _, _, _, _, _, _, _, _, _, _, _, _, _, _, _, _, _, _, _, _, _, _, _, _, _, _, _, _, _, _, _, _, _], defers := [] } _
        refine wpAnyH_take (i := 7) (v := .pointer (some ⟨w.heap.size, 2, none⟩)) rfl (by kernel_rfl) (by kernel_rfl) (by kernel_rfl) (fun _ _ _ h => h) (Or.inl ⟨by kernel_rfl, fun w hS => by (obtain ⟨hS0, hS1, hS2, hS3, hS4, hS5, hS6⟩ := hS; go_simp)⟩) hHeld ?_
        change wpAnyH _ _ _ _ _ _ _ { tmps := #[_, _, _, _, _, _, _, _, _, _, _, _, _, _, _, _, _, _, _, _, _, _, _, _, _, _, _, _, _, _, _, _, _, _, _, _, _, _, _, _, _, _, _, _, _, _, _, _, _, .pointer (some ⟨w.heap.size + 1, 1, none⟩), .slice (some ⟨yb, yo, none⟩) l.set.length cy, .int .i64 (k : Int), .pointer (some ⟨yb, yo + k, none⟩), .bool true, .bool true, .agg #[.slice n es.length cn, .slice m bs.length cm], .pointer (some ⟨w.heap.size, 2, none⟩), _, _, _, _, _, _, _, _, _, _, _, _, _, _, _, _, _, _, _, _, _, _, _, _, _, _, _, _, _, _, _, _, _, _, _, _, _, _, _, _, _, _, _, _, _, _, _, _, _, _, _, _, _, _, _, _, _, _, _, _, _, _, _, _, _, _, _, _, _, _, _, _, _, _, _, _, _, _, _, _, _, _, _, _, _], defers := [] } _
        refine wpAnyH_take (i := 8) (v := .slice (some ⟨g, off, none⟩) p.routes.length cb) rfl (by kernel_rfl) (by kernel_rfl) (by kernel_rfl) (fun _ _ _ h => h) (Or.inl ⟨by kernel_rfl, fun w hS => by (obtain ⟨hS0, hS1, hS2, hS3, hS4, hS5, hS6⟩ := hS; go_simp)⟩) hHeld ?_
        change wpAnyH _ _ _ _ _ _ _ { tmps := #[_, _, _, _, _, _, _, _, _, _, _, _, _, _, _, _, _, _, _, _, _, _, _, _, _, _, _, _, _, _, _, _, _, _, _, _, _, _, _, _, _, _, _, _, _, _, _, _, _, .pointer (some ⟨w.heap.size + 1, 1, none⟩), .slice (some ⟨yb, yo, none⟩) l.set.length cy, .int .i64 (k : Int), .pointer (some ⟨yb, yo + k, none⟩), .bool true, .bool true, .agg #[.slice n es.length cn, .slice m bs.length cm], .pointer (some ⟨w.heap.size, 2, none⟩), .slice (some ⟨g, off, none⟩) p.routes.length cb, _, _, _, _, _, _, _, _, _, _, _, _, _, _, _, _, _, _, _, _, _, _, _, _, _, _, _, _, _, _, _, _, _, _, _, _, _, _, _, _, _, _, _, _, _, _, _, _, _, _, _, _, _, _, _, _, _, _, _, _, _, _, _, _, _, _, _, _, _, _, _, _, _, _, _, _, _, _, _, _, _, _, _, _], defers := [] } _
        refine wpAnyH_take (i := 9) (v := .int .i64 (k : Int)) rfl (by kernel_rfl) (by kernel_rfl) (by kernel_rfl) (fun _ _ _ h => h) (Or.inl ⟨by kernel_rfl, fun w hS => by (obtain ⟨hS0, hS1, hS2, hS3, hS4, hS5, hS6⟩ := hS; go_simp)⟩) hHeld ?_
        change wpAnyH _ _ _ _ _ _ _ { tmps := #[_, _, _, _, _, _, _, _, _, _, _, _, _, _, _, _, _, _, _, _, _, _, _, _, _, _, _, _, _, _, _, _, _, _, _, _, _, _, _, _, _, _, _, _, _, _, _, _, _, .pointer (some ⟨w.heap.size + 1, 1, none⟩), .slice (some ⟨yb, yo, none⟩) l.set.length cy, .int .i64 (k : Int), .pointer (some ⟨yb, yo + k, none⟩), .bool true, .bool true, .agg #[.slice n es.length cn, .slice m bs.length cm], .pointer (some ⟨w.heap.size, 2, none⟩), .slice (some ⟨g, off, none⟩) p.routes.length cb, .int .i64 (k : Int), _, _, _, _, _, _, _, _, _, _, _, _, _, _, _, _, _, _, _, _, _, _, _, _, _, _, _, _, _, _, _, _, _, _, _, _, _, _, _, _, _, _, _, _, _, _, _, _, _, _, _, _, _, _, _, _, _, _, _, _, _, _, _, _, _, _, _, _, _, _, _, _, _, _, _, _, _, _, _, _, _, _, _], defers := [] } _
        refine wpAnyH_take (i := 10) (v := .pointer (some ⟨g, off + k * 2, none⟩)) rfl (by kernel_rfl) (by kernel_rfl) (by kernel_rfl) (fun _ _ _ h => h) (Or.inl ⟨by kernel_rfl, fun w hS => by (obtain ⟨hS0, hS1, hS2, hS3, hS4, hS5, hS6⟩ := hS; go_simp)⟩) hHeld ?_
        change wpAnyH _ _ _ _ _ _ _ { tmps := #[_, _, _, _, _, _, _, _, _, _, _, _, _, _, _, _, _, _, _, _, _, _, _, _, _, _, _, _, _, _, _, _, _, _, _, _, _, _, _, _, _, _, _, _, _, _, _, _, _, .pointer (some ⟨w.heap.size + 1, 1, none⟩), .slice (some ⟨yb, yo, none⟩) l.set.length cy, .int .i64 (k : Int), .pointer (some ⟨yb, yo + k, none⟩), .bool true, .bool true, .agg #[.slice n es.length cn, .slice m bs.length cm], .pointer (some ⟨w.heap.size, 2, none⟩), .slice (some ⟨g, off, none⟩) p.routes.length cb, .int .i64 (k : Int), .pointer (some ⟨g, off + k * 2, none⟩), _, _, _, _, _, _, _, _, _, _, _, _, _, _, _, _, _, _, _, _, _, _, _, _, _, _, _, _, _, _, _, _, _, _, _, _, _, _, _, _, _, _, _, _, _, _, _, _, _, _, _, _, _, _, _, _, _, _, _, _, _, _, _, _, _, _, _, _, _, _, _, _, _, _, _, _, _, _, _, _, _, _], defers := [] } _
        refine wpAnyH_take (i := 11) (v := .agg #[.slice m1 fs.length cm1, .slice m2 cs.length cm2]) rfl (by kernel_rfl) (by kernel_rfl) (by kernel_rfl) (fun _ _ _ h => h) (Or.inl ⟨by kernel_rfl, fun w hS => by (obtain ⟨hS0, hS1, hS2, hS3, hS4, hS5, hS6⟩ := hS; go_simp)⟩) hHeld ?_
        change wpAnyH _ _ _ _ _ _ _ { tmps := #[_, _, _, _, _, _, _, _, _, _, _, _, _, _, _, _, _, _, _, _, _, _, _, _, _, _, _, _, _, _, _, _, _, _, _, _, _, _, _, _, _, _, _, _, _, _, _, _, _, .pointer (some ⟨w.heap.size + 1, 1, none⟩), .slice (some ⟨yb, yo, none⟩) l.set.length cy, .int .i64 (k : Int), .pointer (some ⟨yb, yo + k, none⟩), .bool true, .bool true, .agg #[.slice n es.length cn, .slice m bs.length cm], .pointer (some ⟨w.heap.size, 2, none⟩), .slice (some ⟨g, off, none⟩) p.routes.length cb, .int .i64 (k : Int), .pointer (some ⟨g, off + k * 2, none⟩), .agg #[.slice m1 fs.length cm1, .slice m2 cs.length cm2], _, _, _, _, _, _, _, _, _, _, _, _, _, _, _, _, _, _, _, _, _, _, _, _, _, _, _, _, _, _, _, _, _, _, _, _, _, _, _, _, _, _, _, _, _, _, _, _, _, _, _, _, _, _, _, _, _, _, _, _, _, _, _, _, _, _, _, _, _, _, _, _, _, _, _, _, _, _, _, _, _], defers := [] } _
        refine wpAnyH_ready (rs := [12]) (by kernel_rfl) (by simp) ?_
        refine AllReadyH.cons rfl (fun K hK => ?_) AllReadyH.nil
        go_simp
        go_wp2_with (first | (go_at_call 55; refine (CC _ (Below.refl _ _).drew).mono ?_; rintro e w6 ⟨rfl, hb6⟩; have HV6 := undrew hb6; have Rr := Qr.below HV6; have HW6 := blk_keep HV6 kq; clear hb6))
        clear hHeld
        refine hK.out _ _ (by obtain ⟨⟨t0, t1, t2⟩, -⟩ := blk3 Rr.k0; obtain ⟨⟨t3, t4, t5⟩, -⟩ := blk3 Rr.k1; obtain ⟨⟨t6, t7⟩, -⟩ := blk2 HW6; exact ⟨t4, ble HV6 vy, t6, t7, t2, ble HV6 d1, ble HV6 d2⟩) (fun hHeld => ?_)
        clear hK K
        change wpAnyH _ _ _ _ _ _ _ { tmps := #[_, _, _, _, _, _, _, _, _, _, _, _, _, _, _, _, _, _, _, _, _, _, _, _, _, _, _, _, _, _, _, _, _, _, _, _, _, _, _, _, _, _, _, _, _, _, _, _, _, .pointer (some ⟨w.heap.size + 1, 1, none⟩), .slice (some ⟨yb, yo, none⟩) l.set.length cy, .int .i64 (k : Int), .pointer (some ⟨yb, yo + k, none⟩), .bool true, .bool true, .agg #[.slice n es.length cn, .slice m bs.length cm], .pointer (some ⟨w.heap.size, 2, none⟩), .slice (some ⟨g, off, none⟩) p.routes.length cb, .int .i64 (k : Int), .pointer (some ⟨g, off + k * 2, none⟩), .agg #[.slice m1 fs.length cm1, .slice m2 cs.length cm2], .bool false, _, _, _, _, _, _, _, _, _, _, _, _, _, _, _, _, _, _, _, _, _, _, _, _, _, _, _, _, _, _, _, _, _, _, _, _, _, _, _, _, _, _, _, _, _, _, _, _, _, _, _, _, _, _, _, _, _, _, _, _, _, _, _, _, _, _, _, _, _, _, _, _, _, _, _, _, _, _, _, _], defers := [] } _
        refine wpAnyH_take (i := 13) (v := .bool false) rfl (by kernel_rfl) (by kernel_rfl) (by kernel_rfl) (fun _ _ _ h => h) (Or.inl ⟨by kernel_rfl, fun w hS => by (obtain ⟨hS0, hS1, hS2, hS3, hS4, hS5, hS6⟩ := hS; go_simp)⟩) hHeld ?_
        change wpAnyH _ _ _ _ _ _ _ { tmps := #[_, _, _, _, _, _, _, _, _, _, _, _, _, _, _, _, _, _, _, _, _, _, _, _, _, _, _, _, _, _, _, _, _, _, _, _, _, _, _, _, _, _, _, _, _, _, _, _, _, .pointer (some ⟨w.heap.size + 1, 1, none⟩), .slice (some ⟨yb, yo, none⟩) l.set.length cy, .int .i64 (k : Int), .pointer (some ⟨yb, yo + k, none⟩), .bool true, .bool true, .agg #[.slice n es.length cn, .slice m bs.length cm], .pointer (some ⟨w.heap.size, 2, none⟩), .slice (some ⟨g, off, none⟩) p.routes.length cb, .int .i64 (k : Int), .pointer (some ⟨g, off + k * 2, none⟩), .agg #[.slice m1 fs.length cm1, .slice m2 cs.length cm2], .bool false, .bool false, _, _, _, _, _, _, _, _, _, _, _, _, _, _, _, _, _, _, _, _, _, _, _, _, _, _, _, _, _, _, _, _, _, _, _, _, _, _, _, _, _, _, _, _, _, _, _, _, _, _, _, _, _, _, _, _, _, _, _, _, _, _, _, _, _, _, _, _, _, _, _, _, _, _, _, _, _, _, _], defers := [] } _
        refine wpAnyH_done (by kernel_rfl) ?_ _
        go_wp2
        exact ⟨⟨k + 1, by omega, by go_num, hf, Rr, HW6⟩, by simp [intOf]; omega⟩
      · have hvb : vb = true := by rw [← hd.out]; simp
        subst hvb
        have hC := hide (show opC .req p l (q : Int) = 3 from hC0.out)
        have hQ := hide (show opL .req p l (q : Int) = l from hQ0.out)
        clear hd
        go_wp2_with fail
        refine wp_region_held_drew (S := (fun w' => w'.cell? ⟨w.heap.size + 1, 1, none⟩ = some (.slice (some ⟨yb, yo, none⟩) l.set.length cy) ∧ w'.cell? ⟨yb, yo + k, none⟩ = some (.bool true) ∧ w'.cell? ⟨w2.heap.size, 0, none⟩ = some (.slice n es.length cn) ∧ w'.cell? ⟨w2.heap.size, 1, none⟩ = some (.slice m bs.length cm) ∧ w'.cell? ⟨w.heap.size, 2, none⟩ = some (.slice (some ⟨g, off, none⟩) p.routes.length cb) ∧ w'.cell? ⟨g, off + k * 2, none⟩ = some (.slice m1 fs.length cm1) ∧ w'.cell? ⟨g, off + k * 2 + 1, none⟩ = some (.slice m2 cs.length cm2))) (by kernel_rfl) ?_ (fun hHeld => ?_)
        · go_keep
        refine wpAnyH_take (i := 0) (v := .pointer (some ⟨w.heap.size + 1, 1, none⟩)) rfl (by kernel_rfl) (by kernel_rfl) (by kernel_rfl) (fun _ _ _ h => h) (Or.inl ⟨by kernel_rfl, fun w hS => by (obtain ⟨hS0, hS1, hS2, hS3, hS4, hS5, hS6⟩ := hS; go_simp)⟩) hHeld ?_
        change wpAnyH _ _ _ _ _ _ _ { tmps := #[_, _, _, _, _, _, _, _, _, _, _, _, _, _, _, _, _, _, _, _, _, _, _, _, _, _, _, _, _, _, _, _, _, _, _, _, _, _, _, _, _, _, _, _, _, _, _, _, _, .pointer (some ⟨w.heap.size + 1, 1, none⟩), _, _, _, _, _, _, _, _, _, _, _, _, _, _, _, _, _, _, _, _, _, _, _, _, _, _, _, _, _, _, _, _, _, _, _, _, _, _, _, _, _, _, _, _, _, _, _, _, _, _, _, _, _, _, _, _, _, _, _, _, _, _, _, _, _, _, _, _, _, _, _, _, _, _, _, _, _, _, _, _, _, _, _, _, _, _, _, _, _, _, _, _], defers := [] } _
        refine wpAnyH_take (i := 1) (v := .slice (some ⟨yb, yo, none⟩) l.set.length cy) rfl (by kernel_rfl) (by kernel_rfl) (by kernel_rfl) (fun _ _ _ h => h) (Or.inl ⟨by kernel_rfl, fun w hS => by (obtain ⟨hS0, hS1, hS2, hS3, hS4, hS5, hS6⟩ := hS; go_simp)⟩) hHeld ?_
        change wpAnyH _ _ _ _ _ _ _ { tmps := #[_, _, _, _, _, _, _, _, _, _, _, _, _, _, _, _, _, _, _, _, _, _, _, _, _, _, _, _, _, _, _, _, _, _, _, _, _, _, _, _, _, _, _, _, _, _, _, _, _, .pointer (some ⟨w.heap.size + 1, 1, none⟩), .slice (some ⟨yb, yo, none⟩) l.set.length cy, _, _, _, _, _, _, _, _, _, _, _, _, _, _, _, _, _, _, _, _, _, _, _, _, _, _, _, _, _, _, _, _, _, _, _, _, _, _, _, _, _, _, _, _, _, _, _, _, _, _, _, _, _, _, _, _, _, _, _, _, _, _, _, _, _, _, _, _, _, _, _, _, _, _, _, _, _, _, _, _, _, _, _, _, _, _, _, _, _, _, _], defers := [] } _
        refine wpAnyH_take (i := 2) (v := .int .i64 (k : Int)) rfl (by kernel_rfl) (by kernel_rfl) (by kernel_rfl) (fun _ _ _ h => h) (Or.inl ⟨by kernel_rfl, fun w hS => by (obtain ⟨hS0, hS1, hS2, hS3, hS4, hS5, hS6⟩ := hS; go_simp)⟩) hHeld ?_
        change wpAnyH _ _ _ _ _ _ _ { tmps := #[_, _, _, _, _, _, _, _, _, _, _, _, _, _, _, _, _, _, _, _, _, _, _, _, _, _, _, _, _, _, _, _, _, _, _, _, _, _, _, _, _, _, _, _, _, _, _, _, _, .pointer (some ⟨w.heap.size + 1, 1, none⟩), .slice (some ⟨yb, yo, none⟩) l.set.length cy, .int .i64 (k : Int), _, _, _, _, _, _, _, _, _, _, _, _, _, _, _, _, _, _, _, _, _, _, _, _, _, _, _, _, _, _, _, _, _, _, _, _, _, _, _, _, _, _, _, _, _, _, _, _, _, _, _, _, _, _, _, _, _, _, _, _, _, _, _, _, _, _, _, _, _, _, _, _, _, _, _, _, _, _, _, _, _, _, _, _, _, _, _, _, _, _], defers := [] } _
        refine wpAnyH_take (i := 3) (v := .pointer (some ⟨yb, yo + k, none⟩)) rfl (by kernel_rfl) (by kernel_rfl) (by kernel_rfl) (fun _ _ _ h => h) (Or.inl ⟨by kernel_rfl, fun w hS => by (obtain ⟨hS0, hS1, hS2, hS3, hS4, hS5, hS6⟩ := hS; go_simp)⟩) hHeld ?_
        change wpAnyH _ _ _ _ _ _ _ { tmps := #[_, _, _, _, _, _, _, _, _, _, _, _, _, _, _, _, _, _, _, _, _, _, _, _, _, _, _, _, _, _, _, _, _, _, _, _, _, _, _, _, _, _, _, _, _, _, _, _, _, .pointer (some ⟨w.heap.size + 1, 1, none⟩), .slice (some ⟨yb, yo, none⟩) l.set.length cy, .int .i64 (k : Int), .pointer (some ⟨yb, yo + k, none⟩), _, _, _, _, _, _, _, _, _, _, _, _, _, _, _, _, _, _, _, _, _, _, _, _, _, _, _, _, _, _, _, _, _, _, _, _, _, _, _, _, _, _, _, _, _, _, _, _, _, _, _, _, _, _, _, _, _, _, _, _, _, _, _, _, _, _, _, _, _, _, _, _, _, _, _, _, _, _, _, _, _, _, _, _, _, _, _, _, _], defers := [] } _
        refine wpAnyH_take (i := 4) (v := .bool true) rfl (by kernel_rfl) (by kernel_rfl) (by kernel_rfl) (fun _ _ _ h => h) (Or.inl ⟨by kernel_rfl, fun w hS => by (obtain ⟨hS0, hS1, hS2, hS3, hS4, hS5, hS6⟩ := hS; go_simp)⟩) hHeld ?_
        change wpAnyH _ _ _ _ _ _ _ { tmps := #[_, _, _, _, _, _, _, _, _, _, _, _, _, _, _, _, _, _, _, _, _, _, _, _, _, _, _, _, _, _, _, _, _, _, _, _, _, _, _, _, _, _, _, _, _, _, _, _, _, .pointer (some ⟨w.heap.size + 1, 1, none⟩), .slice (some ⟨yb, yo, none⟩) l.set.length cy, .int .i64 (k : Int), .pointer (some ⟨yb, yo + k, none⟩), .bool true, _, _, _, _, _, _, _, _, _, _, _, _, _, _, _, _, _, _, _, _, _, _, _, _, _, _, _, _, _, _, _, _, _, _, _, _, _, _, _, _, _, _, _, _, _, _, _, _, _, _, _, _, _, _, _, _, _, _, _, _, _, _, _, _, _, _, _, _, _, _, _, _, _, _, _, _, _, _, _, _, _, _, _, _, _, _, _, _], defers := [] } _
        refine wpAnyH_take (i := 5) (v := .bool true) rfl (by kernel_rfl) (by kernel_rfl) (by kernel_rfl) (fun _ _ _ h => h) (Or.inl ⟨by kernel_rfl, fun w hS => by (obtain ⟨hS0, hS1, hS2, hS3, hS4, hS5, hS6⟩ := hS; go_simp)⟩) hHeld ?_
        change wpAnyH _ _ _ _ _ _ _ { tmps := #[_, _, _, _, _, _, _, _, _, _, _, _, _, _, _, _, _, _, _, _, _, _, _, _, _, _, _, _, _, _, _, _, _, _, _, _, _, _, _, _, _, _, _, _, _, _, _, _, _, .pointer (some ⟨w.heap.size + 1, 1, none⟩), .slice (some ⟨yb, yo, none⟩) l.set.length cy, .int .i64 (k : Int), .pointer (some ⟨yb, yo + k, none⟩), .bool true, .bool true, _, _, _, _, _, _, _, _, _, _, _, _, _, _, _, _, _, _, _, _, _, _, _, _, _, _, _, _, _, _, _, _, _, _, _, _, _, _, _, _, _, _, _, _, _, _, _, _, _, _, _, _, _, _, _, _, _, _, _, _, _, _, _, _, _, _, _, _, _, _, _, _, _, _, _, _, _, _, _, _, _, _, _, _, _, _, _], defers := [] } _
        refine wpAnyH_take (i := 6) (v := .agg #[.slice n es.length cn, .slice m bs.length cm]) rfl (by kernel_rfl) (by kernel_rfl) (by kernel_rfl) (fun _ _ _ h => h) (Or.inl ⟨by kernel_rfl, fun w hS => by (obtain ⟨hS0, hS1, hS2, hS3, hS4, hS5, hS6⟩ := hS; go_simp)⟩) hHeld ?_
        change wpAnyH _ _ _ _ _ _ _ { tmps := #[_, _, _, _, _, _, _, _, _, _, _, _, _, _, _, _, _, _, _, _, _, _, _, _, _, _, _, _, _, _, _, _, _, _, _, _, _, _, _, _, _, _, _, _, _, _, _, _, _, .pointer (some ⟨w.heap.size + 1, 1, none⟩), .slice (some ⟨yb, yo, none⟩) l.set.length cy, .int .i64 (k : Int), .pointer (some ⟨yb, yo + k, none⟩), .bool true, .bool true, .agg #[.slice n es.length cn, .slice m bs.length cm], _, _, _, _, _, _, _, _, _, _, _, _, _, _, _, _, _, _, _, _, _, _, _, _, _, _, _, _, _, _, _, _, _, _, _, _, _, _, _, _, _, _, _, _, _, _, _, _, _, _, _, _, _, _, _, _, _, _, _, _, _, _, _, _, _, _, _, _, _, _, _, _, _, _, _, _, _, _, _, _, _, _, _, _, _, _], defers := [] } _
        refine wpAnyH_take (i := 7) (v := .pointer (some ⟨w.heap.size, 2, none⟩)) rfl (by kernel_rfl) (by kernel_rfl) (by kernel_rfl) (fun _ _ _ h => h) (Or.inl ⟨by kernel_rfl, fun w hS => by (obtain ⟨hS0, hS1, hS2, hS3, hS4, hS5, hS6⟩ := hS; go_simp)⟩) hHeld ?_
        change wpAnyH _ _ _ _ _ _ _ { tmps := #[_, _, _, _, _, _, _, _, _, _, _, _, _, _, _, _, _, _, _, _, _, _, _, _, _, _, _, _, _, _, _, _, _, _, _, _, _, _, _, _, _, _, _, _, _, _, _, _, _, .pointer (some ⟨w.heap.size + 1, 1, none⟩), .slice (some ⟨yb, yo, none⟩) l.set.length cy, .int .i64 (k : Int), .pointer (some ⟨yb, yo + k, none⟩), .bool true, .bool true, .agg #[.slice n es.length cn, .slice m bs.length cm], .pointer (some ⟨w.heap.size, 2, none⟩), _, _, _, _, _, _, _, _, _, _, _, _, _, _, _, _, _, _, _, _, _, _, _, _, _, _, _, _, _, _, _, _, _, _, _, _, _, _, _, _, _, _, _, _, _, _, _, _, _, _, _, _, _, _, _, _, _, _, _, _, _, _, _, _, _, _, _, _, _, _, _, _, _, _, _, _, _, _, _, _, _, _, _, _, _], defers := [] } _
        refine wpAnyH_take (i := 8) (v := .slice (some ⟨g, off, none⟩) p.routes.length cb) rfl (by kernel_rfl) (by kernel_rfl) (by kernel_rfl) (fun _ _ _ h => h) (Or.inl ⟨by kernel_rfl, fun w hS => by (obtain ⟨hS0, hS1, hS2, hS3, hS4, hS5, hS6⟩ := hS; go_simp)⟩) hHeld ?_
        change wpAnyH _ _ _ _ _ _ _ { tmps := #[_, _, _, _, _, _, _, _, _, _, _, _, _, _, _, _, _, _, _, _, _, _, _, _, _, _, _, _, _, _, _, _, _, _, _, _, _, _, _, _, _, _, _, _, _, _, _, _, _, .pointer (some ⟨w.heap.size + 1, 1, none⟩), .slice (some ⟨yb, yo, none⟩) l.set.length cy, .int .i64 (k : Int), .pointer (some ⟨yb, yo + k, none⟩), .bool true, .bool true, .agg #[.slice n es.length cn, .slice m bs.length cm], .pointer (some ⟨w.heap.size, 2, none⟩), .slice (some ⟨g, off, none⟩) p.routes.length cb, _, _, _, _, _, _, _, _, _, _, _, _, _, _, _, _, _, _, _, _, _, _, _, _, _, _, _, _, _, _, _, _, _, _, _, _, _, _, _, _, _, _, _, _, _, _, _, _, _, _, _, _, _, _, _, _, _, _, _, _, _, _, _, _, _, _, _, _, _, _, _, _, _, _, _, _, _, _, _, _, _, _, _, _], defers := [] } _
        refine wpAnyH_take (i := 9) (v := .int .i64 (k : Int)) rfl (by kernel_rfl) (by kernel_rfl) (by kernel_rfl) (fun _ _ _ h => h) (Or.inl ⟨by kernel_rfl, fun w hS => by (obtain ⟨hS0, hS1, hS2, hS3, hS4, hS5, hS6⟩ := hS; go_simp)⟩) hHeld ?_
        change wpAnyH _ _ _ _ _ _ _ { tmps := #[_, _, _, _, _, _, _, _, _, _, _, _, _, _, _, _, _, _, _, _, _, _, _, _, _, _, _, _, _, _, _, _, _, _, _, _, _, _, _, _, _, _, _, _, _, _, _, _, _, .pointer (some ⟨w.heap.size + 1, 1, none⟩), .slice (some ⟨yb, yo, none⟩) l.set.length cy, .int .i64 (k : Int), .pointer (some ⟨yb, yo + k, none⟩), .bool true, .bool true, .agg #[.slice n es.length cn, .slice m bs.length cm], .pointer (some ⟨w.heap.size, 2, none⟩), .slice (some ⟨g, off, none⟩) p.routes.length cb, .int .i64 (k : Int), _, _, _, _, _, _, _, _, _, _, _, _, _, _, _, _, _, _, _, _, _, _, _, _, _, _, _, _, _, _, _, _, _, _, _, _, _, _, _, _, _, _, _, _, _, _, _, _, _, _, _, _, _, _, _, _, _, _, _, _, _, _, _, _, _, _, _, _, _, _, _, _, _, _, _, _, _, _, _, _, _, _, _], defers := [] } _
        refine wpAnyH_take (i := 10) (v := .pointer (some ⟨g, off + k * 2, none⟩)) rfl (by kernel_rfl) (by kernel_rfl) (by kernel_rfl) (fun _ _ _ h => h) (Or.inl ⟨by kernel_rfl, fun w hS => by (obtain ⟨hS0, hS1, hS2, hS3, hS4, hS5, hS6⟩ := hS; go_simp)⟩) hHeld ?_
        change wpAnyH _ _ _ _ _ _ _ { tmps := #[_, _, _, _, _, _, _, _, _, _, _, _, _, _, _, _, _, _, _, _, _, _, _, _, _, _, _, _, _, _, _, _, _, _, _, _, _, _, _, _, _, _, _, _, _, _, _, _, _, .pointer (some ⟨w.heap.size + 1, 1, none⟩), .slice (some ⟨yb, yo, none⟩) l.set.length cy, .int .i64 (k : Int), .pointer (some ⟨yb, yo + k, none⟩), .bool true, .bool true, .agg #[.slice n es.length cn, .slice m bs.length cm], .pointer (some ⟨w.heap.size, 2, none⟩), .slice (some ⟨g, off, none⟩) p.routes.length cb, .int .i64 (k : Int), .pointer (some ⟨g, off + k * 2, none⟩), _, _, _, _, _, _, _, _, _, _, _, _, _, _, _, _, _, _, _, _, _, _, _, _, _, _, _, _, _, _, _, _, _, _, _, _, _, _, _, _, _, _, _, _, _, _, _, _, _, _, _, _, _, _, _, _, _, _, _, _, _, _, _, _, _, _, _, _, _, _, _, _, _, _, _, _, _, _, _, _, _, _], defers := [] } _
        refine wpAnyH_take (i := 11) (v := .agg #[.slice m1 fs.length cm1, .slice m2 cs.length cm2]) rfl (by kernel_rfl) (by kernel_rfl) (by kernel_rfl) (fun _ _ _ h => h) (Or.inl ⟨by kernel_rfl, fun w hS => by (obtain ⟨hS0, hS1, hS2, hS3, hS4, hS5, hS6⟩ := hS; go_simp)⟩) hHeld ?_
        change wpAnyH _ _ _ _ _ _ _ { tmps := #[_, _, _, _, _, _, _, _, _, _, _, _, _, _, _, _, _, _, _, _, _, _, _, _, _, _, _, _, _, _, _, _, _, _, _, _, _, _, _, _, _, _, _, _, _, _, _, _, _, .pointer (some ⟨w.heap.size + 1, 1, none⟩), .slice (some ⟨yb, yo, none⟩) l.set.length cy, .int .i64 (k : Int), .pointer (some ⟨yb, yo + k, none⟩), .bool true, .bool true, .agg #[.slice n es.length cn, .slice m bs.length cm], .pointer (some ⟨w.heap.size, 2, none⟩), .slice (some ⟨g, off, none⟩) p.routes.length cb, .int .i64 (k : Int), .pointer (some ⟨g, off + k * 2, none⟩), .agg #[.slice m1 fs.length cm1, .slice m2 cs.length cm2], _, _, _, _, _, _, _, _, _, _, _, _, _, _, _, _, _, _, _, _, _, _, _, _, _, _, _, _, _, _, _, _, _, _, _, _, _, _, _, _, _, _, _, _, _, _, _, _, _, _, _, _, _, _, _, _, _, _, _, _, _, _, _, _, _, _, _, _, _, _, _, _, _, _, _, _, _, _, _, _, _], defers := [] } _
        refine wpAnyH_ready (rs := [12]) (by kernel_rfl) (by simp) ?_
        refine AllReadyH.cons rfl (fun K hK => ?_) AllReadyH.nil
        go_simp
        go_wp2_with (first | (go_at_call 55; refine (CC _ (Below.refl _ _).drew).mono ?_; rintro e w6 ⟨rfl, hb6⟩; have HV6 := undrew hb6; have Rr := Qr.below HV6; have HW6 := blk_keep HV6 kq; clear hb6))
        clear hHeld
        refine hK.out _ _ (by obtain ⟨⟨t0, t1, t2⟩, -⟩ := blk3 Rr.k0; obtain ⟨⟨t3, t4, t5⟩, -⟩ := blk3 Rr.k1; obtain ⟨⟨t6, t7⟩, -⟩ := blk2 HW6; exact ⟨t4, ble HV6 vy, t6, t7, t2, ble HV6 d1, ble HV6 d2⟩) (fun hHeld => ?_)
        clear hK K
        change wpAnyH _ _ _ _ _ _ _ { tmps := #[_, _, _, _, _, _, _, _, _, _, _, _, _, _, _, _, _, _, _, _, _, _, _, _, _, _, _, _, _, _, _, _, _, _, _, _, _, _, _, _, _, _, _, _, _, _, _, _, _, .pointer (some ⟨w.heap.size + 1, 1, none⟩), .slice (some ⟨yb, yo, none⟩) l.set.length cy, .int .i64 (k : Int), .pointer (some ⟨yb, yo + k, none⟩), .bool true, .bool true, .agg #[.slice n es.length cn, .slice m bs.length cm], .pointer (some ⟨w.heap.size, 2, none⟩), .slice (some ⟨g, off, none⟩) p.routes.length cb, .int .i64 (k : Int), .pointer (some ⟨g, off + k * 2, none⟩), .agg #[.slice m1 fs.length cm1, .slice m2 cs.length cm2], .bool true, _, _, _, _, _, _, _, _, _, _, _, _, _, _, _, _, _, _, _, _, _, _, _, _, _, _, _, _, _, _, _, _, _, _, _, _, _, _, _, _, _, _, _, _, _, _, _, _, _, _, _, _, _, _, _, _, _, _, _, _, _, _, _, _, _, _, _, _, _, _, _, _, _, _, _, _, _, _, _, _], defers := [] } _
        refine wpAnyH_take (i := 13) (v := .bool true) rfl (by kernel_rfl) (by kernel_rfl) (by kernel_rfl) (fun _ _ _ h => h) (Or.inl ⟨by kernel_rfl, fun w hS => by (obtain ⟨hS0, hS1, hS2, hS3, hS4, hS5, hS6⟩ := hS; go_simp)⟩) hHeld ?_
        change wpAnyH _ _ _ _ _ _ _ { tmps := #[_, _, _, _, _, _, _, _, _, _, _, _, _, _, _, _, _, _, _, _, _, _, _, _, _, _, _, _, _, _, _, _, _, _, _, _, _, _, _, _, _, _, _, _, _, _, _, _, _, .pointer (some ⟨w.heap.size + 1, 1, none⟩), .slice (some ⟨yb, yo, none⟩) l.set.length cy, .int .i64 (k : Int), .pointer (some ⟨yb, yo + k, none⟩), .bool true, .bool true, .agg #[.slice n es.length cn, .slice m bs.length cm], .pointer (some ⟨w.heap.size, 2, none⟩), .slice (some ⟨g, off, none⟩) p.routes.length cb, .int .i64 (k : Int), .pointer (some ⟨g, off + k * 2, none⟩), .agg #[.slice m1 fs.length cm1, .slice m2 cs.length cm2], .bool true, .bool true, _, _, _, _, _, _, _, _, _, _, _, _, _, _, _, _, _, _, _, _, _, _, _, _, _, _, _, _, _, _, _, _, _, _, _, _, _, _, _, _, _, _, _, _, _, _, _, _, _, _, _, _, _, _, _, _, _, _, _, _, _, _, _, _, _, _, _, _, _, _, _, _, _, _, _, _, _, _, _], defers := [] } _
        refine wpAnyH_done (by kernel_rfl) ?_ _
        clear hHeld q0 q1 q2 q3 q4 q5 q6 q7
        obtain ⟨⟨r0, r1, r2⟩, j0, j1, j2⟩ := blk3 Rr.k2
        obtain ⟨⟨e0, e1, e2⟩, -⟩ := blk3 Rr.k8
        have fO := fin_own (n1 := l.pos.length) (n2 := l.set.length) (n3 := l.taken.length) Rr.own (Nat.le_of_lt (lt_of_block Rr.k8))
        have fB := fin_below (x1 := x1) (y1 := y1) (z1 := z1) (cx1 := cx1) (cy1 := cy1) (cz1 := cz1) (n1 := l.pos.length) (n2 := l.set.length) (n3 := l.taken.length) Rr.hb
        go_wp2_with fail
        refine bodyPost_ret (v := .tuple #[.agg #[.slice x1 l.pos.length cx1, .slice y1 l.set.length cy1, .slice z1 l.taken.length cz1], .int .i64 3]) (by simp [results, Try.results32, go_sem, r0, r1, r2]) rfl ⟨x1, cx1, y1, cy1, z1, cz1, by rw [hC.out, hQ.out], by rw [hQ.out]; exact fO, fB⟩

    obtain rfl : k = p.routes.length := by omega
    have hvb : vb = false := by rw [← hres.out, List.drop_of_length_le (by simp)]; rfl
    subst hvb
    clear hres
    go_wp2
    clear q0 q1 q2 q3 q4 q5 q6 q7
    go_loopw [11] (fun i wr => ∃ k : Nat, k ≤ bs.length ∧ i = .int .i64 k ∧ Hid ((bs.drop k).any (fun b => l.taken.getD b.toNat false) = vh) ∧ Pre a (some ⟨g, off, none⟩) x (some ⟨yb, yo, none⟩) z x1 y1 z1 ca cb cx cy cz cx1 cy1 cz1 w1.heap.size p l w wr ∧ wr.heap[w2.heap.size]? = some (.cells #[.slice n es.length cn, .slice m bs.length cm] 48 (0, 0))) (fun i _ => bs.length - (intOf i).toNat)
    case atStart => exact ⟨0, Nat.zero_le _, rfl, hhl, Qr, kq⟩
    case round =>
      obtain ⟨k, hk, rfl, hres, Rr, kr⟩ := hrel
      clear Qr kq hhl
      obtain ⟨⟨q0, q1, q2⟩, -⟩ := blk3 Rr.k0
      obtain ⟨⟨q3, q4, q5⟩, -⟩ := blk3 Rr.k1
      obtain ⟨⟨q6, q7⟩, -⟩ := blk2 kr
      by_cases hlt : k < bs.length
      · rcases i3 with hh | ⟨nb, no, rfl, hc⟩
        · simp [hh] at hlt
        have p0 := ble Rr.hb (hc k hlt)
        have e0 : bs.getD k 0 = bs[k] := by simp [List.getD, hlt]
        rw [e0] at p0
        have hd := hide ((any_drop (P := fun b : Int => l.taken.getD b.toNat false) hlt).symm.trans hres.out)
        have hbk := hbl k hlt
        generalize bs[k] = E at *
        obtain ⟨j, rfl⟩ := Int.eq_ofNat_of_zero_le hbk.1
        have hj : j < l.taken.length := by omega
        have hj' : (j : Int) < l.taken.length := by omega
        obtain ⟨zb, zo, rfl, vz⟩ := (hL.taken.below Rr.hb).bit hj
        rw [show ((j : Int)).toNat = j from rfl] at hd
        generalize l.taken.getD j false = tv at *
        clear hc e0 hres
        cases tv
        · have hf := hide (show (bs.drop (k + 1)).any (fun b => l.taken.getD b.toNat false) = vh by rw [← hd.out]; simp)
          clear hd
          go_wp2
          go_quiet (fail)
          go_wp2
          go_roundw
          case rel => exact ⟨k + 1, by omega, by go_num, hf, Rr.drawn _, kr⟩
          case measure => simp [intOf]; omega
        · have hvh : vh = true := by rw [← hd.out]; simp
          subst hvh
          have hC := hide (show opC .req p l (q : Int) = 4 from hC0.out)
          have hQ := hide (show opL .req p l (q : Int) = l from hQ0.out)
          clear hd
          go_wp2
          go_quiet (fail)
          clear q0 q1 q2 q3 q4 q5
          obtain ⟨⟨r0, r1, r2⟩, j0, j1, j2⟩ := blk3 Rr.k2
          obtain ⟨⟨e0, e1, e2⟩, -⟩ := blk3 Rr.k8
          have fO := fun n => fin_own (n1 := l.pos.length) (n2 := l.set.length) (n3 := l.taken.length) (Rr.drawn n).own (Nat.le_of_lt (lt_of_block (Rr.drawn n).k8))
          have fB := fun n => fin_below (x1 := x1) (y1 := y1) (z1 := z1) (cx1 := cx1) (cy1 := cy1) (cz1 := cz1) (n1 := l.pos.length) (n2 := l.set.length) (n3 := l.taken.length) (Rr.drawn n).hb
          go_wp2_with fail
          refine bodyPost_ret (v := .tuple #[.agg #[.slice x1 l.pos.length cx1, .slice y1 l.set.length cy1, .slice z1 l.taken.length cz1], .int .i64 4]) (by simp [results, Try.results32, go_sem, r0, r1, r2]) rfl ⟨x1, cx1, y1, cy1, z1, cz1, by rw [hC.out, hQ.out], by rw [hQ.out]; exact fO _, fB _⟩

      obtain rfl : k = bs.length := by omega
      have hvh : vh = false := by rw [← hres.out, List.drop_length]; rfl
      subst hvh
      clear hres
      go_wp2
      clear q0 q1 q2 q3 q4 q5 q6 q7
      go_loopw [12] (fun i wr => ∃ k : Nat, k ≤ es.length ∧ i = .int .i64 k ∧ Hid ((es.drop k).any (fun n => !decide (l.pos.getD n.point.toNat 0 = n.pos) && l.taken.getD (p.under.getD n.point.toNat 0).toNat false) = vs) ∧ Pre a (some ⟨g, off, none⟩) x (some ⟨yb, yo, none⟩) z x1 y1 z1 ca cb cx cy cz cx1 cy1 cz1 w1.heap.size p l w wr ∧ wr.heap[w2.heap.size]? = some (.cells #[.slice n es.length cn, .slice m bs.length cm] 48 (0, 0))) (fun i _ => es.length - (intOf i).toNat)
      case atStart => exact ⟨0, Nat.zero_le _, rfl, hst, Rr, kr⟩
      case round =>
        obtain ⟨k, hk, rfl, hres, Sr, ks⟩ := hrel
        clear Rr kr hst
        obtain ⟨⟨q6, q7⟩, -⟩ := blk2 ks
        by_cases hlt : k < es.length
        · rcases n3 with hh | ⟨nb, no, rfl, hc⟩
          · simp [hh] at hlt
          obtain ⟨p0, p1⟩ := hc k hlt
          replace p0 := ble Sr.hb p0
          replace p1 := ble Sr.hb p1
          have e0 : es.getD k NeedV.zero = es[k] := by simp [List.getD, hlt]
          rw [e0] at p0 p1
          have hd := hide ((any_drop (P := fun n : NeedV => !decide (l.pos.getD n.point.toNat 0 = n.pos) && l.taken.getD (p.under.getD n.point.toNat 0).toNat false) hlt).symm.trans hres.out)
          have hbk := hnd k hlt
          generalize es[k] = E at *
          obtain ⟨pt, ps⟩ := E
          dsimp only at *
          obtain ⟨j, rfl⟩ := Int.eq_ofNat_of_zero_le hbk.1
          have hj : j < l.pos.length := by omega
          have hj' : (j : Int) < l.pos.length := by omega
          have hju : j < p.under.length := by rw [← hpl.out]; exact hj
          have hju' : (j : Int) < p.under.length := by omega
          have hu1 := hun j hju
          have hba := balloc wr (.cells #[.int .i64 j, .int .i64 ps] 74)
          rcases hL.pos with hh | ⟨xb, xo, rfl, hxc⟩
          · simp [hh] at hj
          rcases hP.under with hh | ⟨ub, uo, rfl, huc⟩
          · simp [hh] at hju
          have v0 := ble hba (ble Sr.hb (hxc j hj))
          have u0 := ble hba (ble Sr.hb (huc j hju))
          replace Sr := Sr.below hba
          replace ks := blk_keep hba ks
          rw [show ((j : Int)).toNat = j from rfl] at hd
          generalize l.pos.getD j 0 = v at *
          generalize p.under.getD j 0 = u at *
          obtain ⟨i, rfl⟩ := Int.eq_ofNat_of_zero_le hu1.1
          have hi : i < l.taken.length := by omega
          have hi' : (i : Int) < l.taken.length := by omega
          obtain ⟨zb, zo, rfl, vz⟩ := (hL.taken.below Sr.hb).bit hi
          rw [show ((i : Int)).toNat = i from rfl] at hd
          generalize l.taken.getD i false = tv at *
          obtain ⟨⟨q0, q1, q2⟩, -⟩ := blk3 Sr.k0
          obtain ⟨⟨q3, q4, q5⟩, -⟩ := blk3 Sr.k1
          clear hc e0 hba hres hxc huc
          by_cases hvp : v = ps
          · subst hvp
            have hf := hide (show (es.drop (k + 1)).any (fun n => !decide (l.pos.getD n.point.toNat 0 = n.pos) && l.taken.getD (p.under.getD n.point.toNat 0).toNat false) = vs by rw [← hd.out]; simp)
            clear hd
            go_wp2
            go_quiet (fail)
            go_wp2
            go_roundw
            case rel => exact ⟨k + 1, by omega, by go_num, hf, Sr.drawn _, ks⟩
            case measure => simp [intOf]; omega
          · have hv1 : (v == ps) = false := by simp [hvp]
            have hv2 : (v != ps) = true := by simp [hvp]
            cases tv
            · have hf := hide (show (es.drop (k + 1)).any (fun n => !decide (l.pos.getD n.point.toNat 0 = n.pos) && l.taken.getD (p.under.getD n.point.toNat 0).toNat false) = vs by rw [← hd.out]; simp)
              clear hd
              go_wp2
              go_quiet (fail)
              go_wp2
              go_roundw
              case rel => exact ⟨k + 1, by omega, by go_num, hf, Sr.drawn _, ks⟩
              case measure => simp [intOf]; omega
            · have hvs : vs = true := by rw [← hd.out]; simp [hvp]
              subst hvs
              have hC := hide (show opC .req p l (q : Int) = 5 from hC0.out)
              have hQ := hide (show opL .req p l (q : Int) = l from hQ0.out)
              clear hd
              go_wp2
              go_quiet (fail)
              clear q0 q1 q2 q3 q4 q5
              obtain ⟨⟨r0, r1, r2⟩, j0, j1, j2⟩ := blk3 Sr.k2
              obtain ⟨⟨e0, e1, e2⟩, -⟩ := blk3 Sr.k8
              have fO := fun n => fin_own (n1 := l.pos.length) (n2 := l.set.length) (n3 := l.taken.length) (Sr.drawn n).own (Nat.le_of_lt (lt_of_block (Sr.drawn n).k8))
              have fB := fun n => fin_below (x1 := x1) (y1 := y1) (z1 := z1) (cx1 := cx1) (cy1 := cy1) (cz1 := cz1) (n1 := l.pos.length) (n2 := l.set.length) (n3 := l.taken.length) (Sr.drawn n).hb
              go_wp2_with fail
              refine bodyPost_ret (v := .tuple #[.agg #[.slice x1 l.pos.length cx1, .slice y1 l.set.length cy1, .slice z1 l.taken.length cz1], .int .i64 5]) (by simp [results, Try.results32, go_sem, r0, r1, r2]) rfl ⟨x1, cx1, y1, cy1, z1, cz1, by rw [hC.out, hQ.out], by rw [hQ.out]; exact fO _, fB _⟩

        obtain rfl : k = es.length := by omega
        have hvs : vs = false := by rw [← hres.out, List.drop_length]; rfl
        subst hvs
        have hC := hide (show opC .req p l (q : Int) = 0 from hC0.out)
        have hQ := hide (show opL .req p l (q : Int) = ⟨throwAll l.pos es, l.set.set q true, l.taken⟩ by rw [← hsr.out]; exact hQ0.out)
        clear hres hC0 hQ0
        go_wp2
        clear q6 q7
        have hO0 : LockOwn wr (w.heap.size + 1 + 1 + 1) w1.heap.size x1 cx1 y1 cy1 z1 cz1 ⟨throwAll l.pos (es.take 0), l.set, l.taken⟩ := Sr.own
        have hlt8 := Sr.lt
        have hs2 := Sr.k2
        have hs8 := Sr.k8
        have hsb := Sr.hb
        clear Sr
        go_loopw [14] (fun i wr => ∃ k : Nat, k ≤ es.length ∧ i = .int .i64 k ∧ LockOwn wr (w.heap.size + 1 + 1 + 1) w1.heap.size x1 cx1 y1 cy1 z1 cz1 ⟨throwAll l.pos (es.take k), l.set, l.taken⟩ ∧ Below w.heap.size w wr ∧ wr.heap[w.heap.size + 1 + 1]? = some (.cells #[.slice none 0 0, .slice none 0 0, .slice none 0 0] 33 (0, 0)) ∧ wr.heap[w1.heap.size]? = some (.cells #[.slice x1 l.pos.length cx1, .slice y1 l.set.length cy1, .slice z1 l.taken.length cz1] 33 (0, 0)) ∧ wr.heap[w2.heap.size]? = some (.cells #[.slice n es.length cn, .slice m bs.length cm] 48 (0, 0))) (fun i _ => es.length - (intOf i).toNat)
        case atStart => exact ⟨0, Nat.zero_le _, rfl, hO0, hsb, hs2, hs8, ks⟩
        case round =>
          obtain ⟨k, hk, rfl, hOk, hbk, k2, k8, kk⟩ := hrel
          clear hO0 hsb hs2 hs8 ks
          obtain ⟨⟨q6, q7⟩, -⟩ := blk2 kk
          obtain ⟨⟨i0, i1, i2⟩, -⟩ := blk3 k8
          by_cases hlt : k < es.length
          · rcases n3 with hh | ⟨nb, no, rfl, hc⟩
            · simp [hh] at hlt
            obtain ⟨p0, p1⟩ := hc k hlt
            have e0 : es.getD k NeedV.zero = es[k] := by simp [List.getD, hlt]
            rw [e0] at p0 p1
            have hth := hide (throwAll_step l.pos hlt)
            have hbk2 := hnd k hlt
            generalize es[k] = E at *
            obtain ⟨pt, ps⟩ := E
            dsimp only at *
            obtain ⟨j, rfl⟩ := Int.eq_ofNat_of_zero_le hbk2.1
            rw [show ((j : Int)).toNat = j from rfl] at hth
            have hj : j < l.pos.length := by omega
            have hj' : (j : Int) < l.pos.length := by omega
            have hlt' : (k : Int) < es.length := by omega
            have hjt : j < (throwAll l.pos (es.take k)).length := by rw [throwAll_len]; exact hj
            obtain ⟨gp, rfl, h1, h2, ⟨u, hu⟩, hf, hO2⟩ := (hOk.below (Below.refl wr.heap.size wr).drew).putPos hjt ps
            rw [← hth.out] at hO2
            have v0 := ble hbk p0
            have v1 := ble hbk p1
            have B2 := below_set (o := j) (v := .int .i64 ps) (b := gp) (by omega) (btrans hbk (Below.refl wr.heap.size wr).drew)
            have n2 := blk_other (b := gp) (i := j) (v := .int .i64 ps) (blk_keep (Below.refl wr.heap.size wr).drew k2) (by omega)
            have n8 := blk_other (b := gp) (i := j) (v := .int .i64 ps) (blk_keep (Below.refl wr.heap.size wr).drew k8) (by omega)
            have nk := blk_other (b := gp) (i := j) (v := .int .i64 ps) (blk_keep (Below.refl wr.heap.size wr).drew kk) (by omega)
            clear hc e0 hth
            go_wp2_with fail
            refine wp_region_held_drew (S := (fun w' => w'.cell? ⟨w1.heap.size, 0, none⟩ = some (.slice (some ⟨gp, 0, none⟩) l.pos.length cx1) ∧ w'.cell? ⟨w2.heap.size, 0, none⟩ = some (.slice (some ⟨nb, no, none⟩) es.length cn) ∧ w'.cell? ⟨nb, no + k * 2, none⟩ = some (.int .i64 (j : Int)) ∧ w'.cell? ⟨nb, no + k * 2 + 1, none⟩ = some (.int .i64 ps))) (by kernel_rfl) ?_ (fun hHeld => ?_)
            · go_keep
            refine wpAnyH_take (i := 0) (v := .pointer (some ⟨w1.heap.size, 0, none⟩)) rfl (by kernel_rfl) (by kernel_rfl) (by kernel_rfl) (fun _ _ _ h => h) (Or.inl ⟨by kernel_rfl, fun w hS => by (obtain ⟨hS0, hS1, hS2, hS3⟩ := hS; go_simp)⟩) hHeld ?_
            change wpAnyH _ _ _ _ _ _ _ { tmps := #[_, _, _, _, _, _, _, _, _, _, _, _, _, _, _, _, _, _, _, _, _, _, _, _, _, _, _, _, _, _, _, _, _, _, _, _, _, _, _, _, _, _, _, _, _, _, _, _, _, _, _, _, _, _, _, _, _, _, _, _, _, _, _, _, _, _, _, _, _, _, _, _, _, _, _, _, _, _, _, _, _, _, _, _, _, _, _, _, _, _, _, _, _, _, _, _, _, _, _, _, _, _, _, _, _, _, _, _, _, _, _, _, _, _, _, _, _, _, _, _, _, _, .pointer (some ⟨w1.heap.size, 0, none⟩), _, _, _, _, _, _, _, _, _, _, _, _, _, _, _, _, _, _, _], defers := [] } _
            refine wpAnyH_take (i := 1) (v := .slice (some ⟨gp, 0, none⟩) l.pos.length cx1) rfl (by kernel_rfl) (by kernel_rfl) (by kernel_rfl) (fun _ _ _ h => h) (Or.inl ⟨by kernel_rfl, fun w hS => by (obtain ⟨hS0, hS1, hS2, hS3⟩ := hS; go_simp)⟩) hHeld ?_
            change wpAnyH _ _ _ _ _ _ _ { tmps := #[_, _, _, _, _, _, _, _, _, _, _, _, _, _, _, _, _, _, _, _, _, _, _, _, _, _, _, _, _, _, _, _, _, _, _, _, _, _, _, _, _, _, _, _, _, _, _, _, _, _, _, _, _, _, _, _, _, _, _, _, _, _, _, _, _, _, _, _, _, _, _, _, _, _, _, _, _, _, _, _, _, _, _, _, _, _, _, _, _, _, _, _, _, _, _, _, _, _, _, _, _, _, _, _, _, _, _, _, _, _, _, _, _, _, _, _, _, _, _, _, _, _, .pointer (some ⟨w1.heap.size, 0, none⟩), .slice (some ⟨gp, 0, none⟩) l.pos.length cx1, _, _, _, _, _, _, _, _, _, _, _, _, _, _, _, _, _, _], defers := [] } _
            refine wpAnyH_take (i := 2) (v := .pointer (some ⟨w2.heap.size, 0, none⟩)) rfl (by kernel_rfl) (by kernel_rfl) (by kernel_rfl) (fun _ _ _ h => h) (Or.inl ⟨by kernel_rfl, fun w hS => by (obtain ⟨hS0, hS1, hS2, hS3⟩ := hS; go_simp)⟩) hHeld ?_
            change wpAnyH _ _ _ _ _ _ _ { tmps := #[_, _, _, _, _, _, _, _, _, _, _, _, _, _, _, _, _, _, _, _, _, _, _, _, _, _, _, _, _, _, _, _, _, _, _, _, _, _, _, _, _, _, _, _, _, _, _, _, _, _, _, _, _, _, _, _, _, _, _, _, _, _, _, _, _, _, _, _, _, _, _, _, _, _, _, _, _, _, _, _, _, _, _, _, _, _, _, _, _, _, _, _, _, _, _, _, _, _, _, _, _, _, _, _, _, _, _, _, _, _, _, _, _, _, _, _, _, _, _, _, _, _, .pointer (some ⟨w1.heap.size, 0, none⟩), .slice (some ⟨gp, 0, none⟩) l.pos.length cx1, .pointer (some ⟨w2.heap.size, 0, none⟩), _, _, _, _, _, _, _, _, _, _, _, _, _, _, _, _, _], defers := [] } _
            refine wpAnyH_take (i := 3) (v := .slice (some ⟨nb, no, none⟩) es.length cn) rfl (by kernel_rfl) (by kernel_rfl) (by kernel_rfl) (fun _ _ _ h => h) (Or.inl ⟨by kernel_rfl, fun w hS => by (obtain ⟨hS0, hS1, hS2, hS3⟩ := hS; go_simp)⟩) hHeld ?_
            change wpAnyH _ _ _ _ _ _ _ { tmps := #[_, _, _, _, _, _, _, _, _, _, _, _, _, _, _, _, _, _, _, _, _, _, _, _, _, _, _, _, _, _, _, _, _, _, _, _, _, _, _, _, _, _, _, _, _, _, _, _, _, _, _, _, _, _, _, _, _, _, _, _, _, _, _, _, _, _, _, _, _, _, _, _, _, _, _, _, _, _, _, _, _, _, _, _, _, _, _, _, _, _, _, _, _, _, _, _, _, _, _, _, _, _, _, _, _, _, _, _, _, _, _, _, _, _, _, _, _, _, _, _, _, _, .pointer (some ⟨w1.heap.size, 0, none⟩), .slice (some ⟨gp, 0, none⟩) l.pos.length cx1, .pointer (some ⟨w2.heap.size, 0, none⟩), .slice (some ⟨nb, no, none⟩) es.length cn, _, _, _, _, _, _, _, _, _, _, _, _, _, _, _, _], defers := [] } _
            refine wpAnyH_take (i := 4) (v := .int .i64 (k : Int)) rfl (by kernel_rfl) (by kernel_rfl) (by kernel_rfl) (fun _ _ _ h => h) (Or.inl ⟨by kernel_rfl, fun w hS => by (obtain ⟨hS0, hS1, hS2, hS3⟩ := hS; go_simp)⟩) hHeld ?_
            change wpAnyH _ _ _ _ _ _ _ { tmps := #[_, _, _, _, _, _, _, _, _, _, _, _, _, _, _, _, _, _, _, _, _, _, _, _, _, _, _, _, _, _, _, _, _, _, _, _, _, _, _, _, _, _, _, _, _, _, _, _, _, _, _, _, _, _, _, _, _, _, _, _, _, _, _, _, _, _, _, _, _, _, _, _, _, _, _, _, _, _, _, _, _, _, _, _, _, _, _, _, _, _, _, _, _, _, _, _, _, _, _, _, _, _, _, _, _, _, _, _, _, _, _, _, _, _, _, _, _, _, _, _, _, _, .pointer (some ⟨w1.heap.size, 0, none⟩), .slice (some ⟨gp, 0, none⟩) l.pos.length cx1, .pointer (some ⟨w2.heap.size, 0, none⟩), .slice (some ⟨nb, no, none⟩) es.length cn, .int .i64 (k : Int), _, _, _, _, _, _, _, _, _, _, _, _, _, _, _], defers := [] } _
            refine wpAnyH_take (i := 5) (v := .pointer (some ⟨nb, no + k * 2, none⟩)) rfl (by kernel_rfl) (by kernel_rfl) (by kernel_rfl) (fun _ _ _ h => h) (Or.inl ⟨by kernel_rfl, fun w hS => by (obtain ⟨hS0, hS1, hS2, hS3⟩ := hS; go_simp)⟩) hHeld ?_
            change wpAnyH _ _ _ _ _ _ _ { tmps := #[_, _, _, _, _, _, _, _, _, _, _, _, _, _, _, _, _, _, _, _, _, _, _, _, _, _, _, _, _, _, _, _, _, _, _, _, _, _, _, _, _, _, _, _, _, _, _, _, _, _, _, _, _, _, _, _, _, _, _, _, _, _, _, _, _, _, _, _, _, _, _, _, _, _, _, _, _, _, _, _, _, _, _, _, _, _, _, _, _, _, _, _, _, _, _, _, _, _, _, _, _, _, _, _, _, _, _, _, _, _, _, _, _, _, _, _, _, _, _, _, _, _, .pointer (some ⟨w1.heap.size, 0, none⟩), .slice (some ⟨gp, 0, none⟩) l.pos.length cx1, .pointer (some ⟨w2.heap.size, 0, none⟩), .slice (some ⟨nb, no, none⟩) es.length cn, .int .i64 (k : Int), .pointer (some ⟨nb, no + k * 2, none⟩), _, _, _, _, _, _, _, _, _, _, _, _, _, _], defers := [] } _
            refine wpAnyH_take (i := 6) (v := .pointer (some ⟨nb, no + k * 2, none⟩)) rfl (by kernel_rfl) (by kernel_rfl) (by kernel_rfl) (fun _ _ _ h => h) (Or.inl ⟨by kernel_rfl, fun w hS => by (obtain ⟨hS0, hS1, hS2, hS3⟩ := hS; go_simp)⟩) hHeld ?_
            change wpAnyH _ _ _ _ _ _ _ { tmps := #[_, _, _, _, _, _, _, _, _, _, _, _, _, _, _, _, _, _, _, _, _, _, _, _, _, _, _, _, _, _, _, _, _, _, _, _, _, _, _, _, _, _, _, _, _, _, _, _, _, _, _, _, _, _, _, _, _, _, _, _, _, _, _, _, _, _, _, _, _, _, _, _, _, _, _, _, _, _, _, _, _, _, _, _, _, _, _, _, _, _, _, _, _, _, _, _, _, _, _, _, _, _, _, _, _, _, _, _, _, _, _, _, _, _, _, _, _, _, _, _, _, _, .pointer (some ⟨w1.heap.size, 0, none⟩), .slice (some ⟨gp, 0, none⟩) l.pos.length cx1, .pointer (some ⟨w2.heap.size, 0, none⟩), .slice (some ⟨nb, no, none⟩) es.length cn, .int .i64 (k : Int), .pointer (some ⟨nb, no + k * 2, none⟩), .pointer (some ⟨nb, no + k * 2, none⟩), _, _, _, _, _, _, _, _, _, _, _, _, _], defers := [] } _
            refine wpAnyH_take (i := 7) (v := .int .i64 (j : Int)) rfl (by kernel_rfl) (by kernel_rfl) (by kernel_rfl) (fun _ _ _ h => h) (Or.inl ⟨by kernel_rfl, fun w hS => by (obtain ⟨hS0, hS1, hS2, hS3⟩ := hS; go_simp)⟩) hHeld ?_
            change wpAnyH _ _ _ _ _ _ _ { tmps := #[_, _, _, _, _, _, _, _, _, _, _, _, _, _, _, _, _, _, _, _, _, _, _, _, _, _, _, _, _, _, _, _, _, _, _, _, _, _, _, _, _, _, _, _, _, _, _, _, _, _, _, _, _, _, _, _, _, _, _, _, _, _, _, _, _, _, _, _, _, _, _, _, _, _, _, _, _, _, _, _, _, _, _, _, _, _, _, _, _, _, _, _, _, _, _, _, _, _, _, _, _, _, _, _, _, _, _, _, _, _, _, _, _, _, _, _, _, _, _, _, _, _, .pointer (some ⟨w1.heap.size, 0, none⟩), .slice (some ⟨gp, 0, none⟩) l.pos.length cx1, .pointer (some ⟨w2.heap.size, 0, none⟩), .slice (some ⟨nb, no, none⟩) es.length cn, .int .i64 (k : Int), .pointer (some ⟨nb, no + k * 2, none⟩), .pointer (some ⟨nb, no + k * 2, none⟩), .int .i64 (j : Int), _, _, _, _, _, _, _, _, _, _, _, _], defers := [] } _
            refine wpAnyH_take (i := 8) (v := .pointer (some ⟨w2.heap.size, 0, none⟩)) rfl (by kernel_rfl) (by kernel_rfl) (by kernel_rfl) (fun _ _ _ h => h) (Or.inl ⟨by kernel_rfl, fun w hS => by (obtain ⟨hS0, hS1, hS2, hS3⟩ := hS; go_simp)⟩) hHeld ?_
            change wpAnyH _ _ _ _ _ _ _ { tmps := #[_, _, _, _, _, _, _, _, _, _, _, _, _, _, _, _, _, _, _, _, _, _, _, _, _, _, _, _, _, _, _, _, _, _, _, _, _, _, _, _, _, _, _, _, _, _, _, _, _, _, _, _, _, _, _, _, _, _, _, _, _, _, _, _, _, _, _, _, _, _, _, _, _, _, _, _, _, _, _, _, _, _, _, _, _, _, _, _, _, _, _, _, _, _, _, _, _, _, _, _, _, _, _, _, _, _, _, _, _, _, _, _, _, _, _, _, _, _, _, _, _, _, .pointer (some ⟨w1.heap.size, 0, none⟩), .slice (some ⟨gp, 0, none⟩) l.pos.length cx1, .pointer (some ⟨w2.heap.size, 0, none⟩), .slice (some ⟨nb, no, none⟩) es.length cn, .int .i64 (k : Int), .pointer (some ⟨nb, no + k * 2, none⟩), .pointer (some ⟨nb, no + k * 2, none⟩), .int .i64 (j : Int), .pointer (some ⟨w2.heap.size, 0, none⟩), _, _, _, _, _, _, _, _, _, _, _], defers := [] } _
            refine wpAnyH_take (i := 9) (v := .slice (some ⟨nb, no, none⟩) es.length cn) rfl (by kernel_rfl) (by kernel_rfl) (by kernel_rfl) (fun _ _ _ h => h) (Or.inl ⟨by kernel_rfl, fun w hS => by (obtain ⟨hS0, hS1, hS2, hS3⟩ := hS; go_simp)⟩) hHeld ?_
            change wpAnyH _ _ _ _ _ _ _ { tmps := #[_, _, _, _, _, _, _, _, _, _, _, _, _, _, _, _, _, _, _, _, _, _, _, _, _, _, _, _, _, _, _, _, _, _, _, _, _, _, _, _, _, _, _, _, _, _, _, _, _, _, _, _, _, _, _, _, _, _, _, _, _, _, _, _, _, _, _, _, _, _, _, _, _, _, _, _, _, _, _, _, _, _, _, _, _, _, _, _, _, _, _, _, _, _, _, _, _, _, _, _, _, _, _, _, _, _, _, _, _, _, _, _, _, _, _, _, _, _, _, _, _, _, .pointer (some ⟨w1.heap.size, 0, none⟩), .slice (some ⟨gp, 0, none⟩) l.pos.length cx1, .pointer (some ⟨w2.heap.size, 0, none⟩), .slice (some ⟨nb, no, none⟩) es.length cn, .int .i64 (k : Int), .pointer (some ⟨nb, no + k * 2, none⟩), .pointer (some ⟨nb, no + k * 2, none⟩), .int .i64 (j : Int), .pointer (some ⟨w2.heap.size, 0, none⟩), .slice (some ⟨nb, no, none⟩) es.length cn, _, _, _, _, _, _, _, _, _, _], defers := [] } _
            refine wpAnyH_take (i := 10) (v := .int .i64 (k : Int)) rfl (by kernel_rfl) (by kernel_rfl) (by kernel_rfl) (fun _ _ _ h => h) (Or.inl ⟨by kernel_rfl, fun w hS => by (obtain ⟨hS0, hS1, hS2, hS3⟩ := hS; go_simp)⟩) hHeld ?_
            change wpAnyH _ _ _ _ _ _ _ { tmps := #[_, _, _, _, _, _, _, _, _, _, _, _, _, _, _, _, _, _, _, _, _, _, _, _, _, _, _, _, _, _, _, _, _, _, _, _, _, _, _, _, _, _, _, _, _, _, _, _, _, _, _, _, _, _, _, _, _, _, _, _, _, _, _, _, _, _, _, _, _, _, _, _, _, _, _, _, _, _, _, _, _, _, _, _, _, _, _, _, _, _, _, _, _, _, _, _, _, _, _, _, _, _, _, _, _, _, _, _, _, _, _, _, _, _, _, _, _, _, _, _, _, _, .pointer (some ⟨w1.heap.size, 0, none⟩), .slice (some ⟨gp, 0, none⟩) l.pos.length cx1, .pointer (some ⟨w2.heap.size, 0, none⟩), .slice (some ⟨nb, no, none⟩) es.length cn, .int .i64 (k : Int), .pointer (some ⟨nb, no + k * 2, none⟩), .pointer (some ⟨nb, no + k * 2, none⟩), .int .i64 (j : Int), .pointer (some ⟨w2.heap.size, 0, none⟩), .slice (some ⟨nb, no, none⟩) es.length cn, .int .i64 (k : Int), _, _, _, _, _, _, _, _, _], defers := [] } _
            refine wpAnyH_take (i := 11) (v := .pointer (some ⟨nb, no + k * 2, none⟩)) rfl (by kernel_rfl) (by kernel_rfl) (by kernel_rfl) (fun _ _ _ h => h) (Or.inl ⟨by kernel_rfl, fun w hS => by (obtain ⟨hS0, hS1, hS2, hS3⟩ := hS; go_simp)⟩) hHeld ?_
            change wpAnyH _ _ _ _ _ _ _ { tmps := #[_, _, _, _, _, _, _, _, _, _, _, _, _, _, _, _, _, _, _, _, _, _, _, _, _, _, _, _, _, _, _, _, _, _, _, _, _, _, _, _, _, _, _, _, _, _, _, _, _, _, _, _, _, _, _, _, _, _, _, _, _, _, _, _, _, _, _, _, _, _, _, _, _, _, _, _, _, _, _, _, _, _, _, _, _, _, _, _, _, _, _, _, _, _, _, _, _, _, _, _, _, _, _, _, _, _, _, _, _, _, _, _, _, _, _, _, _, _, _, _, _, _, .pointer (some ⟨w1.heap.size, 0, none⟩), .slice (some ⟨gp, 0, none⟩) l.pos.length cx1, .pointer (some ⟨w2.heap.size, 0, none⟩), .slice (some ⟨nb, no, none⟩) es.length cn, .int .i64 (k : Int), .pointer (some ⟨nb, no + k * 2, none⟩), .pointer (some ⟨nb, no + k * 2, none⟩), .int .i64 (j : Int), .pointer (some ⟨w2.heap.size, 0, none⟩), .slice (some ⟨nb, no, none⟩) es.length cn, .int .i64 (k : Int), .pointer (some ⟨nb, no + k * 2, none⟩), _, _, _, _, _, _, _, _], defers := [] } _
            refine wpAnyH_take (i := 12) (v := .pointer (some ⟨nb, no + k * 2 + 1, none⟩)) rfl (by kernel_rfl) (by kernel_rfl) (by kernel_rfl) (fun _ _ _ h => h) (Or.inl ⟨by kernel_rfl, fun w hS => by (obtain ⟨hS0, hS1, hS2, hS3⟩ := hS; go_simp)⟩) hHeld ?_
            change wpAnyH _ _ _ _ _ _ _ { tmps := #[_, _, _, _, _, _, _, _, _, _, _, _, _, _, _, _, _, _, _, _, _, _, _, _, _, _, _, _, _, _, _, _, _, _, _, _, _, _, _, _, _, _, _, _, _, _, _, _, _, _, _, _, _, _, _, _, _, _, _, _, _, _, _, _, _, _, _, _, _, _, _, _, _, _, _, _, _, _, _, _, _, _, _, _, _, _, _, _, _, _, _, _, _, _, _, _, _, _, _, _, _, _, _, _, _, _, _, _, _, _, _, _, _, _, _, _, _, _, _, _, _, _, .pointer (some ⟨w1.heap.size, 0, none⟩), .slice (some ⟨gp, 0, none⟩) l.pos.length cx1, .pointer (some ⟨w2.heap.size, 0, none⟩), .slice (some ⟨nb, no, none⟩) es.length cn, .int .i64 (k : Int), .pointer (some ⟨nb, no + k * 2, none⟩), .pointer (some ⟨nb, no + k * 2, none⟩), .int .i64 (j : Int), .pointer (some ⟨w2.heap.size, 0, none⟩), .slice (some ⟨nb, no, none⟩) es.length cn, .int .i64 (k : Int), .pointer (some ⟨nb, no + k * 2, none⟩), .pointer (some ⟨nb, no + k * 2 + 1, none⟩), _, _, _, _, _, _, _], defers := [] } _
            refine wpAnyH_take (i := 13) (v := .int .i64 ps) rfl (by kernel_rfl) (by kernel_rfl) (by kernel_rfl) (fun _ _ _ h => h) (Or.inl ⟨by kernel_rfl, fun w hS => by (obtain ⟨hS0, hS1, hS2, hS3⟩ := hS; go_simp)⟩) hHeld ?_
            change wpAnyH _ _ _ _ _ _ _ { tmps := #[_, _, _, _, _, _, _, _, _, _, _, _, _, _, _, _, _, _, _, _, _, _, _, _, _, _, _, _, _, _, _, _, _, _, _, _, _, _, _, _, _, _, _, _, _, _, _, _, _, _, _, _, _, _, _, _, _, _, _, _, _, _, _, _, _, _, _, _, _, _, _, _, _, _, _, _, _, _, _, _, _, _, _, _, _, _, _, _, _, _, _, _, _, _, _, _, _, _, _, _, _, _, _, _, _, _, _, _, _, _, _, _, _, _, _, _, _, _, _, _, _, _, .pointer (some ⟨w1.heap.size, 0, none⟩), .slice (some ⟨gp, 0, none⟩) l.pos.length cx1, .pointer (some ⟨w2.heap.size, 0, none⟩), .slice (some ⟨nb, no, none⟩) es.length cn, .int .i64 (k : Int), .pointer (some ⟨nb, no + k * 2, none⟩), .pointer (some ⟨nb, no + k * 2, none⟩), .int .i64 (j : Int), .pointer (some ⟨w2.heap.size, 0, none⟩), .slice (some ⟨nb, no, none⟩) es.length cn, .int .i64 (k : Int), .pointer (some ⟨nb, no + k * 2, none⟩), .pointer (some ⟨nb, no + k * 2 + 1, none⟩), .int .i64 ps, _, _, _, _, _, _], defers := [] } _
            refine wpAnyH_take (i := 14) (v := .pointer (some ⟨gp, j, none⟩)) rfl (by kernel_rfl) (by kernel_rfl) (by kernel_rfl) (fun _ _ _ h => h) (Or.inl ⟨by kernel_rfl, fun w hS => by (obtain ⟨hS0, hS1, hS2, hS3⟩ := hS; go_simp)⟩) hHeld ?_
            change wpAnyH _ _ _ _ _ _ _ { tmps := #[_, _, _, _, _, _, _, _, _, _, _, _, _, _, _, _, _, _, _, _, _, _, _, _, _, _, _, _, _, _, _, _, _, _, _, _, _, _, _, _, _, _, _, _, _, _, _, _, _, _, _, _, _, _, _, _, _, _, _, _, _, _, _, _, _, _, _, _, _, _, _, _, _, _, _, _, _, _, _, _, _, _, _, _, _, _, _, _, _, _, _, _, _, _, _, _, _, _, _, _, _, _, _, _, _, _, _, _, _, _, _, _, _, _, _, _, _, _, _, _, _, _, .pointer (some ⟨w1.heap.size, 0, none⟩), .slice (some ⟨gp, 0, none⟩) l.pos.length cx1, .pointer (some ⟨w2.heap.size, 0, none⟩), .slice (some ⟨nb, no, none⟩) es.length cn, .int .i64 (k : Int), .pointer (some ⟨nb, no + k * 2, none⟩), .pointer (some ⟨nb, no + k * 2, none⟩), .int .i64 (j : Int), .pointer (some ⟨w2.heap.size, 0, none⟩), .slice (some ⟨nb, no, none⟩) es.length cn, .int .i64 (k : Int), .pointer (some ⟨nb, no + k * 2, none⟩), .pointer (some ⟨nb, no + k * 2 + 1, none⟩), .int .i64 ps, .pointer (some ⟨gp, j, none⟩), _, _, _, _, _], defers := [] } _
            refine wpAnyH_ready (rs := [15]) (by kernel_rfl) (by simp) ?_
            refine AllReadyH.cons rfl (fun K hK => ?_) AllReadyH.nil
            go_simp
            clear hHeld
            refine hK.out _ _ (by obtain ⟨⟨t0, t1, t2⟩, -⟩ := blk3 n8; obtain ⟨⟨t3, t4⟩, -⟩ := blk2 nk; exact ⟨t0, t3, ble B2 p0, ble B2 p1⟩) (fun hHeld => ?_)
            clear hK K
            change wpAnyH _ _ _ _ _ _ _ { tmps := #[_, _, _, _, _, _, _, _, _, _, _, _, _, _, _, _, _, _, _, _, _, _, _, _, _, _, _, _, _, _, _, _, _, _, _, _, _, _, _, _, _, _, _, _, _, _, _, _, _, _, _, _, _, _, _, _, _, _, _, _, _, _, _, _, _, _, _, _, _, _, _, _, _, _, _, _, _, _, _, _, _, _, _, _, _, _, _, _, _, _, _, _, _, _, _, _, _, _, _, _, _, _, _, _, _, _, _, _, _, _, _, _, _, _, _, _, _, _, _, _, _, _, .pointer (some ⟨w1.heap.size, 0, none⟩), .slice (some ⟨gp, 0, none⟩) l.pos.length cx1, .pointer (some ⟨w2.heap.size, 0, none⟩), .slice (some ⟨nb, no, none⟩) es.length cn, .int .i64 (k : Int), .pointer (some ⟨nb, no + k * 2, none⟩), .pointer (some ⟨nb, no + k * 2, none⟩), .int .i64 (j : Int), .pointer (some ⟨w2.heap.size, 0, none⟩), .slice (some ⟨nb, no, none⟩) es.length cn, .int .i64 (k : Int), .pointer (some ⟨nb, no + k * 2, none⟩), .pointer (some ⟨nb, no + k * 2 + 1, none⟩), .int .i64 ps, .pointer (some ⟨gp, j, none⟩), _, _, _, _, _], defers := [] } _
            refine wpAnyH_done (by kernel_rfl) ?_ _
            go_wp2
            exact ⟨⟨k + 1, by omega, by go_num, hO2, B2, n2, n8, nk⟩, by simp [intOf]; omega⟩
          · obtain rfl : k = es.length := by omega
            rw [List.take_length] at hOk
            obtain ⟨gs, rfl, h1, h2, ⟨u, hu⟩, hf, hO2⟩ := hOk.putSet hqs true
            have k2' := blk_other (b := gs) (i := q) (v := .bool true) k2 (by omega)
            have k8' := blk_other (b := gs) (i := q) (v := .bool true) k8 (by omega)
            have hb' := below_set (o := q) (v := .bool true) (b := gs) (by omega) hbk
            obtain ⟨⟨r0, r1, r2⟩, j0, j1, j2⟩ := blk3 k2'
            obtain ⟨⟨e0, e1, e2⟩, -⟩ := blk3 k8'
            have fO := fin_own (n1 := l.pos.length) (n2 := l.set.length) (n3 := l.taken.length) hO2 (Nat.le_of_lt (lt_of_block k8'))
            have fB := fin_below (x1 := x1) (y1 := some ⟨gs, 0, none⟩) (z1 := z1) (cx1 := cx1) (cy1 := cy1) (cz1 := cz1) (n1 := l.pos.length) (n2 := l.set.length) (n3 := l.taken.length) hb'
            go_wp2_with fail
            refine bodyPost_ret (v := .tuple #[.agg #[.slice x1 l.pos.length cx1, .slice (some ⟨gs, 0, none⟩) l.set.length cy1, .slice z1 l.taken.length cz1], .int .i64 0]) (by simp [results, Try.results32, go_sem, r0, r1, r2]) rfl ⟨x1, cx1, some ⟨gs, 0, none⟩, cy1, z1, cz1, by rw [hC.out, hQ.out]; simp [throwAll_len], by rw [hQ.out]; exact fO, fB⟩
end Go.Proofs.Ytpgjllefhlanpaa
