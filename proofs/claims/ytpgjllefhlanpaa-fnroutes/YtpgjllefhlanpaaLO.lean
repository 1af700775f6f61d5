/- The program's op: a route is set. -/
import Derived.Test.YtpgjllefhlanpaaLN
namespace Go.Proofs.Ytpgjllefhlanpaa
open Go.RowKit

def setC (p : PlantV) (l : LockV) (r : Nat) : Int := bif l.set.getD r false then 2 else bif barred p l r then 3 else bif held p l r then 4 else bif stuck p l r then 5 else 0
theorem setC_eq {p : PlantV} {l : LockV} {r : Nat} {s b h t : Bool} (h1 : l.set.getD r false = s) (h2 : barred p l r = b) (h3 : held p l r = h) (h4 : stuck p l r = t) : setC p l r = (bif s then 2 else bif b then 3 else bif h then 4 else bif t then 5 else 0) := by
  unfold setC; rw [h1, h2, h3, h4]

set_option maxRecDepth 20000 in
set_option maxHeartbeats 3200000 in
theorem cSet (a b x y z : Option Addr) (ca cb cx cy cz lo hi : Nat) (p : PlantV) (l : LockV) (r : Nat) (w0 w : World) (hP : PlantIn w0 a b p) (HB : Below w0.heap.size w0 w) (hlo : w0.heap.size ≤ lo) (hhi : hi ≤ w.heap.size) (hL : LockOwn w lo hi x cx y cy z cz l) (hS : Small p) (hT : LSmall l) (hF : Fits p l) (hr : r < p.routes.length) :
    Calls Try.prog 60 #[stVal a ca b cb p x cx y cy z cz l, .int .i64 r] w fun e w' =>
      e = endOf (setC p l r) ∧ Far lo hi w w' ∧ LockOwn w' lo hi x cx y cy z cz (bif decide (setC p l r = 0) then setRoute p l r else l) := by
  have hsetR : setRoute p l r = ⟨throwAll l.pos (p.route r).needs, l.set.set r true, l.taken⟩ := rfl
  rw [hsetR]
  clear hsetR
  have t1 := hT.pos
  have t2 := hT.set
  have t3 := hT.taken
  have hb0 := balloc w (.cells #[.slice a p.under.length ca, .int .i64 p.blocks, .slice b p.routes.length cb, .slice x l.pos.length cx, .slice y l.set.length cy, .slice z l.taken.length cz] 61)
  have k0 : (w.alloc (.cells #[.slice a p.under.length ca, .int .i64 p.blocks, .slice b p.routes.length cb, .slice x l.pos.length cx, .slice y l.set.length cy, .slice z l.taken.length cz] 61)).heap[w.heap.size]? = some (.cells #[.slice a p.under.length ca, .int .i64 p.blocks, .slice b p.routes.length cb, .slice x l.pos.length cx, .slice y l.set.length cy, .slice z l.taken.length cz] 61 (0, 0)) := new1
  have hL0 := hL.below hb0
  have hrs : r < l.set.length := by rw [hF.set]; exact hr
  have r12 := hF.ok.r12
  have CB := fun w1 hP hy => cBarredI a b x y z ca cb cx cy cz p l r w1 hP hy hS hF hr
  have CH := fun w1 hP hz => cHeldI a b x y z ca cb cx cy cz p l r w1 hP hz hS hF hr
  have CT := fun w1 hP hx hz => cStuckI a b x y z ca cb cx cy cz p l r w1 hP hx hz hS hF hr
  have hnd : ∀ (k : Nat) (hk : k < (p.route r).needs.length), 0 ≤ (p.route r).needs[k].point ∧ (p.route r).needs[k].point < l.pos.length := fun k hk => by
    have := hF.ok.need hr (List.getElem_mem hk); rw [hF.pos]; exact ⟨this.1, this.2.1⟩
  have hsm := hS.at hr
  obtain ⟨gr, ro, n, cn, m, cm, rfl, c1, -, -, c3, -⟩ := hP.at hr
  obtain ⟨g', off, rfl, hc⟩ := hL0.read.set.bit hrs
  have F0 := (Far.refl lo hi w).below hb0
  replace HB := btrans HB hb0
  have hr' : (r : Int) < l.set.length := by omega
  have hr2 : (r : Int) < p.routes.length := by omega
  obtain ⟨g0, g1, g2, g3, g4, g5⟩ := blk6 k0
  have hC := hide (setC_eq (p := p) (l := l) (r := r) rfl rfl rfl rfl)
  generalize setC p l r = C at *
  generalize l.set.getD r false = v at *
  generalize barred p l r = vb at *
  generalize held p l r = vh at *
  generalize stuck p l r = vs at *
  unfold stVal at *
  have hbw := hb0.size
  clear hb0 hL
  cases v
  rotate_left
  · have hC' := hide (show C = 2 from hC.out)
    clear CB CH CT
    go_enter Try.func60, Try.ntmps60
    go_wp2_with fail
    refine (cRefYes 2 _).mono ?_
    rintro e w1 ⟨rfl, hw⟩
    subst w1
    go_wp2
    rw [hC'.out]
    exact ⟨rfl, (endOf_refu (by decide)).symm, F0, hL0⟩
  go_enter Try.func60, Try.ntmps60
  go_wp2_with fail
  refine (cRefNo 2 _).mono ?_
  rintro e w1 ⟨rfl, hw⟩
  subst w1
  go_wp2_with fail
  refine (CB _ (hP.below HB) (hL0.read.set)).mono ?_
  rintro e w1 ⟨rfl, hb1⟩
  replace hL0 := hL0.below hb1
  replace F0 := F0.below hb1
  replace k0 := blk_keep hb1 k0
  replace HB := btrans HB hb1
  have s1 := hb1.size
  clear g0 g1 g2 g3 g4 g5 hb1 hc CB
  cases vb
  rotate_left
  · have hC' := hide (show C = 3 from hC.out)
    clear CH CT
    go_wp2_with fail
    refine (cRefYes 3 _).mono ?_
    rintro e w2 ⟨rfl, hw⟩
    subst w2
    go_wp2
    rw [hC'.out]
    exact ⟨rfl, (endOf_refu (by decide)).symm, F0, hL0⟩
  obtain ⟨g0, g1, g2, g3, g4, g5⟩ := blk6 k0
  go_wp2_with fail
  refine (cRefNo 3 _).mono ?_
  rintro e w2 ⟨rfl, hw⟩
  subst w2
  go_wp2_with fail
  refine (CH _ (hP.below HB) (hL0.read.taken)).mono ?_
  rintro e w2 ⟨rfl, hb1⟩
  replace hL0 := hL0.below hb1
  replace F0 := F0.below hb1
  replace k0 := blk_keep hb1 k0
  replace HB := btrans HB hb1
  have s2 := hb1.size
  clear g0 g1 g2 g3 g4 g5 hb1 CH
  cases vh
  rotate_left
  · have hC' := hide (show C = 4 from hC.out)
    clear CT
    go_wp2_with fail
    refine (cRefYes 4 _).mono ?_
    rintro e w3 ⟨rfl, hw⟩
    subst w3
    go_wp2
    rw [hC'.out]
    exact ⟨rfl, (endOf_refu (by decide)).symm, F0, hL0⟩
  obtain ⟨g0, g1, g2, g3, g4, g5⟩ := blk6 k0
  go_wp2_with fail
  refine (cRefNo 4 _).mono ?_
  rintro e w3 ⟨rfl, hw⟩
  subst w3
  go_wp2_with fail
  refine (CT _ (hP.below HB) (hL0.read.pos) (hL0.read.taken)).mono ?_
  rintro e w3 ⟨rfl, hb1⟩
  replace hL0 := hL0.below hb1
  replace F0 := F0.below hb1
  replace k0 := blk_keep hb1 k0
  replace HB := btrans HB hb1
  have s3 := hb1.size
  clear g0 g1 g2 g3 g4 g5 hb1 CT
  cases vs
  rotate_left
  · have hC' := hide (show C = 5 from hC.out)
    go_wp2_with fail
    refine (cRefYes 5 _).mono ?_
    rintro e w4 ⟨rfl, hw⟩
    subst w4
    go_wp2
    rw [hC'.out]
    exact ⟨rfl, (endOf_refu (by decide)).symm, F0, hL0⟩
  have hC' := hide (show C = 0 from hC.out)
  obtain ⟨g0, g1, g2, g3, g4, g5⟩ := blk6 k0
  have d1 := ble HB c1
  go_wp2_with fail
  refine (cRefNo 5 _).mono ?_
  rintro e w4 ⟨rfl, hw⟩
  subst w4
  go_wp2
  clear g0 g1 g2 g3 g4 g5 d1 c1 hC
  generalize hes : (p.route r).needs = es at *
  replace hes := hide hes
  have hgw : w.heap.size < w3.heap.size := by rw [sz1] at hbw s1; omega
  have hL1 : LockOwn w3 lo hi x cx (some ⟨g', off, none⟩) cy z cz ⟨throwAll l.pos (es.take 0), l.set, l.taken⟩ := hL0
  clear hL0
  go_loopw [33] (fun i wr => ∃ k : Nat, k ≤ es.length ∧ i = .int .i64 k ∧ LockOwn wr lo hi x cx (some ⟨g', off, none⟩) cy z cz ⟨throwAll l.pos (es.take k), l.set, l.taken⟩ ∧ Far lo hi w wr ∧ Below w0.heap.size w0 wr ∧ wr.heap[w.heap.size]? = some (.cells #[.slice a p.under.length ca, .int .i64 p.blocks, .slice (some ⟨gr, ro, none⟩) p.routes.length cb, .slice x l.pos.length cx, .slice (some ⟨g', off, none⟩) l.set.length cy, .slice z l.taken.length cz] 61 (0, 0))) (fun i _ => es.length - (intOf i).toNat)
  case atStart => exact ⟨0, Nat.zero_le _, rfl, hL1, F0, HB, k0⟩
  case round =>
    obtain ⟨k, hk, rfl, hLk, Fk, HBk, kk⟩ := hrel
    clear hL1 F0 HB k0
    by_cases hlt : k < es.length
    · rcases c3 with h | ⟨nb, no, rfl, hcc⟩
      · simp [h] at hlt
      obtain ⟨q0, q1⟩ := hcc k hlt
      replace q0 := ble HBk q0
      replace q1 := ble HBk q1
      have e0 : es.getD k NeedV.zero = es[k] := by simp [List.getD, hlt]
      rw [e0] at q0 q1
      have hth := hide (throwAll_step l.pos hlt)
      have hbk := hnd k hlt
      generalize es[k] = E at *
      obtain ⟨pt, ps⟩ := E
      dsimp only at *
      obtain ⟨j, rfl⟩ := Int.eq_ofNat_of_zero_le hbk.1
      rw [show ((j : Int)).toNat = j from rfl] at hth
      have hj : j < l.pos.length := by omega
      have hjt : j < (throwAll l.pos (es.take k)).length := by rw [throwAll_len]; exact hj
      have hba := balloc wr (.cells #[.int .i64 j, .int .i64 ps] 74)
      replace hLk := hLk.below hba
      replace Fk := Fk.below hba
      replace HBk := btrans HBk hba
      replace kk := blk_keep hba kk
      obtain ⟨gp, rfl, h1, h2, ⟨u, hu⟩, hf, hL2⟩ := hLk.putPos hjt ps
      rw [← hth.out] at hL2
      have F2 := Fk.set (o := j) (v := .int .i64 ps) h1 h2
      have B2 := below_set (o := j) (v := .int .i64 ps) (Nat.le_trans hlo h1) HBk
      have K2 := blk_other (i := j) (v := .int .i64 ps) kk (Nat.ne_of_gt (Nat.lt_of_lt_of_le h2 hhi))
      obtain ⟨g0, g1, g2, g3, g4, g5⟩ := blk6 kk
      clear hcc e0 hba hLk Fk HBk hth hnd
      go_wp2
      go_roundw
      case rel => exact ⟨k + 1, by omega, by go_num, hL2, F2, B2, K2⟩
      case measure => simp [intOf]; omega
    · obtain rfl : k = es.length := by omega
      rw [List.take_length] at hLk
      obtain ⟨gs, he, h1, h2, ⟨u, hu⟩, hf, hL2⟩ := hLk.putSet hrs true
      simp only [Option.some.injEq, Addr.mk.injEq, and_true] at he
      obtain ⟨rfl, rfl⟩ := he
      have F2 := Fk.set (o := r) (v := .bool true) h1 h2
      obtain ⟨g0, g1, g2, g3, g4, g5⟩ := blk6 kk
      clear c3 hLk hnd
      go_wp2
      go_end0
      rw [hC'.out, hes.out]
      exact ⟨endOf_zero.symm, F2, hL2⟩
end Go.Proofs.Ytpgjllefhlanpaa
