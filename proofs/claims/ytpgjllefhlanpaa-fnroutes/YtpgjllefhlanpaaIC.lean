/- The program's Clashing. -/
import Derived.Test.YtpgjllefhlanpaaIQ
import Derived.Test.YtpgjllefhlanpaaCL
import Derived.Deep.RegionHeld3
namespace Go.Proofs.Ytpgjllefhlanpaa
open Go.RowKit
theorem new2 {w : World} {o : Obj} : (w.alloc o).heap[w.heap.size]? = some o := by
  show (w.heap.push _)[w.heap.size]? = _
  simp

set_option maxRecDepth 20000 in
set_option maxHeartbeats 3200000 in
theorem cClashingI (a b : Option Addr) (ca cb : Nat) (p : PlantV) (i j : Int) (w : World) (hP : PlantIn w a b p) (hS : Small p) :
    Calls Try.prog 18 #[plantVal a ca b cb p, .int .i64 i, .int .i64 j] w fun e w' => e = .returned (.bool (clashing p i j)) ∧ Below w.heap.size w w' := by
  have CP := fun w hP => cPlantOkI a b ca cb p w hP hS
  have CR := fun x w => cHasRoute a b ca cb p x w hS.routes
  have s2 := hS.routes
  generalize hres : clashing p i j = res
  replace hres := hide hres
  have hat := fun i (hi : i < p.routes.length) => hP.at hi
  have hsm := fun i (hi : i < p.routes.length) => hS.at hi
  generalize hok : plantOk p = ok at *
  unfold plantVal at *
  have HB := balloc w (.cells #[.slice a p.under.length ca, .int .i64 p.blocks, .slice b p.routes.length cb] 27)
  have hk : (w.alloc (.cells #[.slice a p.under.length ca, .int .i64 p.blocks, .slice b p.routes.length cb] 27)).heap[w.heap.size]? = some (.cells #[.slice a p.under.length ca, .int .i64 p.blocks, .slice b p.routes.length cb] 27 (0, 0)) := new2
  go_enter Try.func18, Try.ntmps18
  go_wp2_with fail
  refine (CP _ (hP.below HB)).mono ?_
  rintro e w1 ⟨rfl, hb⟩
  replace hk := blk_keep hb hk
  replace HB := btrans HB hb
  clear hb
  cases ok
  · have hf := hide (show res = false by rw [← hres.out]; simp [clashing, hok])
    replace hok := hide hok
    go_wp2
    go_ret
    exact ⟨ret_bool hf.out.symm, HB⟩
  obtain ⟨⟨z0, z1, z2⟩, -⟩ := blk3 hk
  replace hok := hide hok
  go_wp2_with fail
  clear z0 z1 z2
  refine (CR i _).mono ?_
  rintro e w2 ⟨rfl, hb⟩
  replace hk := blk_keep hb hk
  replace HB := btrans HB hb
  clear hb
  cases ha : inB i 0 (p.routes.length - 1)
  · have hf := hide (show res = false by rw [← hres.out]; simp [clashing, ha])
    go_wp2
    go_ret
    exact ⟨ret_bool hf.out.symm, HB⟩
  obtain ⟨⟨z0, z1, z2⟩, -⟩ := blk3 hk
  go_wp2_with fail
  clear z0 z1 z2
  refine (CR j _).mono ?_
  rintro e w3 ⟨rfl, hb⟩
  replace hk := blk_keep hb hk
  replace HB := btrans HB hb
  clear hb
  cases hbb : inB j 0 (p.routes.length - 1)
  · have hf := hide (show res = false by rw [← hres.out]; simp [clashing, hbb])
    go_wp2
    go_ret
    exact ⟨ret_bool hf.out.symm, HB⟩
  by_cases hij : i = j
  · have hf := hide (show res = false by rw [← hres.out]; simp [clashing, hij])
    subst hij
    go_wp2
    go_ret
    exact ⟨ret_bool hf.out.symm, HB⟩
  have e0 := hide (show res = clash (p.route i.toNat) (p.route j.toNat) by rw [← hres.out]; simp [clashing, hok.out, ha, hbb, hij])
  obtain ⟨i, rfl⟩ := Int.eq_ofNat_of_zero_le (inB_true ha).1
  obtain ⟨j, rfl⟩ := Int.eq_ofNat_of_zero_le (inB_true hbb).1
  have hx : i < p.routes.length := by have := (inB_true ha).2; omega
  have hy : j < p.routes.length := by have := (inB_true hbb).2; omega
  have hx' : (i : Int) < p.routes.length := by omega
  have hy' : (j : Int) < p.routes.length := by omega
  obtain ⟨g, off, n, cn, m, cm, rfl, c1, c2, -, c3, c4⟩ := hat i hx
  obtain ⟨g', off', n', cn', m', cm', he, d1, d2, -, d3, d4⟩ := hat j hy
  simp only [Option.some.injEq, Addr.mk.injEq, and_true] at he
  obtain ⟨rfl, rfl⟩ := he
  have CC := fun (w1 : World) (hb1 : Below w.heap.size w w1) => cClash n m n' m' cn cm cn' cm' (p.route i) (p.route j) w1 (c3.below hb1) (c4.below hb1) (d3.below hb1) (d4.below hb1) (hsm i hx) (hsm j hy) ((right_of hok.out).bits hx) ((right_of hok.out).bits hy)
  unfold routeVal at CC
  rw [Int.toNat_natCast, Int.toNat_natCast] at e0
  generalize clash (p.route i) (p.route j) = cl at *
  generalize (p.route i).needs = es at *
  generalize (p.route i).blocks = bs at *
  generalize (p.route j).needs = fs at *
  generalize (p.route j).blocks = cs at *
  generalize p.under = U at *
  generalize p.blocks = B at *
  generalize p.routes = R at *
  have hij1 : ((i : Int) == (j : Int)) = false := by simp; omega
  have hij2 : (i == j) = false := by simp; omega
  have hij3 : decide (i = j) = false := by simp; omega
  have y1 := ble HB c1
  have y2 := ble HB c2
  have y3 := ble HB d1
  have y4 := ble HB d2
  obtain ⟨⟨z0, z1, z2⟩, -⟩ := blk3 hk
  clear hat hsm hP hS hij ha hbb hres CP CR c3 c4 d3 d4
  go_wp2_with fail
  refine wp_region_held_drew (S := (fun w' => w'.cell? ⟨w.heap.size, 2, none⟩ = some (.slice (some ⟨g, off, none⟩) R.length cb) ∧ w'.cell? ⟨g, off + i * 2, none⟩ = some (.slice n es.length cn) ∧ w'.cell? ⟨g, off + i * 2 + 1, none⟩ = some (.slice m bs.length cm) ∧ w'.cell? ⟨g, off + j * 2, none⟩ = some (.slice n' fs.length cn') ∧ w'.cell? ⟨g, off + j * 2 + 1, none⟩ = some (.slice m' cs.length cm'))) (by kernel_rfl) ?_ (fun hHeld => ?_)
  · go_keep
  refine wpAnyH_take (i := 0) (v := .pointer (some ⟨w.heap.size, 2, none⟩)) rfl (by kernel_rfl) (by kernel_rfl) (by kernel_rfl) (fun _ _ _ h => h) (Or.inl ⟨by kernel_rfl, fun w hS => by (obtain ⟨hS0, hS1, hS2, hS3, hS4⟩ := hS; go_simp)⟩) hHeld ?_
  change wpAnyH _ _ _ _ _ _ _ { tmps := #[_, _, _, _, _, _, _, _, _, _, _, _, _, _, _, _, _, _, _, _, _, _, _, _, _, _, _, .pointer (some ⟨w.heap.size, 2, none⟩), _, _, _, _, _, _, _, _, _, _], defers := [] } _
  refine wpAnyH_take (i := 1) (v := .slice (some ⟨g, off, none⟩) R.length cb) rfl (by kernel_rfl) (by kernel_rfl) (by kernel_rfl) (fun _ _ _ h => h) (Or.inl ⟨by kernel_rfl, fun w hS => by (obtain ⟨hS0, hS1, hS2, hS3, hS4⟩ := hS; go_simp)⟩) hHeld ?_
  change wpAnyH _ _ _ _ _ _ _ { tmps := #[_, _, _, _, _, _, _, _, _, _, _, _, _, _, _, _, _, _, _, _, _, _, _, _, _, _, _, .pointer (some ⟨w.heap.size, 2, none⟩), .slice (some ⟨g, off, none⟩) R.length cb, _, _, _, _, _, _, _, _, _], defers := [] } _
  refine wpAnyH_take (i := 2) (v := .int .i64 (i : Int)) rfl (by kernel_rfl) (by kernel_rfl) (by kernel_rfl) (fun _ _ _ h => h) (Or.inl ⟨by kernel_rfl, fun w hS => by (obtain ⟨hS0, hS1, hS2, hS3, hS4⟩ := hS; go_simp)⟩) hHeld ?_
  change wpAnyH _ _ _ _ _ _ _ { tmps := #[_, _, _, _, _, _, _, _, _, _, _, _, _, _, _, _, _, _, _, _, _, _, _, _, _, _, _, .pointer (some ⟨w.heap.size, 2, none⟩), .slice (some ⟨g, off, none⟩) R.length cb, .int .i64 (i : Int), _, _, _, _, _, _, _, _], defers := [] } _
  refine wpAnyH_take (i := 3) (v := .pointer (some ⟨g, off + i * 2, none⟩)) rfl (by kernel_rfl) (by kernel_rfl) (by kernel_rfl) (fun _ _ _ h => h) (Or.inl ⟨by kernel_rfl, fun w hS => by (obtain ⟨hS0, hS1, hS2, hS3, hS4⟩ := hS; go_simp)⟩) hHeld ?_
  change wpAnyH _ _ _ _ _ _ _ { tmps := #[_, _, _, _, _, _, _, _, _, _, _, _, _, _, _, _, _, _, _, _, _, _, _, _, _, _, _, .pointer (some ⟨w.heap.size, 2, none⟩), .slice (some ⟨g, off, none⟩) R.length cb, .int .i64 (i : Int), .pointer (some ⟨g, off + i * 2, none⟩), _, _, _, _, _, _, _], defers := [] } _
  refine wpAnyH_take (i := 4) (v := .agg #[.slice n es.length cn, .slice m bs.length cm]) rfl (by kernel_rfl) (by kernel_rfl) (by kernel_rfl) (fun _ _ _ h => h) (Or.inl ⟨by kernel_rfl, fun w hS => by (obtain ⟨hS0, hS1, hS2, hS3, hS4⟩ := hS; go_simp)⟩) hHeld ?_
  change wpAnyH _ _ _ _ _ _ _ { tmps := #[_, _, _, _, _, _, _, _, _, _, _, _, _, _, _, _, _, _, _, _, _, _, _, _, _, _, _, .pointer (some ⟨w.heap.size, 2, none⟩), .slice (some ⟨g, off, none⟩) R.length cb, .int .i64 (i : Int), .pointer (some ⟨g, off + i * 2, none⟩), .agg #[.slice n es.length cn, .slice m bs.length cm], _, _, _, _, _, _], defers := [] } _
  refine wpAnyH_take (i := 5) (v := .pointer (some ⟨w.heap.size, 2, none⟩)) rfl (by kernel_rfl) (by kernel_rfl) (by kernel_rfl) (fun _ _ _ h => h) (Or.inl ⟨by kernel_rfl, fun w hS => by (obtain ⟨hS0, hS1, hS2, hS3, hS4⟩ := hS; go_simp)⟩) hHeld ?_
  change wpAnyH _ _ _ _ _ _ _ { tmps := #[_, _, _, _, _, _, _, _, _, _, _, _, _, _, _, _, _, _, _, _, _, _, _, _, _, _, _, .pointer (some ⟨w.heap.size, 2, none⟩), .slice (some ⟨g, off, none⟩) R.length cb, .int .i64 (i : Int), .pointer (some ⟨g, off + i * 2, none⟩), .agg #[.slice n es.length cn, .slice m bs.length cm], .pointer (some ⟨w.heap.size, 2, none⟩), _, _, _, _, _], defers := [] } _
  refine wpAnyH_take (i := 6) (v := .slice (some ⟨g, off, none⟩) R.length cb) rfl (by kernel_rfl) (by kernel_rfl) (by kernel_rfl) (fun _ _ _ h => h) (Or.inl ⟨by kernel_rfl, fun w hS => by (obtain ⟨hS0, hS1, hS2, hS3, hS4⟩ := hS; go_simp)⟩) hHeld ?_
  change wpAnyH _ _ _ _ _ _ _ { tmps := #[_, _, _, _, _, _, _, _, _, _, _, _, _, _, _, _, _, _, _, _, _, _, _, _, _, _, _, .pointer (some ⟨w.heap.size, 2, none⟩), .slice (some ⟨g, off, none⟩) R.length cb, .int .i64 (i : Int), .pointer (some ⟨g, off + i * 2, none⟩), .agg #[.slice n es.length cn, .slice m bs.length cm], .pointer (some ⟨w.heap.size, 2, none⟩), .slice (some ⟨g, off, none⟩) R.length cb, _, _, _, _], defers := [] } _
  refine wpAnyH_take (i := 7) (v := .int .i64 (j : Int)) rfl (by kernel_rfl) (by kernel_rfl) (by kernel_rfl) (fun _ _ _ h => h) (Or.inl ⟨by kernel_rfl, fun w hS => by (obtain ⟨hS0, hS1, hS2, hS3, hS4⟩ := hS; go_simp)⟩) hHeld ?_
  change wpAnyH _ _ _ _ _ _ _ { tmps := #[_, _, _, _, _, _, _, _, _, _, _, _, _, _, _, _, _, _, _, _, _, _, _, _, _, _, _, .pointer (some ⟨w.heap.size, 2, none⟩), .slice (some ⟨g, off, none⟩) R.length cb, .int .i64 (i : Int), .pointer (some ⟨g, off + i * 2, none⟩), .agg #[.slice n es.length cn, .slice m bs.length cm], .pointer (some ⟨w.heap.size, 2, none⟩), .slice (some ⟨g, off, none⟩) R.length cb, .int .i64 (j : Int), _, _, _], defers := [] } _
  refine wpAnyH_take (i := 8) (v := .pointer (some ⟨g, off + j * 2, none⟩)) rfl (by kernel_rfl) (by kernel_rfl) (by kernel_rfl) (fun _ _ _ h => h) (Or.inl ⟨by kernel_rfl, fun w hS => by (obtain ⟨hS0, hS1, hS2, hS3, hS4⟩ := hS; go_simp)⟩) hHeld ?_
  change wpAnyH _ _ _ _ _ _ _ { tmps := #[_, _, _, _, _, _, _, _, _, _, _, _, _, _, _, _, _, _, _, _, _, _, _, _, _, _, _, .pointer (some ⟨w.heap.size, 2, none⟩), .slice (some ⟨g, off, none⟩) R.length cb, .int .i64 (i : Int), .pointer (some ⟨g, off + i * 2, none⟩), .agg #[.slice n es.length cn, .slice m bs.length cm], .pointer (some ⟨w.heap.size, 2, none⟩), .slice (some ⟨g, off, none⟩) R.length cb, .int .i64 (j : Int), .pointer (some ⟨g, off + j * 2, none⟩), _, _], defers := [] } _
  refine wpAnyH_take (i := 9) (v := .agg #[.slice n' fs.length cn', .slice m' cs.length cm']) rfl (by kernel_rfl) (by kernel_rfl) (by kernel_rfl) (fun _ _ _ h => h) (Or.inl ⟨by kernel_rfl, fun w hS => by (obtain ⟨hS0, hS1, hS2, hS3, hS4⟩ := hS; go_simp)⟩) hHeld ?_
  change wpAnyH _ _ _ _ _ _ _ { tmps := #[_, _, _, _, _, _, _, _, _, _, _, _, _, _, _, _, _, _, _, _, _, _, _, _, _, _, _, .pointer (some ⟨w.heap.size, 2, none⟩), .slice (some ⟨g, off, none⟩) R.length cb, .int .i64 (i : Int), .pointer (some ⟨g, off + i * 2, none⟩), .agg #[.slice n es.length cn, .slice m bs.length cm], .pointer (some ⟨w.heap.size, 2, none⟩), .slice (some ⟨g, off, none⟩) R.length cb, .int .i64 (j : Int), .pointer (some ⟨g, off + j * 2, none⟩), .agg #[.slice n' fs.length cn', .slice m' cs.length cm'], _], defers := [] } _
  refine wpAnyH_ready (rs := [10]) (by kernel_rfl) (by simp) ?_
  refine AllReadyH.cons rfl (fun K hK => ?_) AllReadyH.nil
  go_simp
  go_wp2_with (first | (go_at_call 37; refine (CC _ HB.drew).mono ?_; rintro e w6 ⟨rfl, hb6⟩; have HW6 := btrans HB (undrew hb6); have HK6 := blk_keep (undrew hb6) hk; clear hb6))
  clear hHeld
  refine hK.out _ _ (by obtain ⟨⟨z0, z1, z2⟩, -⟩ := blk3 HK6; exact ⟨z2, ble HW6 c1, ble HW6 c2, ble HW6 d1, ble HW6 d2⟩) (fun hHeld => ?_)
  clear hK K
  change wpAnyH _ _ _ _ _ _ _ { tmps := #[_, _, _, _, _, _, _, _, _, _, _, _, _, _, _, _, _, _, _, _, _, _, _, _, _, _, _, .pointer (some ⟨w.heap.size, 2, none⟩), .slice (some ⟨g, off, none⟩) R.length cb, .int .i64 (i : Int), .pointer (some ⟨g, off + i * 2, none⟩), .agg #[.slice n es.length cn, .slice m bs.length cm], .pointer (some ⟨w.heap.size, 2, none⟩), .slice (some ⟨g, off, none⟩) R.length cb, .int .i64 (j : Int), .pointer (some ⟨g, off + j * 2, none⟩), .agg #[.slice n' fs.length cn', .slice m' cs.length cm'], .bool cl], defers := [] } _
  refine wpAnyH_take (i := 11) (v := .bool cl) rfl (by kernel_rfl) (by kernel_rfl) (by kernel_rfl) (fun _ _ _ h => h) (Or.inl ⟨by kernel_rfl, fun w hS => by (obtain ⟨hS0, hS1, hS2, hS3, hS4⟩ := hS; go_simp)⟩) hHeld ?_
  change wpAnyH _ _ _ _ _ _ _ { tmps := #[_, _, _, _, _, _, .bool cl, _, _, _, _, _, _, _, _, _, _, _, _, _, _, _, _, _, _, _, _, .pointer (some ⟨w.heap.size, 2, none⟩), .slice (some ⟨g, off, none⟩) R.length cb, .int .i64 (i : Int), .pointer (some ⟨g, off + i * 2, none⟩), .agg #[.slice n es.length cn, .slice m bs.length cm], .pointer (some ⟨w.heap.size, 2, none⟩), .slice (some ⟨g, off, none⟩) R.length cb, .int .i64 (j : Int), .pointer (some ⟨g, off + j * 2, none⟩), .agg #[.slice n' fs.length cn', .slice m' cs.length cm'], .bool cl], defers := [] } _
  refine wpAnyH_done (by kernel_rfl) ?_ _
  go_wp2
  go_ret
  exact ⟨ret_bool e0.out.symm, HW6⟩
end Go.Proofs.Ytpgjllefhlanpaa
