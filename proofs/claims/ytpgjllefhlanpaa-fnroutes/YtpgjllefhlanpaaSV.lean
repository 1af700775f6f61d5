/- What is barred. -/
import Derived.Test.YtpgjllefhlanpaaST
import Derived.Deep.RegionHeld3
namespace Go.Proofs.Ytpgjllefhlanpaa
open Go.RowKit

set_option maxRecDepth 20000 in
set_option maxHeartbeats 3200000 in
theorem cBarredI (a b x y z : Option Addr) (ca cb cx cy cz : Nat) (p : PlantV) (l : LockV) (r : Nat) (w : World) (hP : PlantIn w a b p) (hy : Bools w y l.set) (hS : Small p) (hF : Fits p l) (hr : r < p.routes.length) :
    Calls Try.prog 27 #[stVal a ca b cb p x cx y cy z cz l, .int .i64 r] w fun e w' => e = .returned (.bool (barred p l r)) ∧ Below w.heap.size w w' := by
  have hset := hide hF.set
  have r12 := hF.ok.r12
  have hat := fun (w1 : World) (hb : Below w.heap.size w w1) (i : Nat) (hi : i < p.routes.length) => (hP.below hb).at hi
  have hsm := fun i (hi : i < p.routes.length) => hS.at hi
  have hbt := fun i (hi : i < p.routes.length) => hF.ok.bits hi
  clear hP hS hF
  generalize hres : barred p l r = res
  have hr0 : Hid (((List.range l.set.length).drop 0).any (fun o => l.set.getD o false && !decide (o = r) && clash (p.route o) (p.route r)) = res) := hres
  clear hres
  unfold PlantV.route at *
  obtain ⟨U, B, R⟩ := p
  obtain ⟨po, se, ta⟩ := l
  unfold stVal
  dsimp only at *
  have hb0 := balloc w (.cells #[.slice a U.length ca, .int .i64 B, .slice b R.length cb, .slice x po.length cx, .slice y se.length cy, .slice z ta.length cz] 61)
  have k0 : (w.alloc (.cells #[.slice a U.length ca, .int .i64 B, .slice b R.length cb, .slice x po.length cx, .slice y se.length cy, .slice z ta.length cz] 61)).heap[w.heap.size]? = some (.cells #[.slice a U.length ca, .int .i64 B, .slice b R.length cb, .slice x po.length cx, .slice y se.length cy, .slice z ta.length cz] 61 (0, 0)) := new1
  have hse : se.length ≤ 12 := by rw [hset.out]; exact r12
  have hr' : (r : Int) < R.length := by omega
  go_enter Try.func27, Try.ntmps27
  go_wp2
  go_loopw [11] (fun i wr => ∃ k : Nat, k ≤ se.length ∧ i = .int .i64 k ∧ Hid (((List.range se.length).drop k).any (fun o => se.getD o false && !decide (o = r) && clash (R.getD o RouteV.zero) (R.getD r RouteV.zero)) = res) ∧ Below w.heap.size w wr ∧ wr.heap[w.heap.size]? = some (.cells #[.slice a U.length ca, .int .i64 B, .slice b R.length cb, .slice x po.length cx, .slice y se.length cy, .slice z ta.length cz] 61 (0, 0))) (fun i _ => se.length - (intOf i).toNat)
  case atStart => exact ⟨0, Nat.zero_le _, rfl, hr0, hb0, k0⟩
  case round =>
    obtain ⟨k, hk, rfl, hres, hb, hk1⟩ := hrel
    clear hr0 hb0 k0
    by_cases hlt : k < se.length
    · have hkr : k < R.length := by rw [← hset.out]; exact hlt
      have hkr' : (k : Int) < R.length := by omega
      obtain ⟨g, off, n, cn, m, cm, rfl, c1, c2, -, c3, c4⟩ := hat _ hb k hkr
      obtain ⟨g', off', n', cn', m', cm', he, d1, d2, -, d3, d4⟩ := hat _ hb r hr
      simp only [Option.some.injEq, Addr.mk.injEq, and_true] at he
      obtain ⟨rfl, rfl⟩ := he
      have CC := fun (w1 : World) (hb1 : Below wr.heap.size wr w1) => cClash n m n' m' cn cm cn' cm' (R.getD k RouteV.zero) (R.getD r RouteV.zero) w1 (c3.below hb1) (c4.below hb1) (d3.below hb1) (d4.below hb1) (hsm k hkr) (hsm r hr) (hbt k hkr) (hbt r hr)
      rcases hy with h | ⟨yb, yo, rfl, hyc⟩
      · simp [h] at hlt
      have v0 := ble hb (hyc k hlt)
      have hd := hide ((any_drop (P := fun o => se.getD o false && !decide (o = r) && clash (R.getD o RouteV.zero) (R.getD r RouteV.zero)) (zs := List.range se.length) (k := k) (by simpa using hlt)).symm.trans hres.out)
      simp only [List.getElem_range] at hd
      unfold routeVal at CC
      generalize clash (R.getD k RouteV.zero) (R.getD r RouteV.zero) = cl at *
      generalize R.getD k RouteV.zero = Q at *
      obtain ⟨fs, cs, hfs, hcs⟩ : ∃ fs cs, fs = (R.getD r RouteV.zero).needs ∧ cs = (R.getD r RouteV.zero).blocks := ⟨_, _, rfl, rfl⟩
      rw [← hfs] at d1
      rw [← hcs] at d2
      rw [← hfs, ← hcs] at CC
      clear d3 d4 hfs hcs
      obtain ⟨es, bs⟩ := Q
      dsimp only at *
      obtain ⟨g0, g1, g2, g3, g4, g5⟩ := blk6 hk1
      generalize se.getD k false = v at *
      clear hres hyc hat hsm hset hbt c3 c4
      cases v
      · have hf := hide (show ((List.range se.length).drop (k + 1)).any (fun o => se.getD o false && !decide (o = r) && clash (R.getD o RouteV.zero) (R.getD r RouteV.zero)) = res by rw [← hd.out]; simp)
        clear hd CC
        go_wp2
        go_quiet (fail)
        go_wp2
        go_roundw
        case rel => exact ⟨k + 1, by omega, by go_num, hf, bdraw hb _, hk1⟩
        case measure => simp [intOf]; omega
      by_cases hkk : k = r
      · have hf := hide (show ((List.range se.length).drop (k + 1)).any (fun o => se.getD o false && !decide (o = r) && clash (R.getD o RouteV.zero) (R.getD r RouteV.zero)) = res by rw [← hd.out]; simp [hkk])
        have h1 : ((k : Int) != (r : Int)) = false := by simp [hkk]
        have h2 : (k == r) = true := by simp [hkk]
        have h3 : decide (k = r) = true := by simp [hkk]
        replace hkk := hide hkk
        clear hd CC
        go_wp2
        go_quiet (fail)
        go_wp2
        go_roundw
        case rel => exact ⟨k + 1, by omega, by go_num, hf, bdraw hb _, hk1⟩
        case measure => simp [intOf]; omega
      · have hd2 := hide (show (cl || ((List.range se.length).drop (k + 1)).any (fun o => se.getD o false && !decide (o = r) && clash (R.getD o RouteV.zero) (R.getD r RouteV.zero))) = res by rw [← hd.out]; simp [hkk])
        have h1 : ((k : Int) != (r : Int)) = true := by simp; omega
        have h2 : (k == r) = false := by simp [hkk]
        have h3 : decide (k = r) = false := by simp [hkk]
        have hBX : ∀ w6, Below wr.heap.size wr w6 → w6.heap[w.heap.size]? = some (.cells #[.slice a U.length ca, .int .i64 B, .slice (some ⟨g, off, none⟩) R.length cb, .slice x po.length cx, .slice (some ⟨yb, yo, none⟩) se.length cy, .slice z ta.length cz] 61 (0, 0)) := fun w6 h => blk_keep h hk1
        replace hkk := hide hkk
        clear hd
        cases cl
        · have hf := hide (show ((List.range se.length).drop (k + 1)).any (fun o => se.getD o false && !decide (o = r) && clash (R.getD o RouteV.zero) (R.getD r RouteV.zero)) = res by rw [← hd2.out]; simp)
          clear hd2
          go_wp2_with fail
          refine wp_region_held_drew (S := (fun w' => w'.cell? ⟨w.heap.size, 2, none⟩ = some (.slice (some ⟨g, off, none⟩) R.length cb) ∧ w'.cell? ⟨g, off + k * 2, none⟩ = some (.slice n es.length cn) ∧ w'.cell? ⟨g, off + k * 2 + 1, none⟩ = some (.slice m bs.length cm) ∧ w'.cell? ⟨g, off + r * 2, none⟩ = some (.slice n' fs.length cn') ∧ w'.cell? ⟨g, off + r * 2 + 1, none⟩ = some (.slice m' cs.length cm'))) (by kernel_rfl) ?_ (fun hHeld => ?_)
          · go_keep
          refine wpAnyH_take (i := 0) (v := .bool true) rfl (by kernel_rfl) (by kernel_rfl) (by kernel_rfl) (fun _ _ _ h => h) (Or.inl ⟨by kernel_rfl, fun w hS => by (obtain ⟨hS0, hS1, hS2, hS3, hS4⟩ := hS; go_simp)⟩) hHeld ?_
          change wpAnyH _ _ _ _ _ _ _ { tmps := #[_, _, _, _, _, _, _, _, _, _, _, _, _, _, _, _, .bool true, _, _, _, _, _, _, _, _, _, _, _, _, _, _, _, _, _, _, _, _, _], defers := [] } _
          refine wpAnyH_take (i := 1) (v := .bool true) rfl (by kernel_rfl) (by kernel_rfl) (by kernel_rfl) (fun _ _ _ h => h) (Or.inl ⟨by kernel_rfl, fun w hS => by (obtain ⟨hS0, hS1, hS2, hS3, hS4⟩ := hS; go_simp)⟩) hHeld ?_
          change wpAnyH _ _ _ _ _ _ _ { tmps := #[_, _, _, _, _, _, _, _, _, _, _, _, _, _, _, _, .bool true, .bool true, _, _, _, _, _, _, _, _, _, _, _, _, _, _, _, _, _, _, _, _], defers := [] } _
          refine wpAnyH_take (i := 2) (v := .int .i64 (k : Int)) rfl (by kernel_rfl) (by kernel_rfl) (by kernel_rfl) (fun _ _ _ h => h) (Or.inl ⟨by kernel_rfl, fun w hS => by (obtain ⟨hS0, hS1, hS2, hS3, hS4⟩ := hS; go_simp)⟩) hHeld ?_
          change wpAnyH _ _ _ _ _ _ _ { tmps := #[_, _, _, _, _, _, _, _, _, _, _, _, _, _, _, _, .bool true, .bool true, .int .i64 (k : Int), _, _, _, _, _, _, _, _, _, _, _, _, _, _, _, _, _, _, _], defers := [] } _
          refine wpAnyH_take (i := 3) (v := .int .i64 (r : Int)) rfl (by kernel_rfl) (by kernel_rfl) (by kernel_rfl) (fun _ _ _ h => h) (Or.inl ⟨by kernel_rfl, fun w hS => by (obtain ⟨hS0, hS1, hS2, hS3, hS4⟩ := hS; go_simp)⟩) hHeld ?_
          change wpAnyH _ _ _ _ _ _ _ { tmps := #[_, _, _, _, _, _, _, _, _, _, _, _, _, _, _, _, .bool true, .bool true, .int .i64 (k : Int), .int .i64 (r : Int), _, _, _, _, _, _, _, _, _, _, _, _, _, _, _, _, _, _], defers := [] } _
          refine wpAnyH_take (i := 4) (v := .bool true) rfl (by kernel_rfl) (by kernel_rfl) (by kernel_rfl) (fun _ _ _ h => h) (Or.inl ⟨by kernel_rfl, fun w hS => by (obtain ⟨hS0, hS1, hS2, hS3, hS4⟩ := hS; go_simp)⟩) hHeld ?_
          change wpAnyH _ _ _ _ _ _ _ { tmps := #[_, _, _, _, _, _, _, _, _, _, _, _, _, _, _, _, .bool true, .bool true, .int .i64 (k : Int), .int .i64 (r : Int), .bool true, _, _, _, _, _, _, _, _, _, _, _, _, _, _, _, _, _], defers := [] } _
          refine wpAnyH_take (i := 5) (v := .bool true) rfl (by kernel_rfl) (by kernel_rfl) (by kernel_rfl) (fun _ _ _ h => h) (Or.inl ⟨by kernel_rfl, fun w hS => by (obtain ⟨hS0, hS1, hS2, hS3, hS4⟩ := hS; go_simp)⟩) hHeld ?_
          change wpAnyH _ _ _ _ _ _ _ { tmps := #[_, _, _, _, _, _, _, _, _, _, _, _, _, _, _, _, .bool true, .bool true, .int .i64 (k : Int), .int .i64 (r : Int), .bool true, .bool true, _, _, _, _, _, _, _, _, _, _, _, _, _, _, _, _], defers := [] } _
          refine wpAnyH_take (i := 6) (v := .bool true) rfl (by kernel_rfl) (by kernel_rfl) (by kernel_rfl) (fun _ _ _ h => h) (Or.inl ⟨by kernel_rfl, fun w hS => by (obtain ⟨hS0, hS1, hS2, hS3, hS4⟩ := hS; go_simp)⟩) hHeld ?_
          change wpAnyH _ _ _ _ _ _ _ { tmps := #[_, _, _, _, _, _, _, _, _, _, _, _, _, _, _, _, .bool true, .bool true, .int .i64 (k : Int), .int .i64 (r : Int), .bool true, .bool true, .bool true, _, _, _, _, _, _, _, _, _, _, _, _, _, _, _], defers := [] } _
          refine wpAnyH_take (i := 7) (v := .pointer (some ⟨w.heap.size, 0, none⟩)) rfl (by kernel_rfl) (by kernel_rfl) (by kernel_rfl) (fun _ _ _ h => h) (Or.inl ⟨by kernel_rfl, fun w hS => by (obtain ⟨hS0, hS1, hS2, hS3, hS4⟩ := hS; go_simp)⟩) hHeld ?_
          change wpAnyH _ _ _ _ _ _ _ { tmps := #[_, _, _, _, _, _, _, _, _, _, _, _, _, _, _, _, .bool true, .bool true, .int .i64 (k : Int), .int .i64 (r : Int), .bool true, .bool true, .bool true, .pointer (some ⟨w.heap.size, 0, none⟩), _, _, _, _, _, _, _, _, _, _, _, _, _, _], defers := [] } _
          refine wpAnyH_take (i := 8) (v := .pointer (some ⟨w.heap.size, 2, none⟩)) rfl (by kernel_rfl) (by kernel_rfl) (by kernel_rfl) (fun _ _ _ h => h) (Or.inl ⟨by kernel_rfl, fun w hS => by (obtain ⟨hS0, hS1, hS2, hS3, hS4⟩ := hS; go_simp)⟩) hHeld ?_
          change wpAnyH _ _ _ _ _ _ _ { tmps := #[_, _, _, _, _, _, _, _, _, _, _, _, _, _, _, _, .bool true, .bool true, .int .i64 (k : Int), .int .i64 (r : Int), .bool true, .bool true, .bool true, .pointer (some ⟨w.heap.size, 0, none⟩), .pointer (some ⟨w.heap.size, 2, none⟩), _, _, _, _, _, _, _, _, _, _, _, _, _], defers := [] } _
          refine wpAnyH_take (i := 9) (v := .slice (some ⟨g, off, none⟩) R.length cb) rfl (by kernel_rfl) (by kernel_rfl) (by kernel_rfl) (fun _ _ _ h => h) (Or.inl ⟨by kernel_rfl, fun w hS => by (obtain ⟨hS0, hS1, hS2, hS3, hS4⟩ := hS; go_simp)⟩) hHeld ?_
          change wpAnyH _ _ _ _ _ _ _ { tmps := #[_, _, _, _, _, _, _, _, _, _, _, _, _, _, _, _, .bool true, .bool true, .int .i64 (k : Int), .int .i64 (r : Int), .bool true, .bool true, .bool true, .pointer (some ⟨w.heap.size, 0, none⟩), .pointer (some ⟨w.heap.size, 2, none⟩), .slice (some ⟨g, off, none⟩) R.length cb, _, _, _, _, _, _, _, _, _, _, _, _], defers := [] } _
          refine wpAnyH_take (i := 10) (v := .int .i64 (k : Int)) rfl (by kernel_rfl) (by kernel_rfl) (by kernel_rfl) (fun _ _ _ h => h) (Or.inl ⟨by kernel_rfl, fun w hS => by (obtain ⟨hS0, hS1, hS2, hS3, hS4⟩ := hS; go_simp)⟩) hHeld ?_
          change wpAnyH _ _ _ _ _ _ _ { tmps := #[_, _, _, _, _, _, _, _, _, _, _, _, _, _, _, _, .bool true, .bool true, .int .i64 (k : Int), .int .i64 (r : Int), .bool true, .bool true, .bool true, .pointer (some ⟨w.heap.size, 0, none⟩), .pointer (some ⟨w.heap.size, 2, none⟩), .slice (some ⟨g, off, none⟩) R.length cb, .int .i64 (k : Int), _, _, _, _, _, _, _, _, _, _, _], defers := [] } _
          refine wpAnyH_take (i := 11) (v := .pointer (some ⟨g, off + k * 2, none⟩)) rfl (by kernel_rfl) (by kernel_rfl) (by kernel_rfl) (fun _ _ _ h => h) (Or.inl ⟨by kernel_rfl, fun w hS => by (obtain ⟨hS0, hS1, hS2, hS3, hS4⟩ := hS; go_simp)⟩) hHeld ?_
          change wpAnyH _ _ _ _ _ _ _ { tmps := #[_, _, _, _, _, _, _, _, _, _, _, _, _, _, _, _, .bool true, .bool true, .int .i64 (k : Int), .int .i64 (r : Int), .bool true, .bool true, .bool true, .pointer (some ⟨w.heap.size, 0, none⟩), .pointer (some ⟨w.heap.size, 2, none⟩), .slice (some ⟨g, off, none⟩) R.length cb, .int .i64 (k : Int), .pointer (some ⟨g, off + k * 2, none⟩), _, _, _, _, _, _, _, _, _, _], defers := [] } _
          refine wpAnyH_take (i := 12) (v := .agg #[.slice n es.length cn, .slice m bs.length cm]) rfl (by kernel_rfl) (by kernel_rfl) (by kernel_rfl) (fun _ _ _ h => h) (Or.inl ⟨by kernel_rfl, fun w hS => by (obtain ⟨hS0, hS1, hS2, hS3, hS4⟩ := hS; go_simp)⟩) hHeld ?_
          change wpAnyH _ _ _ _ _ _ _ { tmps := #[_, _, _, _, _, _, _, _, _, _, _, _, _, _, _, _, .bool true, .bool true, .int .i64 (k : Int), .int .i64 (r : Int), .bool true, .bool true, .bool true, .pointer (some ⟨w.heap.size, 0, none⟩), .pointer (some ⟨w.heap.size, 2, none⟩), .slice (some ⟨g, off, none⟩) R.length cb, .int .i64 (k : Int), .pointer (some ⟨g, off + k * 2, none⟩), .agg #[.slice n es.length cn, .slice m bs.length cm], _, _, _, _, _, _, _, _, _], defers := [] } _
          refine wpAnyH_take (i := 13) (v := .pointer (some ⟨w.heap.size, 0, none⟩)) rfl (by kernel_rfl) (by kernel_rfl) (by kernel_rfl) (fun _ _ _ h => h) (Or.inl ⟨by kernel_rfl, fun w hS => by (obtain ⟨hS0, hS1, hS2, hS3, hS4⟩ := hS; go_simp)⟩) hHeld ?_
          change wpAnyH _ _ _ _ _ _ _ { tmps := #[_, _, _, _, _, _, _, _, _, _, _, _, _, _, _, _, .bool true, .bool true, .int .i64 (k : Int), .int .i64 (r : Int), .bool true, .bool true, .bool true, .pointer (some ⟨w.heap.size, 0, none⟩), .pointer (some ⟨w.heap.size, 2, none⟩), .slice (some ⟨g, off, none⟩) R.length cb, .int .i64 (k : Int), .pointer (some ⟨g, off + k * 2, none⟩), .agg #[.slice n es.length cn, .slice m bs.length cm], .pointer (some ⟨w.heap.size, 0, none⟩), _, _, _, _, _, _, _, _], defers := [] } _
          refine wpAnyH_take (i := 14) (v := .pointer (some ⟨w.heap.size, 2, none⟩)) rfl (by kernel_rfl) (by kernel_rfl) (by kernel_rfl) (fun _ _ _ h => h) (Or.inl ⟨by kernel_rfl, fun w hS => by (obtain ⟨hS0, hS1, hS2, hS3, hS4⟩ := hS; go_simp)⟩) hHeld ?_
          change wpAnyH _ _ _ _ _ _ _ { tmps := #[_, _, _, _, _, _, _, _, _, _, _, _, _, _, _, _, .bool true, .bool true, .int .i64 (k : Int), .int .i64 (r : Int), .bool true, .bool true, .bool true, .pointer (some ⟨w.heap.size, 0, none⟩), .pointer (some ⟨w.heap.size, 2, none⟩), .slice (some ⟨g, off, none⟩) R.length cb, .int .i64 (k : Int), .pointer (some ⟨g, off + k * 2, none⟩), .agg #[.slice n es.length cn, .slice m bs.length cm], .pointer (some ⟨w.heap.size, 0, none⟩), .pointer (some ⟨w.heap.size, 2, none⟩), _, _, _, _, _, _, _], defers := [] } _
          refine wpAnyH_take (i := 15) (v := .slice (some ⟨g, off, none⟩) R.length cb) rfl (by kernel_rfl) (by kernel_rfl) (by kernel_rfl) (fun _ _ _ h => h) (Or.inl ⟨by kernel_rfl, fun w hS => by (obtain ⟨hS0, hS1, hS2, hS3, hS4⟩ := hS; go_simp)⟩) hHeld ?_
          change wpAnyH _ _ _ _ _ _ _ { tmps := #[_, _, _, _, _, _, _, _, _, _, _, _, _, _, _, _, .bool true, .bool true, .int .i64 (k : Int), .int .i64 (r : Int), .bool true, .bool true, .bool true, .pointer (some ⟨w.heap.size, 0, none⟩), .pointer (some ⟨w.heap.size, 2, none⟩), .slice (some ⟨g, off, none⟩) R.length cb, .int .i64 (k : Int), .pointer (some ⟨g, off + k * 2, none⟩), .agg #[.slice n es.length cn, .slice m bs.length cm], .pointer (some ⟨w.heap.size, 0, none⟩), .pointer (some ⟨w.heap.size, 2, none⟩), .slice (some ⟨g, off, none⟩) R.length cb, _, _, _, _, _, _], defers := [] } _
          refine wpAnyH_take (i := 16) (v := .int .i64 (r : Int)) rfl (by kernel_rfl) (by kernel_rfl) (by kernel_rfl) (fun _ _ _ h => h) (Or.inl ⟨by kernel_rfl, fun w hS => by (obtain ⟨hS0, hS1, hS2, hS3, hS4⟩ := hS; go_simp)⟩) hHeld ?_
          change wpAnyH _ _ _ _ _ _ _ { tmps := #[_, _, _, _, _, _, _, _, _, _, _, _, _, _, _, _, .bool true, .bool true, .int .i64 (k : Int), .int .i64 (r : Int), .bool true, .bool true, .bool true, .pointer (some ⟨w.heap.size, 0, none⟩), .pointer (some ⟨w.heap.size, 2, none⟩), .slice (some ⟨g, off, none⟩) R.length cb, .int .i64 (k : Int), .pointer (some ⟨g, off + k * 2, none⟩), .agg #[.slice n es.length cn, .slice m bs.length cm], .pointer (some ⟨w.heap.size, 0, none⟩), .pointer (some ⟨w.heap.size, 2, none⟩), .slice (some ⟨g, off, none⟩) R.length cb, .int .i64 (r : Int), _, _, _, _, _], defers := [] } _
          refine wpAnyH_take (i := 17) (v := .pointer (some ⟨g, off + r * 2, none⟩)) rfl (by kernel_rfl) (by kernel_rfl) (by kernel_rfl) (fun _ _ _ h => h) (Or.inl ⟨by kernel_rfl, fun w hS => by (obtain ⟨hS0, hS1, hS2, hS3, hS4⟩ := hS; go_simp)⟩) hHeld ?_
          change wpAnyH _ _ _ _ _ _ _ { tmps := #[_, _, _, _, _, _, _, _, _, _, _, _, _, _, _, _, .bool true, .bool true, .int .i64 (k : Int), .int .i64 (r : Int), .bool true, .bool true, .bool true, .pointer (some ⟨w.heap.size, 0, none⟩), .pointer (some ⟨w.heap.size, 2, none⟩), .slice (some ⟨g, off, none⟩) R.length cb, .int .i64 (k : Int), .pointer (some ⟨g, off + k * 2, none⟩), .agg #[.slice n es.length cn, .slice m bs.length cm], .pointer (some ⟨w.heap.size, 0, none⟩), .pointer (some ⟨w.heap.size, 2, none⟩), .slice (some ⟨g, off, none⟩) R.length cb, .int .i64 (r : Int), .pointer (some ⟨g, off + r * 2, none⟩), _, _, _, _], defers := [] } _
          refine wpAnyH_take (i := 18) (v := .agg #[.slice n' fs.length cn', .slice m' cs.length cm']) rfl (by kernel_rfl) (by kernel_rfl) (by kernel_rfl) (fun _ _ _ h => h) (Or.inl ⟨by kernel_rfl, fun w hS => by (obtain ⟨hS0, hS1, hS2, hS3, hS4⟩ := hS; go_simp)⟩) hHeld ?_
          change wpAnyH _ _ _ _ _ _ _ { tmps := #[_, _, _, _, _, _, _, _, _, _, _, _, _, _, _, _, .bool true, .bool true, .int .i64 (k : Int), .int .i64 (r : Int), .bool true, .bool true, .bool true, .pointer (some ⟨w.heap.size, 0, none⟩), .pointer (some ⟨w.heap.size, 2, none⟩), .slice (some ⟨g, off, none⟩) R.length cb, .int .i64 (k : Int), .pointer (some ⟨g, off + k * 2, none⟩), .agg #[.slice n es.length cn, .slice m bs.length cm], .pointer (some ⟨w.heap.size, 0, none⟩), .pointer (some ⟨w.heap.size, 2, none⟩), .slice (some ⟨g, off, none⟩) R.length cb, .int .i64 (r : Int), .pointer (some ⟨g, off + r * 2, none⟩), .agg #[.slice n' fs.length cn', .slice m' cs.length cm'], _, _, _], defers := [] } _
          refine wpAnyH_ready (rs := [19]) (by kernel_rfl) (by simp) ?_
          refine AllReadyH.cons rfl (fun K hK => ?_) AllReadyH.nil
          go_simp
          refine (CC _ (Below.refl _ _).drew).mono ?_
          rintro e w6 ⟨rfl, hb6⟩
          have HW6 := undrew hb6
          have HB6 := btrans hb HW6
          have HK6 := hBX _ HW6
          clear hb6
          go_wp2_with fail
          clear hHeld
          refine hK.out _ _ (by obtain ⟨z0, z1, z2, z3, z4, z5⟩ := blk6 HK6; exact ⟨z2, ble HW6 c1, ble HW6 c2, ble HW6 d1, ble HW6 d2⟩) (fun hHeld => ?_)
          clear hK K
          change wpAnyH _ _ _ _ _ _ _ { tmps := #[_, _, _, _, _, _, _, _, _, _, _, _, _, _, _, _, .bool true, .bool true, .int .i64 (k : Int), .int .i64 (r : Int), .bool true, .bool true, .bool true, .pointer (some ⟨w.heap.size, 0, none⟩), .pointer (some ⟨w.heap.size, 2, none⟩), .slice (some ⟨g, off, none⟩) R.length cb, .int .i64 (k : Int), .pointer (some ⟨g, off + k * 2, none⟩), .agg #[.slice n es.length cn, .slice m bs.length cm], .pointer (some ⟨w.heap.size, 0, none⟩), .pointer (some ⟨w.heap.size, 2, none⟩), .slice (some ⟨g, off, none⟩) R.length cb, .int .i64 (r : Int), .pointer (some ⟨g, off + r * 2, none⟩), .agg #[.slice n' fs.length cn', .slice m' cs.length cm'], .bool false, _, _], defers := [] } _
          refine wpAnyH_take (i := 20) (v := .bool false) rfl (by kernel_rfl) (by kernel_rfl) (by kernel_rfl) (fun _ _ _ h => h) (Or.inl ⟨by kernel_rfl, fun w hS => by (obtain ⟨hS0, hS1, hS2, hS3, hS4⟩ := hS; go_simp)⟩) hHeld ?_
          change wpAnyH _ _ _ _ _ _ _ { tmps := #[_, _, _, _, _, _, _, _, _, _, _, _, _, _, _, _, .bool true, .bool true, .int .i64 (k : Int), .int .i64 (r : Int), .bool true, .bool true, .bool true, .pointer (some ⟨w.heap.size, 0, none⟩), .pointer (some ⟨w.heap.size, 2, none⟩), .slice (some ⟨g, off, none⟩) R.length cb, .int .i64 (k : Int), .pointer (some ⟨g, off + k * 2, none⟩), .agg #[.slice n es.length cn, .slice m bs.length cm], .pointer (some ⟨w.heap.size, 0, none⟩), .pointer (some ⟨w.heap.size, 2, none⟩), .slice (some ⟨g, off, none⟩) R.length cb, .int .i64 (r : Int), .pointer (some ⟨g, off + r * 2, none⟩), .agg #[.slice n' fs.length cn', .slice m' cs.length cm'], .bool false, .bool false, _], defers := [] } _
          refine wpAnyH_done (by kernel_rfl) ?_ _
          all_goals go_wp2
          all_goals exact ⟨⟨k + 1, by omega, by go_num, hf, HB6, HK6⟩, by simp [intOf]; omega⟩
        · have hf := hide (show res = true by rw [← hd2.out]; simp)
          clear hd2
          go_wp2_with fail
          refine wp_region_held_drew (S := (fun w' => w'.cell? ⟨w.heap.size, 2, none⟩ = some (.slice (some ⟨g, off, none⟩) R.length cb) ∧ w'.cell? ⟨g, off + k * 2, none⟩ = some (.slice n es.length cn) ∧ w'.cell? ⟨g, off + k * 2 + 1, none⟩ = some (.slice m bs.length cm) ∧ w'.cell? ⟨g, off + r * 2, none⟩ = some (.slice n' fs.length cn') ∧ w'.cell? ⟨g, off + r * 2 + 1, none⟩ = some (.slice m' cs.length cm'))) (by kernel_rfl) ?_ (fun hHeld => ?_)
          · go_keep
          refine wpAnyH_take (i := 0) (v := .bool true) rfl (by kernel_rfl) (by kernel_rfl) (by kernel_rfl) (fun _ _ _ h => h) (Or.inl ⟨by kernel_rfl, fun w hS => by (obtain ⟨hS0, hS1, hS2, hS3, hS4⟩ := hS; go_simp)⟩) hHeld ?_
          change wpAnyH _ _ _ _ _ _ _ { tmps := #[_, _, _, _, _, _, _, _, _, _, _, _, _, _, _, _, .bool true, _, _, _, _, _, _, _, _, _, _, _, _, _, _, _, _, _, _, _, _, _], defers := [] } _
          refine wpAnyH_take (i := 1) (v := .bool true) rfl (by kernel_rfl) (by kernel_rfl) (by kernel_rfl) (fun _ _ _ h => h) (Or.inl ⟨by kernel_rfl, fun w hS => by (obtain ⟨hS0, hS1, hS2, hS3, hS4⟩ := hS; go_simp)⟩) hHeld ?_
          change wpAnyH _ _ _ _ _ _ _ { tmps := #[_, _, _, _, _, _, _, _, _, _, _, _, _, _, _, _, .bool true, .bool true, _, _, _, _, _, _, _, _, _, _, _, _, _, _, _, _, _, _, _, _], defers := [] } _
          refine wpAnyH_take (i := 2) (v := .int .i64 (k : Int)) rfl (by kernel_rfl) (by kernel_rfl) (by kernel_rfl) (fun _ _ _ h => h) (Or.inl ⟨by kernel_rfl, fun w hS => by (obtain ⟨hS0, hS1, hS2, hS3, hS4⟩ := hS; go_simp)⟩) hHeld ?_
          change wpAnyH _ _ _ _ _ _ _ { tmps := #[_, _, _, _, _, _, _, _, _, _, _, _, _, _, _, _, .bool true, .bool true, .int .i64 (k : Int), _, _, _, _, _, _, _, _, _, _, _, _, _, _, _, _, _, _, _], defers := [] } _
          refine wpAnyH_take (i := 3) (v := .int .i64 (r : Int)) rfl (by kernel_rfl) (by kernel_rfl) (by kernel_rfl) (fun _ _ _ h => h) (Or.inl ⟨by kernel_rfl, fun w hS => by (obtain ⟨hS0, hS1, hS2, hS3, hS4⟩ := hS; go_simp)⟩) hHeld ?_
          change wpAnyH _ _ _ _ _ _ _ { tmps := #[_, _, _, _, _, _, _, _, _, _, _, _, _, _, _, _, .bool true, .bool true, .int .i64 (k : Int), .int .i64 (r : Int), _, _, _, _, _, _, _, _, _, _, _, _, _, _, _, _, _, _], defers := [] } _
          refine wpAnyH_take (i := 4) (v := .bool true) rfl (by kernel_rfl) (by kernel_rfl) (by kernel_rfl) (fun _ _ _ h => h) (Or.inl ⟨by kernel_rfl, fun w hS => by (obtain ⟨hS0, hS1, hS2, hS3, hS4⟩ := hS; go_simp)⟩) hHeld ?_
          change wpAnyH _ _ _ _ _ _ _ { tmps := #[_, _, _, _, _, _, _, _, _, _, _, _, _, _, _, _, .bool true, .bool true, .int .i64 (k : Int), .int .i64 (r : Int), .bool true, _, _, _, _, _, _, _, _, _, _, _, _, _, _, _, _, _], defers := [] } _
          refine wpAnyH_take (i := 5) (v := .bool true) rfl (by kernel_rfl) (by kernel_rfl) (by kernel_rfl) (fun _ _ _ h => h) (Or.inl ⟨by kernel_rfl, fun w hS => by (obtain ⟨hS0, hS1, hS2, hS3, hS4⟩ := hS; go_simp)⟩) hHeld ?_
          change wpAnyH _ _ _ _ _ _ _ { tmps := #[_, _, _, _, _, _, _, _, _, _, _, _, _, _, _, _, .bool true, .bool true, .int .i64 (k : Int), .int .i64 (r : Int), .bool true, .bool true, _, _, _, _, _, _, _, _, _, _, _, _, _, _, _, _], defers := [] } _
          refine wpAnyH_take (i := 6) (v := .bool true) rfl (by kernel_rfl) (by kernel_rfl) (by kernel_rfl) (fun _ _ _ h => h) (Or.inl ⟨by kernel_rfl, fun w hS => by (obtain ⟨hS0, hS1, hS2, hS3, hS4⟩ := hS; go_simp)⟩) hHeld ?_
          change wpAnyH _ _ _ _ _ _ _ { tmps := #[_, _, _, _, _, _, _, _, _, _, _, _, _, _, _, _, .bool true, .bool true, .int .i64 (k : Int), .int .i64 (r : Int), .bool true, .bool true, .bool true, _, _, _, _, _, _, _, _, _, _, _, _, _, _, _], defers := [] } _
          refine wpAnyH_take (i := 7) (v := .pointer (some ⟨w.heap.size, 0, none⟩)) rfl (by kernel_rfl) (by kernel_rfl) (by kernel_rfl) (fun _ _ _ h => h) (Or.inl ⟨by kernel_rfl, fun w hS => by (obtain ⟨hS0, hS1, hS2, hS3, hS4⟩ := hS; go_simp)⟩) hHeld ?_
          change wpAnyH _ _ _ _ _ _ _ { tmps := #[_, _, _, _, _, _, _, _, _, _, _, _, _, _, _, _, .bool true, .bool true, .int .i64 (k : Int), .int .i64 (r : Int), .bool true, .bool true, .bool true, .pointer (some ⟨w.heap.size, 0, none⟩), _, _, _, _, _, _, _, _, _, _, _, _, _, _], defers := [] } _
          refine wpAnyH_take (i := 8) (v := .pointer (some ⟨w.heap.size, 2, none⟩)) rfl (by kernel_rfl) (by kernel_rfl) (by kernel_rfl) (fun _ _ _ h => h) (Or.inl ⟨by kernel_rfl, fun w hS => by (obtain ⟨hS0, hS1, hS2, hS3, hS4⟩ := hS; go_simp)⟩) hHeld ?_
          change wpAnyH _ _ _ _ _ _ _ { tmps := #[_, _, _, _, _, _, _, _, _, _, _, _, _, _, _, _, .bool true, .bool true, .int .i64 (k : Int), .int .i64 (r : Int), .bool true, .bool true, .bool true, .pointer (some ⟨w.heap.size, 0, none⟩), .pointer (some ⟨w.heap.size, 2, none⟩), _, _, _, _, _, _, _, _, _, _, _, _, _], defers := [] } _
          refine wpAnyH_take (i := 9) (v := .slice (some ⟨g, off, none⟩) R.length cb) rfl (by kernel_rfl) (by kernel_rfl) (by kernel_rfl) (fun _ _ _ h => h) (Or.inl ⟨by kernel_rfl, fun w hS => by (obtain ⟨hS0, hS1, hS2, hS3, hS4⟩ := hS; go_simp)⟩) hHeld ?_
          change wpAnyH _ _ _ _ _ _ _ { tmps := #[_, _, _, _, _, _, _, _, _, _, _, _, _, _, _, _, .bool true, .bool true, .int .i64 (k : Int), .int .i64 (r : Int), .bool true, .bool true, .bool true, .pointer (some ⟨w.heap.size, 0, none⟩), .pointer (some ⟨w.heap.size, 2, none⟩), .slice (some ⟨g, off, none⟩) R.length cb, _, _, _, _, _, _, _, _, _, _, _, _], defers := [] } _
          refine wpAnyH_take (i := 10) (v := .int .i64 (k : Int)) rfl (by kernel_rfl) (by kernel_rfl) (by kernel_rfl) (fun _ _ _ h => h) (Or.inl ⟨by kernel_rfl, fun w hS => by (obtain ⟨hS0, hS1, hS2, hS3, hS4⟩ := hS; go_simp)⟩) hHeld ?_
          change wpAnyH _ _ _ _ _ _ _ { tmps := #[_, _, _, _, _, _, _, _, _, _, _, _, _, _, _, _, .bool true, .bool true, .int .i64 (k : Int), .int .i64 (r : Int), .bool true, .bool true, .bool true, .pointer (some ⟨w.heap.size, 0, none⟩), .pointer (some ⟨w.heap.size, 2, none⟩), .slice (some ⟨g, off, none⟩) R.length cb, .int .i64 (k : Int), _, _, _, _, _, _, _, _, _, _, _], defers := [] } _
          refine wpAnyH_take (i := 11) (v := .pointer (some ⟨g, off + k * 2, none⟩)) rfl (by kernel_rfl) (by kernel_rfl) (by kernel_rfl) (fun _ _ _ h => h) (Or.inl ⟨by kernel_rfl, fun w hS => by (obtain ⟨hS0, hS1, hS2, hS3, hS4⟩ := hS; go_simp)⟩) hHeld ?_
          change wpAnyH _ _ _ _ _ _ _ { tmps := #[_, _, _, _, _, _, _, _, _, _, _, _, _, _, _, _, .bool true, .bool true, .int .i64 (k : Int), .int .i64 (r : Int), .bool true, .bool true, .bool true, .pointer (some ⟨w.heap.size, 0, none⟩), .pointer (some ⟨w.heap.size, 2, none⟩), .slice (some ⟨g, off, none⟩) R.length cb, .int .i64 (k : Int), .pointer (some ⟨g, off + k * 2, none⟩), _, _, _, _, _, _, _, _, _, _], defers := [] } _
          refine wpAnyH_take (i := 12) (v := .agg #[.slice n es.length cn, .slice m bs.length cm]) rfl (by kernel_rfl) (by kernel_rfl) (by kernel_rfl) (fun _ _ _ h => h) (Or.inl ⟨by kernel_rfl, fun w hS => by (obtain ⟨hS0, hS1, hS2, hS3, hS4⟩ := hS; go_simp)⟩) hHeld ?_
          change wpAnyH _ _ _ _ _ _ _ { tmps := #[_, _, _, _, _, _, _, _, _, _, _, _, _, _, _, _, .bool true, .bool true, .int .i64 (k : Int), .int .i64 (r : Int), .bool true, .bool true, .bool true, .pointer (some ⟨w.heap.size, 0, none⟩), .pointer (some ⟨w.heap.size, 2, none⟩), .slice (some ⟨g, off, none⟩) R.length cb, .int .i64 (k : Int), .pointer (some ⟨g, off + k * 2, none⟩), .agg #[.slice n es.length cn, .slice m bs.length cm], _, _, _, _, _, _, _, _, _], defers := [] } _
          refine wpAnyH_take (i := 13) (v := .pointer (some ⟨w.heap.size, 0, none⟩)) rfl (by kernel_rfl) (by kernel_rfl) (by kernel_rfl) (fun _ _ _ h => h) (Or.inl ⟨by kernel_rfl, fun w hS => by (obtain ⟨hS0, hS1, hS2, hS3, hS4⟩ := hS; go_simp)⟩) hHeld ?_
          change wpAnyH _ _ _ _ _ _ _ { tmps := #[_, _, _, _, _, _, _, _, _, _, _, _, _, _, _, _, .bool true, .bool true, .int .i64 (k : Int), .int .i64 (r : Int), .bool true, .bool true, .bool true, .pointer (some ⟨w.heap.size, 0, none⟩), .pointer (some ⟨w.heap.size, 2, none⟩), .slice (some ⟨g, off, none⟩) R.length cb, .int .i64 (k : Int), .pointer (some ⟨g, off + k * 2, none⟩), .agg #[.slice n es.length cn, .slice m bs.length cm], .pointer (some ⟨w.heap.size, 0, none⟩), _, _, _, _, _, _, _, _], defers := [] } _
          refine wpAnyH_take (i := 14) (v := .pointer (some ⟨w.heap.size, 2, none⟩)) rfl (by kernel_rfl) (by kernel_rfl) (by kernel_rfl) (fun _ _ _ h => h) (Or.inl ⟨by kernel_rfl, fun w hS => by (obtain ⟨hS0, hS1, hS2, hS3, hS4⟩ := hS; go_simp)⟩) hHeld ?_
          change wpAnyH _ _ _ _ _ _ _ { tmps := #[_, _, _, _, _, _, _, _, _, _, _, _, _, _, _, _, .bool true, .bool true, .int .i64 (k : Int), .int .i64 (r : Int), .bool true, .bool true, .bool true, .pointer (some ⟨w.heap.size, 0, none⟩), .pointer (some ⟨w.heap.size, 2, none⟩), .slice (some ⟨g, off, none⟩) R.length cb, .int .i64 (k : Int), .pointer (some ⟨g, off + k * 2, none⟩), .agg #[.slice n es.length cn, .slice m bs.length cm], .pointer (some ⟨w.heap.size, 0, none⟩), .pointer (some ⟨w.heap.size, 2, none⟩), _, _, _, _, _, _, _], defers := [] } _
          refine wpAnyH_take (i := 15) (v := .slice (some ⟨g, off, none⟩) R.length cb) rfl (by kernel_rfl) (by kernel_rfl) (by kernel_rfl) (fun _ _ _ h => h) (Or.inl ⟨by kernel_rfl, fun w hS => by (obtain ⟨hS0, hS1, hS2, hS3, hS4⟩ := hS; go_simp)⟩) hHeld ?_
          change wpAnyH _ _ _ _ _ _ _ { tmps := #[_, _, _, _, _, _, _, _, _, _, _, _, _, _, _, _, .bool true, .bool true, .int .i64 (k : Int), .int .i64 (r : Int), .bool true, .bool true, .bool true, .pointer (some ⟨w.heap.size, 0, none⟩), .pointer (some ⟨w.heap.size, 2, none⟩), .slice (some ⟨g, off, none⟩) R.length cb, .int .i64 (k : Int), .pointer (some ⟨g, off + k * 2, none⟩), .agg #[.slice n es.length cn, .slice m bs.length cm], .pointer (some ⟨w.heap.size, 0, none⟩), .pointer (some ⟨w.heap.size, 2, none⟩), .slice (some ⟨g, off, none⟩) R.length cb, _, _, _, _, _, _], defers := [] } _
          refine wpAnyH_take (i := 16) (v := .int .i64 (r : Int)) rfl (by kernel_rfl) (by kernel_rfl) (by kernel_rfl) (fun _ _ _ h => h) (Or.inl ⟨by kernel_rfl, fun w hS => by (obtain ⟨hS0, hS1, hS2, hS3, hS4⟩ := hS; go_simp)⟩) hHeld ?_
          change wpAnyH _ _ _ _ _ _ _ { tmps := #[_, _, _, _, _, _, _, _, _, _, _, _, _, _, _, _, .bool true, .bool true, .int .i64 (k : Int), .int .i64 (r : Int), .bool true, .bool true, .bool true, .pointer (some ⟨w.heap.size, 0, none⟩), .pointer (some ⟨w.heap.size, 2, none⟩), .slice (some ⟨g, off, none⟩) R.length cb, .int .i64 (k : Int), .pointer (some ⟨g, off + k * 2, none⟩), .agg #[.slice n es.length cn, .slice m bs.length cm], .pointer (some ⟨w.heap.size, 0, none⟩), .pointer (some ⟨w.heap.size, 2, none⟩), .slice (some ⟨g, off, none⟩) R.length cb, .int .i64 (r : Int), _, _, _, _, _], defers := [] } _
          refine wpAnyH_take (i := 17) (v := .pointer (some ⟨g, off + r * 2, none⟩)) rfl (by kernel_rfl) (by kernel_rfl) (by kernel_rfl) (fun _ _ _ h => h) (Or.inl ⟨by kernel_rfl, fun w hS => by (obtain ⟨hS0, hS1, hS2, hS3, hS4⟩ := hS; go_simp)⟩) hHeld ?_
          change wpAnyH _ _ _ _ _ _ _ { tmps := #[_, _, _, _, _, _, _, _, _, _, _, _, _, _, _, _, .bool true, .bool true, .int .i64 (k : Int), .int .i64 (r : Int), .bool true, .bool true, .bool true, .pointer (some ⟨w.heap.size, 0, none⟩), .pointer (some ⟨w.heap.size, 2, none⟩), .slice (some ⟨g, off, none⟩) R.length cb, .int .i64 (k : Int), .pointer (some ⟨g, off + k * 2, none⟩), .agg #[.slice n es.length cn, .slice m bs.length cm], .pointer (some ⟨w.heap.size, 0, none⟩), .pointer (some ⟨w.heap.size, 2, none⟩), .slice (some ⟨g, off, none⟩) R.length cb, .int .i64 (r : Int), .pointer (some ⟨g, off + r * 2, none⟩), _, _, _, _], defers := [] } _
          refine wpAnyH_take (i := 18) (v := .agg #[.slice n' fs.length cn', .slice m' cs.length cm']) rfl (by kernel_rfl) (by kernel_rfl) (by kernel_rfl) (fun _ _ _ h => h) (Or.inl ⟨by kernel_rfl, fun w hS => by (obtain ⟨hS0, hS1, hS2, hS3, hS4⟩ := hS; go_simp)⟩) hHeld ?_
          change wpAnyH _ _ _ _ _ _ _ { tmps := #[_, _, _, _, _, _, _, _, _, _, _, _, _, _, _, _, .bool true, .bool true, .int .i64 (k : Int), .int .i64 (r : Int), .bool true, .bool true, .bool true, .pointer (some ⟨w.heap.size, 0, none⟩), .pointer (some ⟨w.heap.size, 2, none⟩), .slice (some ⟨g, off, none⟩) R.length cb, .int .i64 (k : Int), .pointer (some ⟨g, off + k * 2, none⟩), .agg #[.slice n es.length cn, .slice m bs.length cm], .pointer (some ⟨w.heap.size, 0, none⟩), .pointer (some ⟨w.heap.size, 2, none⟩), .slice (some ⟨g, off, none⟩) R.length cb, .int .i64 (r : Int), .pointer (some ⟨g, off + r * 2, none⟩), .agg #[.slice n' fs.length cn', .slice m' cs.length cm'], _, _, _], defers := [] } _
          refine wpAnyH_ready (rs := [19]) (by kernel_rfl) (by simp) ?_
          refine AllReadyH.cons rfl (fun K hK => ?_) AllReadyH.nil
          go_simp
          refine (CC _ (Below.refl _ _).drew).mono ?_
          rintro e w6 ⟨rfl, hb6⟩
          have HW6 := undrew hb6
          have HB6 := btrans hb HW6
          have HK6 := hBX _ HW6
          clear hb6
          go_wp2_with fail
          clear hHeld
          refine hK.out _ _ (by obtain ⟨z0, z1, z2, z3, z4, z5⟩ := blk6 HK6; exact ⟨z2, ble HW6 c1, ble HW6 c2, ble HW6 d1, ble HW6 d2⟩) (fun hHeld => ?_)
          clear hK K
          change wpAnyH _ _ _ _ _ _ _ { tmps := #[_, _, _, _, _, _, _, _, _, _, _, _, _, _, _, _, .bool true, .bool true, .int .i64 (k : Int), .int .i64 (r : Int), .bool true, .bool true, .bool true, .pointer (some ⟨w.heap.size, 0, none⟩), .pointer (some ⟨w.heap.size, 2, none⟩), .slice (some ⟨g, off, none⟩) R.length cb, .int .i64 (k : Int), .pointer (some ⟨g, off + k * 2, none⟩), .agg #[.slice n es.length cn, .slice m bs.length cm], .pointer (some ⟨w.heap.size, 0, none⟩), .pointer (some ⟨w.heap.size, 2, none⟩), .slice (some ⟨g, off, none⟩) R.length cb, .int .i64 (r : Int), .pointer (some ⟨g, off + r * 2, none⟩), .agg #[.slice n' fs.length cn', .slice m' cs.length cm'], .bool true, _, _], defers := [] } _
          refine wpAnyH_take (i := 20) (v := .bool true) rfl (by kernel_rfl) (by kernel_rfl) (by kernel_rfl) (fun _ _ _ h => h) (Or.inl ⟨by kernel_rfl, fun w hS => by (obtain ⟨hS0, hS1, hS2, hS3, hS4⟩ := hS; go_simp)⟩) hHeld ?_
          change wpAnyH _ _ _ _ _ _ _ { tmps := #[_, _, _, _, _, _, _, _, _, _, _, _, _, _, _, _, .bool true, .bool true, .int .i64 (k : Int), .int .i64 (r : Int), .bool true, .bool true, .bool true, .pointer (some ⟨w.heap.size, 0, none⟩), .pointer (some ⟨w.heap.size, 2, none⟩), .slice (some ⟨g, off, none⟩) R.length cb, .int .i64 (k : Int), .pointer (some ⟨g, off + k * 2, none⟩), .agg #[.slice n es.length cn, .slice m bs.length cm], .pointer (some ⟨w.heap.size, 0, none⟩), .pointer (some ⟨w.heap.size, 2, none⟩), .slice (some ⟨g, off, none⟩) R.length cb, .int .i64 (r : Int), .pointer (some ⟨g, off + r * 2, none⟩), .agg #[.slice n' fs.length cn', .slice m' cs.length cm'], .bool true, .bool true, _], defers := [] } _
          refine wpAnyH_done (by kernel_rfl) ?_ _
          all_goals go_wp2
          all_goals go_ret
          all_goals exact ⟨ret_bool hf.out.symm, HB6⟩
    · obtain rfl : k = se.length := by omega
      have hf := hide (show res = false by rw [← hres.out, List.drop_of_length_le (by simp)]; rfl)
      clear hy hat
      go_wp2
      go_ret
      exact ⟨ret_bool hf.out.symm, hb⟩
end Go.Proofs.Ytpgjllefhlanpaa
