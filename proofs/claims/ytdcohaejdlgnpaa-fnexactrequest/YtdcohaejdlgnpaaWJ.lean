/- The walk of the law on Request. -/
import Derived.Test.YtdcohaejdlgnpaaWA
import Derived.Test.YtdcohaejdlgnpaaMW
import Derived.Test.YtdcohaejdlgnpaaLT
import Derived.Test.YtdcohaejdlgnpaaGT
import Derived.Test.YtdcohaejdlgnpaaST2
import Derived.Deep.Cut
namespace Go.Proofs.Ytdcohaejdlgnpaa
open Go.RowKit

set_option maxRecDepth 20000 in
set_option maxHeartbeats 12800000 in
theorem walkReq (v : Int) (a b x y z : Option Addr) (ca cb cx cy cz : Nat) (p : PlantV) (l : LockV) (w : World) (hP : PlantIn w a b p) (hB : Big p) (hL : LockIn w x y z l) (hC : LBig l) :
    Calls Try.prog 7 #[plantVal a ca b cb p, lockVal x cx y cy z cz l, .int .i64 v] w fun e w' => e = .returned (.bool true) ∧ Below w.heap.size w w' := by
  have CZ := fun w hP => cSzPlant a b ca cb p w hP hB
  have CY := fun r w h0 h1 => cSzLock x y z cx cy cz l r w hC h0 h1
  have CT := fun w hP hS => cToPlant a b ca cb p w hP hS
  have CU := fun w hL hS => cToLock x y z cx cy cz l w hL hS
  have CE := fun a1 b1 a2 b2 p1 q1 p2 q2 w h1 h2 hS => cEqPlant a1 b1 a2 b2 p1 q1 p2 q2 p w h1 h2 hS
  have CF := fun a1 b1 c1 a2 b2 c2 p1 q1 r1 p2 q2 r2 w h1 h2 hS => cEqLock a1 b1 c1 a2 b2 c2 p1 q1 r1 p2 q2 r2 l w h1 h2 hS
  have CG := fun a1 b1 c1 a2 b2 c2 p1 q1 r1 p2 q2 r2 w h1 h2 hS => cEqLock a1 b1 c1 a2 b2 c2 p1 q1 r1 p2 q2 r2 (opL .req p l v) w h1 h2 hS
  have CS := fun a b x y z ca cb cx cy cz w hP hL hS hT => cReqS v a b x y z ca cb cx cy cz p l w hP hL hS hT
  have CI := fun a b x y z ca cb cx cy cz w hP hL hx hy hz hS hT => cReqI v a b x y z ca cb cx cy cz p l w hP hL hx hy hz hS hT
  have CM := fun lo hi ca cb a b w h hS hs => cMarkPlant2 lo hi ca cb a b p w h hS hs
  have CN := fun lo hi ca cb cc a b c q w h hS h0 h1 => cMarkLockW lo hi ca cb cc a b c l q w h hS h0 h1
  have CO := fun lo hi ca cb cc a b c w h hS => cMarkLock lo hi ca cb cc a b c (opL .req p l v) 1 w h hS (by omega) (by omega)
  have CH := fun ca cb cc a b c w h hS => cHeldLock ca cb cc a b c (opL .req p l v) 1 w h hS (by omega) (by omega)
  obtain ⟨ln1, ln2, ln3⟩ := opL_len .req p l v
  have hT' : LSmall l → LSmall (opL .req p l v) := fun h => ⟨by rw [ln1]; exact h.pos, by rw [ln2]; exact h.set, by rw [ln3]; exact h.taken⟩
  clear ln1 ln2 ln3
  generalize opL .req p l v = l' at *
  generalize opC .req p l v = c' at *
  unfold plantVal lockVal at *
  have HB := btrans (balloc w (.cells #[.slice a p.under.length ca, .int .i64 p.blocks, .slice b p.routes.length cb] 25)) (balloc _ (.cells #[.slice x l.pos.length cx, .slice y l.set.length cy, .slice z l.taken.length cz] 43))
  have A0 : ((w.alloc (.cells #[.slice a p.under.length ca, .int .i64 p.blocks, .slice b p.routes.length cb] 25)).alloc (.cells #[.slice x l.pos.length cx, .slice y l.set.length cy, .slice z l.taken.length cz] 43)).heap[w.heap.size]? = some (.cells #[.slice a p.under.length ca, .int .i64 p.blocks, .slice b p.routes.length cb] 25 (0, 0)) := two_blocks1 _ _ _
  have A1 : ((w.alloc (.cells #[.slice a p.under.length ca, .int .i64 p.blocks, .slice b p.routes.length cb] 25)).alloc (.cells #[.slice x l.pos.length cx, .slice y l.set.length cy, .slice z l.taken.length cz] 43)).heap[w.heap.size + 1]? = some (.cells #[.slice x l.pos.length cx, .slice y l.set.length cy, .slice z l.taken.length cz] 43 (0, 0)) := two_blocks2 _ _ _
  go_enter Try.func7, Try.ntmps7
  go_wp2_with fail
  refine (CZ _ (hP.below HB)).mono ?_
  rintro e w1 ⟨r, rfl, hr, hb⟩
  replace A0 := blk_keep hb A0
  replace A1 := blk_keep hb A1
  replace HB := btrans HB hb
  have s1 := hb.size
  try simp only [sz1] at s1
  clear hb
  rcases hr with rfl | ⟨hr0, hr1, hS⟩
  · go_wp2
    go_ret
    exact ⟨rfl, HB⟩
  have hr2 : ¬ (r < 0) := by omega
  clear CZ
  obtain ⟨⟨x1_0, x1_1, x1_2⟩, -⟩ := blk3 A1
  go_wp2_with fail
  clear x1_0 x1_1 x1_2
  refine (CY r _ hr0 hr1).mono ?_
  rintro e w2 ⟨r2, rfl, hr, hb⟩
  replace A0 := blk_keep hb A0
  replace A1 := blk_keep hb A1
  replace HB := btrans HB hb
  have s2 := hb.size
  try simp only [sz1] at s2
  clear hb
  rcases hr with rfl | ⟨hr3, hT⟩
  · go_wp2
    go_ret
    exact ⟨rfl, HB⟩
  have hr4 : ¬ (r2 < 0) := by omega
  clear CY hr2
  replace hT' := hT' hT
  obtain ⟨⟨x2_0, x2_1, x2_2⟩, -⟩ := blk3 A0
  obtain ⟨⟨x3_0, x3_1, x3_2⟩, -⟩ := blk3 A1
  go_upto_region 8 with fail
  go_cut [8, 9] from 38 (fun sv cv wc => GotL w2 l' c' sv cv wc)
  case first =>
    refine wp_region_held_drew (S := (fun w' => w'.cell? ⟨w.heap.size, 0, none⟩ = some (.slice a p.under.length ca) ∧ w'.cell? ⟨w.heap.size, 1, none⟩ = some (.int .i64 p.blocks) ∧ w'.cell? ⟨w.heap.size, 2, none⟩ = some (.slice b p.routes.length cb) ∧ w'.cell? ⟨w.heap.size + 1, 0, none⟩ = some (.slice x l.pos.length cx) ∧ w'.cell? ⟨w.heap.size + 1, 1, none⟩ = some (.slice y l.set.length cy) ∧ w'.cell? ⟨w.heap.size + 1, 2, none⟩ = some (.slice z l.taken.length cz))) (by kernel_rfl) ?_ (fun hHeld => ?_)
    · go_keep
    have B0 : Below w2.heap.size w2 w2.drew := (Below.refl _ _).drew
    refine wpAnyH_take (i := 0) (v := .agg #[.slice a p.under.length ca, .int .i64 p.blocks, .slice b p.routes.length cb]) rfl (by kernel_rfl) (by kernel_rfl) (by kernel_rfl) (fun _ _ _ h => h) (Or.inl ⟨by kernel_rfl, fun w hS => by (obtain ⟨hS0, hS1, hS2, hS3, hS4, hS5⟩ := hS; go_simp)⟩) hHeld ?_
    change wpAnyH _ _ _ _ _ _ _ { tmps := #[_, _, _, _, _, _, _, _, _, _, _, _, _, _, _, _, _, _, _, _, _, _, _, _, _, _, _, _, _, _, .agg #[.slice a p.under.length ca, .int .i64 p.blocks, .slice b p.routes.length cb], _, _, _, _, _, _, _, _, _, _, _, _, _, _, _, _, _, _, _, _, _, _, _, _, _, _, _, _, _, _, _, _, _, _, _, _, _, _, _, _, _, _, _, _, _, _, _, _, _, _, _, _, _, _, _, _, _, _, _, _, _, _, _, _, _, _, _, _, _, _, _, _, _, _, _, _, _, _, _, _, _, _, _, _, _, _, _, _, _, _, _, _, _], defers := [] } _
    refine wpAnyH_take (i := 2) (v := .agg #[.slice x l.pos.length cx, .slice y l.set.length cy, .slice z l.taken.length cz]) rfl (by kernel_rfl) (by kernel_rfl) (by kernel_rfl) (fun _ _ _ h => h) (Or.inl ⟨by kernel_rfl, fun w hS => by (obtain ⟨hS0, hS1, hS2, hS3, hS4, hS5⟩ := hS; go_simp)⟩) hHeld ?_
    change wpAnyH _ _ _ _ _ _ _ { tmps := #[_, _, _, _, _, _, _, _, _, _, _, _, _, _, _, _, _, _, _, _, _, _, _, _, _, _, _, _, _, _, .agg #[.slice a p.under.length ca, .int .i64 p.blocks, .slice b p.routes.length cb], _, .agg #[.slice x l.pos.length cx, .slice y l.set.length cy, .slice z l.taken.length cz], _, _, _, _, _, _, _, _, _, _, _, _, _, _, _, _, _, _, _, _, _, _, _, _, _, _, _, _, _, _, _, _, _, _, _, _, _, _, _, _, _, _, _, _, _, _, _, _, _, _, _, _, _, _, _, _, _, _, _, _, _, _, _, _, _, _, _, _, _, _, _, _, _, _, _, _, _, _, _, _, _, _, _, _, _, _, _, _, _, _, _], defers := [] } _
    refine wpAnyH_take (i := 4) (v := .int .i64 v) rfl (by kernel_rfl) (by kernel_rfl) (by kernel_rfl) (fun _ _ _ h => h) (Or.inl ⟨by kernel_rfl, fun w hS => by (obtain ⟨hS0, hS1, hS2, hS3, hS4, hS5⟩ := hS; go_simp)⟩) hHeld ?_
    change wpAnyH _ _ _ _ _ _ _ { tmps := #[_, _, _, _, _, _, _, _, _, _, _, _, _, _, _, _, _, _, _, _, _, _, _, _, _, _, _, _, _, _, .agg #[.slice a p.under.length ca, .int .i64 p.blocks, .slice b p.routes.length cb], _, .agg #[.slice x l.pos.length cx, .slice y l.set.length cy, .slice z l.taken.length cz], _, .int .i64 v, _, _, _, _, _, _, _, _, _, _, _, _, _, _, _, _, _, _, _, _, _, _, _, _, _, _, _, _, _, _, _, _, _, _, _, _, _, _, _, _, _, _, _, _, _, _, _, _, _, _, _, _, _, _, _, _, _, _, _, _, _, _, _, _, _, _, _, _, _, _, _, _, _, _, _, _, _, _, _, _, _, _, _, _, _, _, _, _, _], defers := [] } _
    refine wpAnyH_ready (rs := [1, 9]) (by kernel_rfl) (by simp) ?_
    refine AllReadyH.cons rfl (fun K hK => ?_) (AllReadyH.cons rfl (fun K hK => ?_) AllReadyH.nil)
    · skip
      go_simp
      refine (CT _ (hP.below (btrans HB B0)) hS).mono ?_
      rintro e wp ⟨a1, c1, b1, d1, rfl, P1, hb⟩
      have Bp := btrans B0 hb
      have sp := hb.size
      try rw [sz1] at sp
      try rw [szd] at sp
      have P1r := P1.read
      clear hb hHeld
      go_wp2_with fail
      refine hK.out _ _ (by obtain ⟨⟨k0, k1, k2⟩, -⟩ := blk3 (blk_keep Bp A0); obtain ⟨⟨k3, k4, k5⟩, -⟩ := blk3 (blk_keep Bp A1); exact ⟨k0, k1, k2, k3, k4, k5⟩) (fun hHeld => ?_)
      clear hK K
      change wpAnyH _ _ _ _ _ _ _ { tmps := #[_, _, _, _, _, _, _, _, _, _, _, _, _, _, _, _, _, _, _, _, _, _, _, _, _, _, _, _, _, _, .agg #[.slice a p.under.length ca, .int .i64 p.blocks, .slice b p.routes.length cb], .agg #[.slice a1 p.under.length c1, .int .i64 p.blocks, .slice b1 p.routes.length d1], .agg #[.slice x l.pos.length cx, .slice y l.set.length cy, .slice z l.taken.length cz], _, .int .i64 v, _, _, _, _, _, _, _, _, _, _, _, _, _, _, _, _, _, _, _, _, _, _, _, _, _, _, _, _, _, _, _, _, _, _, _, _, _, _, _, _, _, _, _, _, _, _, _, _, _, _, _, _, _, _, _, _, _, _, _, _, _, _, _, _, _, _, _, _, _, _, _, _, _, _, _, _, _, _, _, _, _, _, _, _, _, _, _, _, _], defers := [] } _
      refine wpAnyH_ready (rs := [3, 9]) (by kernel_rfl) (by simp) ?_
      refine AllReadyH.cons rfl (fun K hK => ?_) (AllReadyH.cons rfl (fun K hK => ?_) AllReadyH.nil)
      · skip
        go_simp
        refine (CU _ (hL.below (btrans HB Bp)) hT).mono ?_
        rintro e wq ⟨x9, cx9, y9, cy9, z9, cz9, rfl, L1, hb, hpl1, hpl2, hpl3, hpl4, hpl5, hpl6⟩
        have Bq := btrans Bp hb
        have sq := hb.size
        try rw [sz1] at sq
        try rw [szd] at sq
        have P1r := P1r.below hb
        have L1r := L1.read
        clear hb hHeld
        go_wp2_with fail
        refine hK.out _ _ (by obtain ⟨⟨k0, k1, k2⟩, -⟩ := blk3 (blk_keep Bq A0); obtain ⟨⟨k3, k4, k5⟩, -⟩ := blk3 (blk_keep Bq A1); exact ⟨k0, k1, k2, k3, k4, k5⟩) (fun hHeld => ?_)
        clear hK K
        change wpAnyH _ _ _ _ _ _ _ { tmps := #[_, _, _, _, _, _, _, _, _, _, _, _, _, _, _, _, _, _, _, _, _, _, _, _, _, _, _, _, _, _, .agg #[.slice a p.under.length ca, .int .i64 p.blocks, .slice b p.routes.length cb], .agg #[.slice a1 p.under.length c1, .int .i64 p.blocks, .slice b1 p.routes.length d1], .agg #[.slice x l.pos.length cx, .slice y l.set.length cy, .slice z l.taken.length cz], .agg #[.slice x9 l.pos.length cx9, .slice y9 l.set.length cy9, .slice z9 l.taken.length cz9], .int .i64 v, _, _, _, _, _, _, _, _, _, _, _, _, _, _, _, _, _, _, _, _, _, _, _, _, _, _, _, _, _, _, _, _, _, _, _, _, _, _, _, _, _, _, _, _, _, _, _, _, _, _, _, _, _, _, _, _, _, _, _, _, _, _, _, _, _, _, _, _, _, _, _, _, _, _, _, _, _, _, _, _, _, _, _, _, _, _, _, _, _], defers := [] } _
        refine wpAnyH_ready (rs := [5, 9]) (by kernel_rfl) (by simp) ?_
        refine AllReadyH.cons rfl (fun K hK => ?_) (AllReadyH.cons rfl (fun K hK => ?_) AllReadyH.nil)
        · skip
          go_simp
          refine (CS _ _ _ _ _ _ _ _ _ _ _ P1r L1r hS hT).mono ?_
          rintro e wf ⟨x8, cx8, y8, cy8, z8, cz8, rfl, O8, hb⟩
          have Bf := btrans Bq hb
          have s8 := hb.size
          try rw [sz1] at s8
          try rw [szd] at s8
          try rw [sz1] at O8
          clear hb hHeld
          go_wp2_with fail
          refine hK.out _ _ (by obtain ⟨⟨k0, k1, k2⟩, -⟩ := blk3 (blk_keep Bf A0); obtain ⟨⟨k3, k4, k5⟩, -⟩ := blk3 (blk_keep Bf A1); exact ⟨k0, k1, k2, k3, k4, k5⟩) (fun hHeld => ?_)
          clear hK K
          change wpAnyH _ _ _ _ _ _ _ { tmps := #[_, _, _, _, _, _, _, _, _, _, _, _, _, _, _, _, _, _, _, _, _, _, _, _, _, _, _, _, _, _, .agg #[.slice a p.under.length ca, .int .i64 p.blocks, .slice b p.routes.length cb], .agg #[.slice a1 p.under.length c1, .int .i64 p.blocks, .slice b1 p.routes.length d1], .agg #[.slice x l.pos.length cx, .slice y l.set.length cy, .slice z l.taken.length cz], .agg #[.slice x9 l.pos.length cx9, .slice y9 l.set.length cy9, .slice z9 l.taken.length cz9], .int .i64 v, .tuple #[.agg #[.slice x8 l'.pos.length cx8, .slice y8 l'.set.length cy8, .slice z8 l'.taken.length cz8], .int .i64 c'], _, _, _, _, _, _, _, _, _, _, _, _, _, _, _, _, _, _, _, _, _, _, _, _, _, _, _, _, _, _, _, _, _, _, _, _, _, _, _, _, _, _, _, _, _, _, _, _, _, _, _, _, _, _, _, _, _, _, _, _, _, _, _, _, _, _, _, _, _, _, _, _, _, _, _, _, _, _, _, _, _, _, _, _, _, _, _, _], defers := [] } _
          refine wpAnyH_take (i := 6) (v := .tuple #[.agg #[.slice x8 l'.pos.length cx8, .slice y8 l'.set.length cy8, .slice z8 l'.taken.length cz8], .int .i64 c']) rfl (by kernel_rfl) (by kernel_rfl) (by kernel_rfl) (fun _ _ _ h => h) (Or.inl ⟨by kernel_rfl, fun w hS => by (obtain ⟨hS0, hS1, hS2, hS3, hS4, hS5⟩ := hS; go_simp)⟩) hHeld ?_
          change wpAnyH _ _ _ _ _ _ _ { tmps := #[_, _, _, _, _, _, _, _, _, _, _, _, _, _, _, _, _, _, _, _, _, _, _, _, _, _, _, _, _, .tuple #[.agg #[.slice x8 l'.pos.length cx8, .slice y8 l'.set.length cy8, .slice z8 l'.taken.length cz8], .int .i64 c'], .agg #[.slice a p.under.length ca, .int .i64 p.blocks, .slice b p.routes.length cb], .agg #[.slice a1 p.under.length c1, .int .i64 p.blocks, .slice b1 p.routes.length d1], .agg #[.slice x l.pos.length cx, .slice y l.set.length cy, .slice z l.taken.length cz], .agg #[.slice x9 l.pos.length cx9, .slice y9 l.set.length cy9, .slice z9 l.taken.length cz9], .int .i64 v, .tuple #[.agg #[.slice x8 l'.pos.length cx8, .slice y8 l'.set.length cy8, .slice z8 l'.taken.length cz8], .int .i64 c'], _, _, _, _, _, _, _, _, _, _, _, _, _, _, _, _, _, _, _, _, _, _, _, _, _, _, _, _, _, _, _, _, _, _, _, _, _, _, _, _, _, _, _, _, _, _, _, _, _, _, _, _, _, _, _, _, _, _, _, _, _, _, _, _, _, _, _, _, _, _, _, _, _, _, _, _, _, _, _, _, _, _, _, _, _, _, _, _], defers := [] } _
          refine wpAnyH_take (i := 7) (v := .agg #[.slice x8 l'.pos.length cx8, .slice y8 l'.set.length cy8, .slice z8 l'.taken.length cz8]) rfl (by kernel_rfl) (by kernel_rfl) (by kernel_rfl) (fun _ _ _ h => h) (Or.inl ⟨by kernel_rfl, fun w hS => by (obtain ⟨hS0, hS1, hS2, hS3, hS4, hS5⟩ := hS; go_simp)⟩) hHeld ?_
          change wpAnyH _ _ _ _ _ _ _ { tmps := #[_, _, _, _, _, _, _, _, _, _, _, _, _, _, _, _, _, _, _, _, _, _, _, _, _, _, _, _, _, .tuple #[.agg #[.slice x8 l'.pos.length cx8, .slice y8 l'.set.length cy8, .slice z8 l'.taken.length cz8], .int .i64 c'], .agg #[.slice a p.under.length ca, .int .i64 p.blocks, .slice b p.routes.length cb], .agg #[.slice a1 p.under.length c1, .int .i64 p.blocks, .slice b1 p.routes.length d1], .agg #[.slice x l.pos.length cx, .slice y l.set.length cy, .slice z l.taken.length cz], .agg #[.slice x9 l.pos.length cx9, .slice y9 l.set.length cy9, .slice z9 l.taken.length cz9], .int .i64 v, .tuple #[.agg #[.slice x8 l'.pos.length cx8, .slice y8 l'.set.length cy8, .slice z8 l'.taken.length cz8], .int .i64 c'], .agg #[.slice x8 l'.pos.length cx8, .slice y8 l'.set.length cy8, .slice z8 l'.taken.length cz8], _, _, _, _, _, _, _, _, _, _, _, _, _, _, _, _, _, _, _, _, _, _, _, _, _, _, _, _, _, _, _, _, _, _, _, _, _, _, _, _, _, _, _, _, _, _, _, _, _, _, _, _, _, _, _, _, _, _, _, _, _, _, _, _, _, _, _, _, _, _, _, _, _, _, _, _, _, _, _, _, _, _, _, _, _, _, _], defers := [] } _
          refine wpAnyH_take (i := 8) (v := .int .i64 c') rfl (by kernel_rfl) (by kernel_rfl) (by kernel_rfl) (fun _ _ _ h => h) (Or.inl ⟨by kernel_rfl, fun w hS => by (obtain ⟨hS0, hS1, hS2, hS3, hS4, hS5⟩ := hS; go_simp)⟩) hHeld ?_
          change wpAnyH _ _ _ _ _ _ _ { tmps := #[_, _, _, _, _, _, _, _, _, _, _, _, _, _, _, _, _, _, _, _, _, _, _, _, _, _, _, _, _, .tuple #[.agg #[.slice x8 l'.pos.length cx8, .slice y8 l'.set.length cy8, .slice z8 l'.taken.length cz8], .int .i64 c'], .agg #[.slice a p.under.length ca, .int .i64 p.blocks, .slice b p.routes.length cb], .agg #[.slice a1 p.under.length c1, .int .i64 p.blocks, .slice b1 p.routes.length d1], .agg #[.slice x l.pos.length cx, .slice y l.set.length cy, .slice z l.taken.length cz], .agg #[.slice x9 l.pos.length cx9, .slice y9 l.set.length cy9, .slice z9 l.taken.length cz9], .int .i64 v, .tuple #[.agg #[.slice x8 l'.pos.length cx8, .slice y8 l'.set.length cy8, .slice z8 l'.taken.length cz8], .int .i64 c'], .agg #[.slice x8 l'.pos.length cx8, .slice y8 l'.set.length cy8, .slice z8 l'.taken.length cz8], .int .i64 c', _, _, _, _, _, _, _, _, _, _, _, _, _, _, _, _, _, _, _, _, _, _, _, _, _, _, _, _, _, _, _, _, _, _, _, _, _, _, _, _, _, _, _, _, _, _, _, _, _, _, _, _, _, _, _, _, _, _, _, _, _, _, _, _, _, _, _, _, _, _, _, _, _, _, _, _, _, _, _, _, _, _, _, _, _, _], defers := [] } _
          refine wpAnyH_ready (rs := [9]) (by kernel_rfl) (by simp) ?_
          refine AllReadyH.cons rfl (fun K hK => ?_) AllReadyH.nil
          go_simp
          have Ba := btrans Bf (balloc wf (.cells #[.slice none 0 0, .slice none 0 0, .slice none 0 0] 38))
          clear hHeld
          refine hK.out _ _ (by obtain ⟨⟨k0, k1, k2⟩, -⟩ := blk3 (blk_keep Ba A0); obtain ⟨⟨k3, k4, k5⟩, -⟩ := blk3 (blk_keep Ba A1); exact ⟨k0, k1, k2, k3, k4, k5⟩) (fun hHeld => ?_)
          clear hK K
          change wpAnyH _ _ _ _ _ _ _ { tmps := #[_, _, _, _, _, _, _, _, .pointer (some ⟨wf.heap.size, 0, none⟩), _, _, _, _, _, _, _, _, _, _, _, _, _, _, _, _, _, _, _, _, .tuple #[.agg #[.slice x8 l'.pos.length cx8, .slice y8 l'.set.length cy8, .slice z8 l'.taken.length cz8], .int .i64 c'], .agg #[.slice a p.under.length ca, .int .i64 p.blocks, .slice b p.routes.length cb], .agg #[.slice a1 p.under.length c1, .int .i64 p.blocks, .slice b1 p.routes.length d1], .agg #[.slice x l.pos.length cx, .slice y l.set.length cy, .slice z l.taken.length cz], .agg #[.slice x9 l.pos.length cx9, .slice y9 l.set.length cy9, .slice z9 l.taken.length cz9], .int .i64 v, .tuple #[.agg #[.slice x8 l'.pos.length cx8, .slice y8 l'.set.length cy8, .slice z8 l'.taken.length cz8], .int .i64 c'], .agg #[.slice x8 l'.pos.length cx8, .slice y8 l'.set.length cy8, .slice z8 l'.taken.length cz8], .int .i64 c', _, _, _, _, _, _, _, _, _, _, _, _, _, _, _, _, _, _, _, _, _, _, _, _, _, _, _, _, _, _, _, _, _, _, _, _, _, _, _, _, _, _, _, _, _, _, _, _, _, _, _, _, _, _, _, _, _, _, _, _, _, _, _, _, _, _, _, _, _, _, _, _, _, _, _, _, _, _, _, _, _, _, _, _, _, _], defers := [] } _
          refine wpAnyH_ready (rs := [10]) (by kernel_rfl) (by simp) ?_
          refine AllReadyH.cons rfl (fun K hK => ?_) AllReadyH.nil
          go_simp
          have Bs := btrans Bf (balloc wf (.cells #[.slice x8 l'.pos.length cx8, .slice y8 l'.set.length cy8, .slice z8 l'.taken.length cz8] 38))
          clear hHeld
          refine hK.out _ _ (by obtain ⟨⟨k0, k1, k2⟩, -⟩ := blk3 (blk_keep Bs A0); obtain ⟨⟨k3, k4, k5⟩, -⟩ := blk3 (blk_keep Bs A1); exact ⟨k0, k1, k2, k3, k4, k5⟩) (fun hHeld => ?_)
          clear hK K
          change wpAnyH _ _ _ _ _ _ _ { tmps := #[_, _, _, _, _, _, _, _, .pointer (some ⟨wf.heap.size, 0, none⟩), _, _, _, _, _, _, _, _, _, _, _, _, _, _, _, _, _, _, _, _, .tuple #[.agg #[.slice x8 l'.pos.length cx8, .slice y8 l'.set.length cy8, .slice z8 l'.taken.length cz8], .int .i64 c'], .agg #[.slice a p.under.length ca, .int .i64 p.blocks, .slice b p.routes.length cb], .agg #[.slice a1 p.under.length c1, .int .i64 p.blocks, .slice b1 p.routes.length d1], .agg #[.slice x l.pos.length cx, .slice y l.set.length cy, .slice z l.taken.length cz], .agg #[.slice x9 l.pos.length cx9, .slice y9 l.set.length cy9, .slice z9 l.taken.length cz9], .int .i64 v, .tuple #[.agg #[.slice x8 l'.pos.length cx8, .slice y8 l'.set.length cy8, .slice z8 l'.taken.length cz8], .int .i64 c'], .agg #[.slice x8 l'.pos.length cx8, .slice y8 l'.set.length cy8, .slice z8 l'.taken.length cz8], .int .i64 c', _, _, _, _, _, _, _, _, _, _, _, _, _, _, _, _, _, _, _, _, _, _, _, _, _, _, _, _, _, _, _, _, _, _, _, _, _, _, _, _, _, _, _, _, _, _, _, _, _, _, _, _, _, _, _, _, _, _, _, _, _, _, _, _, _, _, _, _, _, _, _, _, _, _, _, _, _, _, _, _, _, _, _, _, _, _], defers := [] } _
          refine wpAnyH_take (i := 11) (v := .int .i64 c') rfl (by kernel_rfl) (by kernel_rfl) (by kernel_rfl) (fun _ _ _ h => h) (Or.inl ⟨by kernel_rfl, fun w hS => by (obtain ⟨hS0, hS1, hS2, hS3, hS4, hS5⟩ := hS; go_simp)⟩) hHeld ?_
          change wpAnyH _ _ _ _ _ _ _ { tmps := #[_, _, _, _, _, _, _, _, .pointer (some ⟨wf.heap.size, 0, none⟩), .int .i64 c', _, _, _, _, _, _, _, _, _, _, _, _, _, _, _, _, _, _, _, .tuple #[.agg #[.slice x8 l'.pos.length cx8, .slice y8 l'.set.length cy8, .slice z8 l'.taken.length cz8], .int .i64 c'], .agg #[.slice a p.under.length ca, .int .i64 p.blocks, .slice b p.routes.length cb], .agg #[.slice a1 p.under.length c1, .int .i64 p.blocks, .slice b1 p.routes.length d1], .agg #[.slice x l.pos.length cx, .slice y l.set.length cy, .slice z l.taken.length cz], .agg #[.slice x9 l.pos.length cx9, .slice y9 l.set.length cy9, .slice z9 l.taken.length cz9], .int .i64 v, .tuple #[.agg #[.slice x8 l'.pos.length cx8, .slice y8 l'.set.length cy8, .slice z8 l'.taken.length cz8], .int .i64 c'], .agg #[.slice x8 l'.pos.length cx8, .slice y8 l'.set.length cy8, .slice z8 l'.taken.length cz8], .int .i64 c', _, _, _, _, _, _, _, _, _, _, _, _, _, _, _, _, _, _, _, _, _, _, _, _, _, _, _, _, _, _, _, _, _, _, _, _, _, _, _, _, _, _, _, _, _, _, _, _, _, _, _, _, _, _, _, _, _, _, _, _, _, _, _, _, _, _, _, _, _, _, _, _, _, _, _, _, _, _, _, _, _, _, _, _, _, _], defers := [] } _
          refine wpAnyH_done (by kernel_rfl) ?_ _
          go_wp2_with fail
          go_meet
          have sW := Bq.size
          exact gotN Bf O8 ⟨by omega, by omega⟩
        · skip
          go_simp
          have Ba := btrans Bq (balloc wq (.cells #[.slice none 0 0, .slice none 0 0, .slice none 0 0] 38))
          have zB : (wq.alloc (.cells #[.slice none 0 0, .slice none 0 0, .slice none 0 0] 38)).heap[wq.heap.size]? = some (.cells #[.slice none 0 0, .slice none 0 0, .slice none 0 0] 38 (0, 0)) := new1
          clear hHeld
          refine hK.out _ _ (by obtain ⟨⟨k0, k1, k2⟩, -⟩ := blk3 (blk_keep Ba A0); obtain ⟨⟨k3, k4, k5⟩, -⟩ := blk3 (blk_keep Ba A1); exact ⟨k0, k1, k2, k3, k4, k5⟩) (fun hHeld => ?_)
          clear hK K
          change wpAnyH _ _ _ _ _ _ _ { tmps := #[_, _, _, _, _, _, _, _, .pointer (some ⟨wq.heap.size, 0, none⟩), _, _, _, _, _, _, _, _, _, _, _, _, _, _, _, _, _, _, _, _, _, .agg #[.slice a p.under.length ca, .int .i64 p.blocks, .slice b p.routes.length cb], .agg #[.slice a1 p.under.length c1, .int .i64 p.blocks, .slice b1 p.routes.length d1], .agg #[.slice x l.pos.length cx, .slice y l.set.length cy, .slice z l.taken.length cz], .agg #[.slice x9 l.pos.length cx9, .slice y9 l.set.length cy9, .slice z9 l.taken.length cz9], .int .i64 v, _, _, _, _, _, _, _, _, _, _, _, _, _, _, _, _, _, _, _, _, _, _, _, _, _, _, _, _, _, _, _, _, _, _, _, _, _, _, _, _, _, _, _, _, _, _, _, _, _, _, _, _, _, _, _, _, _, _, _, _, _, _, _, _, _, _, _, _, _, _, _, _, _, _, _, _, _, _, _, _, _, _, _, _, _, _, _, _, _], defers := [] } _
          have P1r := P1r.below (balloc _ (.cells #[.slice none 0 0, .slice none 0 0, .slice none 0 0] 38))
          have L1r := L1r.below (balloc _ (.cells #[.slice none 0 0, .slice none 0 0, .slice none 0 0] 38))
          refine wpAnyH_ready (rs := [5]) (by kernel_rfl) (by simp) ?_
          refine AllReadyH.cons rfl (fun K hK => ?_) AllReadyH.nil
          go_simp
          refine (CS _ _ _ _ _ _ _ _ _ _ _ P1r L1r hS hT).mono ?_
          rintro e wf ⟨x8, cx8, y8, cy8, z8, cz8, rfl, O8, hb⟩
          have Bf := btrans Ba hb
          have s8 := hb.size
          try rw [sz1] at s8
          try rw [szd] at s8
          try rw [sz1] at O8
          have zB := blk_keep hb zB
          clear hb hHeld
          go_wp2_with fail
          refine hK.out _ _ (by obtain ⟨⟨k0, k1, k2⟩, -⟩ := blk3 (blk_keep Bf A0); obtain ⟨⟨k3, k4, k5⟩, -⟩ := blk3 (blk_keep Bf A1); exact ⟨k0, k1, k2, k3, k4, k5⟩) (fun hHeld => ?_)
          clear hK K
          change wpAnyH _ _ _ _ _ _ _ { tmps := #[_, _, _, _, _, _, _, _, .pointer (some ⟨wq.heap.size, 0, none⟩), _, _, _, _, _, _, _, _, _, _, _, _, _, _, _, _, _, _, _, _, _, .agg #[.slice a p.under.length ca, .int .i64 p.blocks, .slice b p.routes.length cb], .agg #[.slice a1 p.under.length c1, .int .i64 p.blocks, .slice b1 p.routes.length d1], .agg #[.slice x l.pos.length cx, .slice y l.set.length cy, .slice z l.taken.length cz], .agg #[.slice x9 l.pos.length cx9, .slice y9 l.set.length cy9, .slice z9 l.taken.length cz9], .int .i64 v, .tuple #[.agg #[.slice x8 l'.pos.length cx8, .slice y8 l'.set.length cy8, .slice z8 l'.taken.length cz8], .int .i64 c'], _, _, _, _, _, _, _, _, _, _, _, _, _, _, _, _, _, _, _, _, _, _, _, _, _, _, _, _, _, _, _, _, _, _, _, _, _, _, _, _, _, _, _, _, _, _, _, _, _, _, _, _, _, _, _, _, _, _, _, _, _, _, _, _, _, _, _, _, _, _, _, _, _, _, _, _, _, _, _, _, _, _, _, _, _, _, _, _], defers := [] } _
          refine wpAnyH_take (i := 6) (v := .tuple #[.agg #[.slice x8 l'.pos.length cx8, .slice y8 l'.set.length cy8, .slice z8 l'.taken.length cz8], .int .i64 c']) rfl (by kernel_rfl) (by kernel_rfl) (by kernel_rfl) (fun _ _ _ h => h) (Or.inl ⟨by kernel_rfl, fun w hS => by (obtain ⟨hS0, hS1, hS2, hS3, hS4, hS5⟩ := hS; go_simp)⟩) hHeld ?_
          change wpAnyH _ _ _ _ _ _ _ { tmps := #[_, _, _, _, _, _, _, _, .pointer (some ⟨wq.heap.size, 0, none⟩), _, _, _, _, _, _, _, _, _, _, _, _, _, _, _, _, _, _, _, _, .tuple #[.agg #[.slice x8 l'.pos.length cx8, .slice y8 l'.set.length cy8, .slice z8 l'.taken.length cz8], .int .i64 c'], .agg #[.slice a p.under.length ca, .int .i64 p.blocks, .slice b p.routes.length cb], .agg #[.slice a1 p.under.length c1, .int .i64 p.blocks, .slice b1 p.routes.length d1], .agg #[.slice x l.pos.length cx, .slice y l.set.length cy, .slice z l.taken.length cz], .agg #[.slice x9 l.pos.length cx9, .slice y9 l.set.length cy9, .slice z9 l.taken.length cz9], .int .i64 v, .tuple #[.agg #[.slice x8 l'.pos.length cx8, .slice y8 l'.set.length cy8, .slice z8 l'.taken.length cz8], .int .i64 c'], _, _, _, _, _, _, _, _, _, _, _, _, _, _, _, _, _, _, _, _, _, _, _, _, _, _, _, _, _, _, _, _, _, _, _, _, _, _, _, _, _, _, _, _, _, _, _, _, _, _, _, _, _, _, _, _, _, _, _, _, _, _, _, _, _, _, _, _, _, _, _, _, _, _, _, _, _, _, _, _, _, _, _, _, _, _, _, _], defers := [] } _
          refine wpAnyH_take (i := 7) (v := .agg #[.slice x8 l'.pos.length cx8, .slice y8 l'.set.length cy8, .slice z8 l'.taken.length cz8]) rfl (by kernel_rfl) (by kernel_rfl) (by kernel_rfl) (fun _ _ _ h => h) (Or.inl ⟨by kernel_rfl, fun w hS => by (obtain ⟨hS0, hS1, hS2, hS3, hS4, hS5⟩ := hS; go_simp)⟩) hHeld ?_
          change wpAnyH _ _ _ _ _ _ _ { tmps := #[_, _, _, _, _, _, _, _, .pointer (some ⟨wq.heap.size, 0, none⟩), _, _, _, _, _, _, _, _, _, _, _, _, _, _, _, _, _, _, _, _, .tuple #[.agg #[.slice x8 l'.pos.length cx8, .slice y8 l'.set.length cy8, .slice z8 l'.taken.length cz8], .int .i64 c'], .agg #[.slice a p.under.length ca, .int .i64 p.blocks, .slice b p.routes.length cb], .agg #[.slice a1 p.under.length c1, .int .i64 p.blocks, .slice b1 p.routes.length d1], .agg #[.slice x l.pos.length cx, .slice y l.set.length cy, .slice z l.taken.length cz], .agg #[.slice x9 l.pos.length cx9, .slice y9 l.set.length cy9, .slice z9 l.taken.length cz9], .int .i64 v, .tuple #[.agg #[.slice x8 l'.pos.length cx8, .slice y8 l'.set.length cy8, .slice z8 l'.taken.length cz8], .int .i64 c'], .agg #[.slice x8 l'.pos.length cx8, .slice y8 l'.set.length cy8, .slice z8 l'.taken.length cz8], _, _, _, _, _, _, _, _, _, _, _, _, _, _, _, _, _, _, _, _, _, _, _, _, _, _, _, _, _, _, _, _, _, _, _, _, _, _, _, _, _, _, _, _, _, _, _, _, _, _, _, _, _, _, _, _, _, _, _, _, _, _, _, _, _, _, _, _, _, _, _, _, _, _, _, _, _, _, _, _, _, _, _, _, _, _, _], defers := [] } _
          refine wpAnyH_take (i := 8) (v := .int .i64 c') rfl (by kernel_rfl) (by kernel_rfl) (by kernel_rfl) (fun _ _ _ h => h) (Or.inl ⟨by kernel_rfl, fun w hS => by (obtain ⟨hS0, hS1, hS2, hS3, hS4, hS5⟩ := hS; go_simp)⟩) hHeld ?_
          change wpAnyH _ _ _ _ _ _ _ { tmps := #[_, _, _, _, _, _, _, _, .pointer (some ⟨wq.heap.size, 0, none⟩), _, _, _, _, _, _, _, _, _, _, _, _, _, _, _, _, _, _, _, _, .tuple #[.agg #[.slice x8 l'.pos.length cx8, .slice y8 l'.set.length cy8, .slice z8 l'.taken.length cz8], .int .i64 c'], .agg #[.slice a p.under.length ca, .int .i64 p.blocks, .slice b p.routes.length cb], .agg #[.slice a1 p.under.length c1, .int .i64 p.blocks, .slice b1 p.routes.length d1], .agg #[.slice x l.pos.length cx, .slice y l.set.length cy, .slice z l.taken.length cz], .agg #[.slice x9 l.pos.length cx9, .slice y9 l.set.length cy9, .slice z9 l.taken.length cz9], .int .i64 v, .tuple #[.agg #[.slice x8 l'.pos.length cx8, .slice y8 l'.set.length cy8, .slice z8 l'.taken.length cz8], .int .i64 c'], .agg #[.slice x8 l'.pos.length cx8, .slice y8 l'.set.length cy8, .slice z8 l'.taken.length cz8], .int .i64 c', _, _, _, _, _, _, _, _, _, _, _, _, _, _, _, _, _, _, _, _, _, _, _, _, _, _, _, _, _, _, _, _, _, _, _, _, _, _, _, _, _, _, _, _, _, _, _, _, _, _, _, _, _, _, _, _, _, _, _, _, _, _, _, _, _, _, _, _, _, _, _, _, _, _, _, _, _, _, _, _, _, _, _, _, _, _], defers := [] } _
          obtain ⟨⟨z0, z1, z2⟩, y0, y1, y2⟩ := blk3 zB
          refine wpAnyH_ready (rs := [10]) (by kernel_rfl) (by simp) ?_
          refine AllReadyH.cons rfl (fun K hK => ?_) AllReadyH.nil
          go_simp
          have hbk : w2.heap.size ≤ wq.heap.size := by first | exact Bq.size | (have := B0.size; omega)
          have Bs := stB (x := .slice x8 l'.pos.length cx8) (y := .slice y8 l'.set.length cy8) (z := .slice z8 l'.taken.length cz8) Bf hbk
          clear hHeld
          refine hK.out _ _ (by obtain ⟨⟨k0, k1, k2⟩, -⟩ := blk3 (blk_keep Bs A0); obtain ⟨⟨k3, k4, k5⟩, -⟩ := blk3 (blk_keep Bs A1); exact ⟨k0, k1, k2, k3, k4, k5⟩) (fun hHeld => ?_)
          clear hK K
          change wpAnyH _ _ _ _ _ _ _ { tmps := #[_, _, _, _, _, _, _, _, .pointer (some ⟨wq.heap.size, 0, none⟩), _, _, _, _, _, _, _, _, _, _, _, _, _, _, _, _, _, _, _, _, .tuple #[.agg #[.slice x8 l'.pos.length cx8, .slice y8 l'.set.length cy8, .slice z8 l'.taken.length cz8], .int .i64 c'], .agg #[.slice a p.under.length ca, .int .i64 p.blocks, .slice b p.routes.length cb], .agg #[.slice a1 p.under.length c1, .int .i64 p.blocks, .slice b1 p.routes.length d1], .agg #[.slice x l.pos.length cx, .slice y l.set.length cy, .slice z l.taken.length cz], .agg #[.slice x9 l.pos.length cx9, .slice y9 l.set.length cy9, .slice z9 l.taken.length cz9], .int .i64 v, .tuple #[.agg #[.slice x8 l'.pos.length cx8, .slice y8 l'.set.length cy8, .slice z8 l'.taken.length cz8], .int .i64 c'], .agg #[.slice x8 l'.pos.length cx8, .slice y8 l'.set.length cy8, .slice z8 l'.taken.length cz8], .int .i64 c', _, _, _, _, _, _, _, _, _, _, _, _, _, _, _, _, _, _, _, _, _, _, _, _, _, _, _, _, _, _, _, _, _, _, _, _, _, _, _, _, _, _, _, _, _, _, _, _, _, _, _, _, _, _, _, _, _, _, _, _, _, _, _, _, _, _, _, _, _, _, _, _, _, _, _, _, _, _, _, _, _, _, _, _, _, _], defers := [] } _
          refine wpAnyH_take (i := 11) (v := .int .i64 c') rfl (by kernel_rfl) (by kernel_rfl) (by kernel_rfl) (fun _ _ _ h => h) (Or.inl ⟨by kernel_rfl, fun w hS => by (obtain ⟨hS0, hS1, hS2, hS3, hS4, hS5⟩ := hS; go_simp)⟩) hHeld ?_
          change wpAnyH _ _ _ _ _ _ _ { tmps := #[_, _, _, _, _, _, _, _, .pointer (some ⟨wq.heap.size, 0, none⟩), .int .i64 c', _, _, _, _, _, _, _, _, _, _, _, _, _, _, _, _, _, _, _, .tuple #[.agg #[.slice x8 l'.pos.length cx8, .slice y8 l'.set.length cy8, .slice z8 l'.taken.length cz8], .int .i64 c'], .agg #[.slice a p.under.length ca, .int .i64 p.blocks, .slice b p.routes.length cb], .agg #[.slice a1 p.under.length c1, .int .i64 p.blocks, .slice b1 p.routes.length d1], .agg #[.slice x l.pos.length cx, .slice y l.set.length cy, .slice z l.taken.length cz], .agg #[.slice x9 l.pos.length cx9, .slice y9 l.set.length cy9, .slice z9 l.taken.length cz9], .int .i64 v, .tuple #[.agg #[.slice x8 l'.pos.length cx8, .slice y8 l'.set.length cy8, .slice z8 l'.taken.length cz8], .int .i64 c'], .agg #[.slice x8 l'.pos.length cx8, .slice y8 l'.set.length cy8, .slice z8 l'.taken.length cz8], .int .i64 c', _, _, _, _, _, _, _, _, _, _, _, _, _, _, _, _, _, _, _, _, _, _, _, _, _, _, _, _, _, _, _, _, _, _, _, _, _, _, _, _, _, _, _, _, _, _, _, _, _, _, _, _, _, _, _, _, _, _, _, _, _, _, _, _, _, _, _, _, _, _, _, _, _, _, _, _, _, _, _, _, _, _, _, _, _, _], defers := [] } _
          refine wpAnyH_done (by kernel_rfl) ?_ _
          go_wp2_with fail
          go_meet
          have sW := Bq.size
          have sX := lt_of_block zB
          exact gotL Bf zB hbk O8 ⟨by omega, by omega, by omega⟩
      · skip
        go_simp
        have Ba := btrans Bp (balloc wp (.cells #[.slice none 0 0, .slice none 0 0, .slice none 0 0] 38))
        have zB : (wp.alloc (.cells #[.slice none 0 0, .slice none 0 0, .slice none 0 0] 38)).heap[wp.heap.size]? = some (.cells #[.slice none 0 0, .slice none 0 0, .slice none 0 0] 38 (0, 0)) := new1
        clear hHeld
        refine hK.out _ _ (by obtain ⟨⟨k0, k1, k2⟩, -⟩ := blk3 (blk_keep Ba A0); obtain ⟨⟨k3, k4, k5⟩, -⟩ := blk3 (blk_keep Ba A1); exact ⟨k0, k1, k2, k3, k4, k5⟩) (fun hHeld => ?_)
        clear hK K
        change wpAnyH _ _ _ _ _ _ _ { tmps := #[_, _, _, _, _, _, _, _, .pointer (some ⟨wp.heap.size, 0, none⟩), _, _, _, _, _, _, _, _, _, _, _, _, _, _, _, _, _, _, _, _, _, .agg #[.slice a p.under.length ca, .int .i64 p.blocks, .slice b p.routes.length cb], .agg #[.slice a1 p.under.length c1, .int .i64 p.blocks, .slice b1 p.routes.length d1], .agg #[.slice x l.pos.length cx, .slice y l.set.length cy, .slice z l.taken.length cz], _, .int .i64 v, _, _, _, _, _, _, _, _, _, _, _, _, _, _, _, _, _, _, _, _, _, _, _, _, _, _, _, _, _, _, _, _, _, _, _, _, _, _, _, _, _, _, _, _, _, _, _, _, _, _, _, _, _, _, _, _, _, _, _, _, _, _, _, _, _, _, _, _, _, _, _, _, _, _, _, _, _, _, _, _, _, _, _, _, _, _, _, _, _], defers := [] } _
        have P1r := P1r.below (balloc _ (.cells #[.slice none 0 0, .slice none 0 0, .slice none 0 0] 38))
        refine wpAnyH_ready (rs := [3]) (by kernel_rfl) (by simp) ?_
        refine AllReadyH.cons rfl (fun K hK => ?_) AllReadyH.nil
        go_simp
        refine (CU _ (hL.below (btrans HB Ba)) hT).mono ?_
        rintro e wq ⟨x9, cx9, y9, cy9, z9, cz9, rfl, L1, hb, hpl1, hpl2, hpl3, hpl4, hpl5, hpl6⟩
        have Bq := btrans Ba hb
        have sq := hb.size
        try rw [sz1] at sq
        try rw [szd] at sq
        have P1r := P1r.below hb
        have L1r := L1.read
        have zB := blk_keep hb zB
        clear hb hHeld
        go_wp2_with fail
        refine hK.out _ _ (by obtain ⟨⟨k0, k1, k2⟩, -⟩ := blk3 (blk_keep Bq A0); obtain ⟨⟨k3, k4, k5⟩, -⟩ := blk3 (blk_keep Bq A1); exact ⟨k0, k1, k2, k3, k4, k5⟩) (fun hHeld => ?_)
        clear hK K
        change wpAnyH _ _ _ _ _ _ _ { tmps := #[_, _, _, _, _, _, _, _, .pointer (some ⟨wp.heap.size, 0, none⟩), _, _, _, _, _, _, _, _, _, _, _, _, _, _, _, _, _, _, _, _, _, .agg #[.slice a p.under.length ca, .int .i64 p.blocks, .slice b p.routes.length cb], .agg #[.slice a1 p.under.length c1, .int .i64 p.blocks, .slice b1 p.routes.length d1], .agg #[.slice x l.pos.length cx, .slice y l.set.length cy, .slice z l.taken.length cz], .agg #[.slice x9 l.pos.length cx9, .slice y9 l.set.length cy9, .slice z9 l.taken.length cz9], .int .i64 v, _, _, _, _, _, _, _, _, _, _, _, _, _, _, _, _, _, _, _, _, _, _, _, _, _, _, _, _, _, _, _, _, _, _, _, _, _, _, _, _, _, _, _, _, _, _, _, _, _, _, _, _, _, _, _, _, _, _, _, _, _, _, _, _, _, _, _, _, _, _, _, _, _, _, _, _, _, _, _, _, _, _, _, _, _, _, _, _, _], defers := [] } _
        refine wpAnyH_ready (rs := [5]) (by kernel_rfl) (by simp) ?_
        refine AllReadyH.cons rfl (fun K hK => ?_) AllReadyH.nil
        go_simp
        refine (CS _ _ _ _ _ _ _ _ _ _ _ P1r L1r hS hT).mono ?_
        rintro e wf ⟨x8, cx8, y8, cy8, z8, cz8, rfl, O8, hb⟩
        have Bf := btrans Bq hb
        have s8 := hb.size
        try rw [sz1] at s8
        try rw [szd] at s8
        try rw [sz1] at O8
        have zB := blk_keep hb zB
        clear hb hHeld
        go_wp2_with fail
        refine hK.out _ _ (by obtain ⟨⟨k0, k1, k2⟩, -⟩ := blk3 (blk_keep Bf A0); obtain ⟨⟨k3, k4, k5⟩, -⟩ := blk3 (blk_keep Bf A1); exact ⟨k0, k1, k2, k3, k4, k5⟩) (fun hHeld => ?_)
        clear hK K
        change wpAnyH _ _ _ _ _ _ _ { tmps := #[_, _, _, _, _, _, _, _, .pointer (some ⟨wp.heap.size, 0, none⟩), _, _, _, _, _, _, _, _, _, _, _, _, _, _, _, _, _, _, _, _, _, .agg #[.slice a p.under.length ca, .int .i64 p.blocks, .slice b p.routes.length cb], .agg #[.slice a1 p.under.length c1, .int .i64 p.blocks, .slice b1 p.routes.length d1], .agg #[.slice x l.pos.length cx, .slice y l.set.length cy, .slice z l.taken.length cz], .agg #[.slice x9 l.pos.length cx9, .slice y9 l.set.length cy9, .slice z9 l.taken.length cz9], .int .i64 v, .tuple #[.agg #[.slice x8 l'.pos.length cx8, .slice y8 l'.set.length cy8, .slice z8 l'.taken.length cz8], .int .i64 c'], _, _, _, _, _, _, _, _, _, _, _, _, _, _, _, _, _, _, _, _, _, _, _, _, _, _, _, _, _, _, _, _, _, _, _, _, _, _, _, _, _, _, _, _, _, _, _, _, _, _, _, _, _, _, _, _, _, _, _, _, _, _, _, _, _, _, _, _, _, _, _, _, _, _, _, _, _, _, _, _, _, _, _, _, _, _, _, _], defers := [] } _
        refine wpAnyH_take (i := 6) (v := .tuple #[.agg #[.slice x8 l'.pos.length cx8, .slice y8 l'.set.length cy8, .slice z8 l'.taken.length cz8], .int .i64 c']) rfl (by kernel_rfl) (by kernel_rfl) (by kernel_rfl) (fun _ _ _ h => h) (Or.inl ⟨by kernel_rfl, fun w hS => by (obtain ⟨hS0, hS1, hS2, hS3, hS4, hS5⟩ := hS; go_simp)⟩) hHeld ?_
        change wpAnyH _ _ _ _ _ _ _ { tmps := #[_, _, _, _, _, _, _, _, .pointer (some ⟨wp.heap.size, 0, none⟩), _, _, _, _, _, _, _, _, _, _, _, _, _, _, _, _, _, _, _, _, .tuple #[.agg #[.slice x8 l'.pos.length cx8, .slice y8 l'.set.length cy8, .slice z8 l'.taken.length cz8], .int .i64 c'], .agg #[.slice a p.under.length ca, .int .i64 p.blocks, .slice b p.routes.length cb], .agg #[.slice a1 p.under.length c1, .int .i64 p.blocks, .slice b1 p.routes.length d1], .agg #[.slice x l.pos.length cx, .slice y l.set.length cy, .slice z l.taken.length cz], .agg #[.slice x9 l.pos.length cx9, .slice y9 l.set.length cy9, .slice z9 l.taken.length cz9], .int .i64 v, .tuple #[.agg #[.slice x8 l'.pos.length cx8, .slice y8 l'.set.length cy8, .slice z8 l'.taken.length cz8], .int .i64 c'], _, _, _, _, _, _, _, _, _, _, _, _, _, _, _, _, _, _, _, _, _, _, _, _, _, _, _, _, _, _, _, _, _, _, _, _, _, _, _, _, _, _, _, _, _, _, _, _, _, _, _, _, _, _, _, _, _, _, _, _, _, _, _, _, _, _, _, _, _, _, _, _, _, _, _, _, _, _, _, _, _, _, _, _, _, _, _, _], defers := [] } _
        refine wpAnyH_take (i := 7) (v := .agg #[.slice x8 l'.pos.length cx8, .slice y8 l'.set.length cy8, .slice z8 l'.taken.length cz8]) rfl (by kernel_rfl) (by kernel_rfl) (by kernel_rfl) (fun _ _ _ h => h) (Or.inl ⟨by kernel_rfl, fun w hS => by (obtain ⟨hS0, hS1, hS2, hS3, hS4, hS5⟩ := hS; go_simp)⟩) hHeld ?_
        change wpAnyH _ _ _ _ _ _ _ { tmps := #[_, _, _, _, _, _, _, _, .pointer (some ⟨wp.heap.size, 0, none⟩), _, _, _, _, _, _, _, _, _, _, _, _, _, _, _, _, _, _, _, _, .tuple #[.agg #[.slice x8 l'.pos.length cx8, .slice y8 l'.set.length cy8, .slice z8 l'.taken.length cz8], .int .i64 c'], .agg #[.slice a p.under.length ca, .int .i64 p.blocks, .slice b p.routes.length cb], .agg #[.slice a1 p.under.length c1, .int .i64 p.blocks, .slice b1 p.routes.length d1], .agg #[.slice x l.pos.length cx, .slice y l.set.length cy, .slice z l.taken.length cz], .agg #[.slice x9 l.pos.length cx9, .slice y9 l.set.length cy9, .slice z9 l.taken.length cz9], .int .i64 v, .tuple #[.agg #[.slice x8 l'.pos.length cx8, .slice y8 l'.set.length cy8, .slice z8 l'.taken.length cz8], .int .i64 c'], .agg #[.slice x8 l'.pos.length cx8, .slice y8 l'.set.length cy8, .slice z8 l'.taken.length cz8], _, _, _, _, _, _, _, _, _, _, _, _, _, _, _, _, _, _, _, _, _, _, _, _, _, _, _, _, _, _, _, _, _, _, _, _, _, _, _, _, _, _, _, _, _, _, _, _, _, _, _, _, _, _, _, _, _, _, _, _, _, _, _, _, _, _, _, _, _, _, _, _, _, _, _, _, _, _, _, _, _, _, _, _, _, _, _], defers := [] } _
        refine wpAnyH_take (i := 8) (v := .int .i64 c') rfl (by kernel_rfl) (by kernel_rfl) (by kernel_rfl) (fun _ _ _ h => h) (Or.inl ⟨by kernel_rfl, fun w hS => by (obtain ⟨hS0, hS1, hS2, hS3, hS4, hS5⟩ := hS; go_simp)⟩) hHeld ?_
        change wpAnyH _ _ _ _ _ _ _ { tmps := #[_, _, _, _, _, _, _, _, .pointer (some ⟨wp.heap.size, 0, none⟩), _, _, _, _, _, _, _, _, _, _, _, _, _, _, _, _, _, _, _, _, .tuple #[.agg #[.slice x8 l'.pos.length cx8, .slice y8 l'.set.length cy8, .slice z8 l'.taken.length cz8], .int .i64 c'], .agg #[.slice a p.under.length ca, .int .i64 p.blocks, .slice b p.routes.length cb], .agg #[.slice a1 p.under.length c1, .int .i64 p.blocks, .slice b1 p.routes.length d1], .agg #[.slice x l.pos.length cx, .slice y l.set.length cy, .slice z l.taken.length cz], .agg #[.slice x9 l.pos.length cx9, .slice y9 l.set.length cy9, .slice z9 l.taken.length cz9], .int .i64 v, .tuple #[.agg #[.slice x8 l'.pos.length cx8, .slice y8 l'.set.length cy8, .slice z8 l'.taken.length cz8], .int .i64 c'], .agg #[.slice x8 l'.pos.length cx8, .slice y8 l'.set.length cy8, .slice z8 l'.taken.length cz8], .int .i64 c', _, _, _, _, _, _, _, _, _, _, _, _, _, _, _, _, _, _, _, _, _, _, _, _, _, _, _, _, _, _, _, _, _, _, _, _, _, _, _, _, _, _, _, _, _, _, _, _, _, _, _, _, _, _, _, _, _, _, _, _, _, _, _, _, _, _, _, _, _, _, _, _, _, _, _, _, _, _, _, _, _, _, _, _, _, _], defers := [] } _
        obtain ⟨⟨z0, z1, z2⟩, y0, y1, y2⟩ := blk3 zB
        refine wpAnyH_ready (rs := [10]) (by kernel_rfl) (by simp) ?_
        refine AllReadyH.cons rfl (fun K hK => ?_) AllReadyH.nil
        go_simp
        have hbk : w2.heap.size ≤ wp.heap.size := by first | exact Bp.size | (have := B0.size; omega)
        have Bs := stB (x := .slice x8 l'.pos.length cx8) (y := .slice y8 l'.set.length cy8) (z := .slice z8 l'.taken.length cz8) Bf hbk
        clear hHeld
        refine hK.out _ _ (by obtain ⟨⟨k0, k1, k2⟩, -⟩ := blk3 (blk_keep Bs A0); obtain ⟨⟨k3, k4, k5⟩, -⟩ := blk3 (blk_keep Bs A1); exact ⟨k0, k1, k2, k3, k4, k5⟩) (fun hHeld => ?_)
        clear hK K
        change wpAnyH _ _ _ _ _ _ _ { tmps := #[_, _, _, _, _, _, _, _, .pointer (some ⟨wp.heap.size, 0, none⟩), _, _, _, _, _, _, _, _, _, _, _, _, _, _, _, _, _, _, _, _, .tuple #[.agg #[.slice x8 l'.pos.length cx8, .slice y8 l'.set.length cy8, .slice z8 l'.taken.length cz8], .int .i64 c'], .agg #[.slice a p.under.length ca, .int .i64 p.blocks, .slice b p.routes.length cb], .agg #[.slice a1 p.under.length c1, .int .i64 p.blocks, .slice b1 p.routes.length d1], .agg #[.slice x l.pos.length cx, .slice y l.set.length cy, .slice z l.taken.length cz], .agg #[.slice x9 l.pos.length cx9, .slice y9 l.set.length cy9, .slice z9 l.taken.length cz9], .int .i64 v, .tuple #[.agg #[.slice x8 l'.pos.length cx8, .slice y8 l'.set.length cy8, .slice z8 l'.taken.length cz8], .int .i64 c'], .agg #[.slice x8 l'.pos.length cx8, .slice y8 l'.set.length cy8, .slice z8 l'.taken.length cz8], .int .i64 c', _, _, _, _, _, _, _, _, _, _, _, _, _, _, _, _, _, _, _, _, _, _, _, _, _, _, _, _, _, _, _, _, _, _, _, _, _, _, _, _, _, _, _, _, _, _, _, _, _, _, _, _, _, _, _, _, _, _, _, _, _, _, _, _, _, _, _, _, _, _, _, _, _, _, _, _, _, _, _, _, _, _, _, _, _, _], defers := [] } _
        refine wpAnyH_take (i := 11) (v := .int .i64 c') rfl (by kernel_rfl) (by kernel_rfl) (by kernel_rfl) (fun _ _ _ h => h) (Or.inl ⟨by kernel_rfl, fun w hS => by (obtain ⟨hS0, hS1, hS2, hS3, hS4, hS5⟩ := hS; go_simp)⟩) hHeld ?_
        change wpAnyH _ _ _ _ _ _ _ { tmps := #[_, _, _, _, _, _, _, _, .pointer (some ⟨wp.heap.size, 0, none⟩), .int .i64 c', _, _, _, _, _, _, _, _, _, _, _, _, _, _, _, _, _, _, _, .tuple #[.agg #[.slice x8 l'.pos.length cx8, .slice y8 l'.set.length cy8, .slice z8 l'.taken.length cz8], .int .i64 c'], .agg #[.slice a p.under.length ca, .int .i64 p.blocks, .slice b p.routes.length cb], .agg #[.slice a1 p.under.length c1, .int .i64 p.blocks, .slice b1 p.routes.length d1], .agg #[.slice x l.pos.length cx, .slice y l.set.length cy, .slice z l.taken.length cz], .agg #[.slice x9 l.pos.length cx9, .slice y9 l.set.length cy9, .slice z9 l.taken.length cz9], .int .i64 v, .tuple #[.agg #[.slice x8 l'.pos.length cx8, .slice y8 l'.set.length cy8, .slice z8 l'.taken.length cz8], .int .i64 c'], .agg #[.slice x8 l'.pos.length cx8, .slice y8 l'.set.length cy8, .slice z8 l'.taken.length cz8], .int .i64 c', _, _, _, _, _, _, _, _, _, _, _, _, _, _, _, _, _, _, _, _, _, _, _, _, _, _, _, _, _, _, _, _, _, _, _, _, _, _, _, _, _, _, _, _, _, _, _, _, _, _, _, _, _, _, _, _, _, _, _, _, _, _, _, _, _, _, _, _, _, _, _, _, _, _, _, _, _, _, _, _, _, _, _, _, _, _], defers := [] } _
        refine wpAnyH_done (by kernel_rfl) ?_ _
        go_wp2_with fail
        go_meet
        have sW := Bq.size
        have sX := lt_of_block zB
        exact gotL Bf zB hbk O8 ⟨by omega, by omega, by omega⟩
    · skip
      go_simp
      have Ba := btrans B0 (balloc w2.drew (.cells #[.slice none 0 0, .slice none 0 0, .slice none 0 0] 38))
      have zB : (w2.drew.alloc (.cells #[.slice none 0 0, .slice none 0 0, .slice none 0 0] 38)).heap[w2.heap.size]? = some (.cells #[.slice none 0 0, .slice none 0 0, .slice none 0 0] 38 (0, 0)) := new1
      clear hHeld
      refine hK.out _ _ (by obtain ⟨⟨k0, k1, k2⟩, -⟩ := blk3 (blk_keep Ba A0); obtain ⟨⟨k3, k4, k5⟩, -⟩ := blk3 (blk_keep Ba A1); exact ⟨k0, k1, k2, k3, k4, k5⟩) (fun hHeld => ?_)
      clear hK K
      change wpAnyH _ _ _ _ _ _ _ { tmps := #[_, _, _, _, _, _, _, _, .pointer (some ⟨w2.heap.size, 0, none⟩), _, _, _, _, _, _, _, _, _, _, _, _, _, _, _, _, _, _, _, _, _, .agg #[.slice a p.under.length ca, .int .i64 p.blocks, .slice b p.routes.length cb], _, .agg #[.slice x l.pos.length cx, .slice y l.set.length cy, .slice z l.taken.length cz], _, .int .i64 v, _, _, _, _, _, _, _, _, _, _, _, _, _, _, _, _, _, _, _, _, _, _, _, _, _, _, _, _, _, _, _, _, _, _, _, _, _, _, _, _, _, _, _, _, _, _, _, _, _, _, _, _, _, _, _, _, _, _, _, _, _, _, _, _, _, _, _, _, _, _, _, _, _, _, _, _, _, _, _, _, _, _, _, _, _, _, _, _, _], defers := [] } _
      refine wpAnyH_ready (rs := [1]) (by kernel_rfl) (by simp) ?_
      refine AllReadyH.cons rfl (fun K hK => ?_) AllReadyH.nil
      go_simp
      refine (CT _ (hP.below (btrans HB Ba)) hS).mono ?_
      rintro e wp ⟨a1, c1, b1, d1, rfl, P1, hb⟩
      have Bp := btrans Ba hb
      have sp := hb.size
      try rw [sz1] at sp
      try rw [szd] at sp
      have P1r := P1.read
      have zB := blk_keep hb zB
      clear hb hHeld
      go_wp2_with fail
      refine hK.out _ _ (by obtain ⟨⟨k0, k1, k2⟩, -⟩ := blk3 (blk_keep Bp A0); obtain ⟨⟨k3, k4, k5⟩, -⟩ := blk3 (blk_keep Bp A1); exact ⟨k0, k1, k2, k3, k4, k5⟩) (fun hHeld => ?_)
      clear hK K
      change wpAnyH _ _ _ _ _ _ _ { tmps := #[_, _, _, _, _, _, _, _, .pointer (some ⟨w2.heap.size, 0, none⟩), _, _, _, _, _, _, _, _, _, _, _, _, _, _, _, _, _, _, _, _, _, .agg #[.slice a p.under.length ca, .int .i64 p.blocks, .slice b p.routes.length cb], .agg #[.slice a1 p.under.length c1, .int .i64 p.blocks, .slice b1 p.routes.length d1], .agg #[.slice x l.pos.length cx, .slice y l.set.length cy, .slice z l.taken.length cz], _, .int .i64 v, _, _, _, _, _, _, _, _, _, _, _, _, _, _, _, _, _, _, _, _, _, _, _, _, _, _, _, _, _, _, _, _, _, _, _, _, _, _, _, _, _, _, _, _, _, _, _, _, _, _, _, _, _, _, _, _, _, _, _, _, _, _, _, _, _, _, _, _, _, _, _, _, _, _, _, _, _, _, _, _, _, _, _, _, _, _, _, _, _], defers := [] } _
      refine wpAnyH_ready (rs := [3]) (by kernel_rfl) (by simp) ?_
      refine AllReadyH.cons rfl (fun K hK => ?_) AllReadyH.nil
      go_simp
      refine (CU _ (hL.below (btrans HB Bp)) hT).mono ?_
      rintro e wq ⟨x9, cx9, y9, cy9, z9, cz9, rfl, L1, hb, hpl1, hpl2, hpl3, hpl4, hpl5, hpl6⟩
      have Bq := btrans Bp hb
      have sq := hb.size
      try rw [sz1] at sq
      try rw [szd] at sq
      have P1r := P1r.below hb
      have L1r := L1.read
      have zB := blk_keep hb zB
      clear hb hHeld
      go_wp2_with fail
      refine hK.out _ _ (by obtain ⟨⟨k0, k1, k2⟩, -⟩ := blk3 (blk_keep Bq A0); obtain ⟨⟨k3, k4, k5⟩, -⟩ := blk3 (blk_keep Bq A1); exact ⟨k0, k1, k2, k3, k4, k5⟩) (fun hHeld => ?_)
      clear hK K
      change wpAnyH _ _ _ _ _ _ _ { tmps := #[_, _, _, _, _, _, _, _, .pointer (some ⟨w2.heap.size, 0, none⟩), _, _, _, _, _, _, _, _, _, _, _, _, _, _, _, _, _, _, _, _, _, .agg #[.slice a p.under.length ca, .int .i64 p.blocks, .slice b p.routes.length cb], .agg #[.slice a1 p.under.length c1, .int .i64 p.blocks, .slice b1 p.routes.length d1], .agg #[.slice x l.pos.length cx, .slice y l.set.length cy, .slice z l.taken.length cz], .agg #[.slice x9 l.pos.length cx9, .slice y9 l.set.length cy9, .slice z9 l.taken.length cz9], .int .i64 v, _, _, _, _, _, _, _, _, _, _, _, _, _, _, _, _, _, _, _, _, _, _, _, _, _, _, _, _, _, _, _, _, _, _, _, _, _, _, _, _, _, _, _, _, _, _, _, _, _, _, _, _, _, _, _, _, _, _, _, _, _, _, _, _, _, _, _, _, _, _, _, _, _, _, _, _, _, _, _, _, _, _, _, _, _, _, _, _, _], defers := [] } _
      refine wpAnyH_ready (rs := [5]) (by kernel_rfl) (by simp) ?_
      refine AllReadyH.cons rfl (fun K hK => ?_) AllReadyH.nil
      go_simp
      refine (CS _ _ _ _ _ _ _ _ _ _ _ P1r L1r hS hT).mono ?_
      rintro e wf ⟨x8, cx8, y8, cy8, z8, cz8, rfl, O8, hb⟩
      have Bf := btrans Bq hb
      have s8 := hb.size
      try rw [sz1] at s8
      try rw [szd] at s8
      try rw [sz1] at O8
      have zB := blk_keep hb zB
      clear hb hHeld
      go_wp2_with fail
      refine hK.out _ _ (by obtain ⟨⟨k0, k1, k2⟩, -⟩ := blk3 (blk_keep Bf A0); obtain ⟨⟨k3, k4, k5⟩, -⟩ := blk3 (blk_keep Bf A1); exact ⟨k0, k1, k2, k3, k4, k5⟩) (fun hHeld => ?_)
      clear hK K
      change wpAnyH _ _ _ _ _ _ _ { tmps := #[_, _, _, _, _, _, _, _, .pointer (some ⟨w2.heap.size, 0, none⟩), _, _, _, _, _, _, _, _, _, _, _, _, _, _, _, _, _, _, _, _, _, .agg #[.slice a p.under.length ca, .int .i64 p.blocks, .slice b p.routes.length cb], .agg #[.slice a1 p.under.length c1, .int .i64 p.blocks, .slice b1 p.routes.length d1], .agg #[.slice x l.pos.length cx, .slice y l.set.length cy, .slice z l.taken.length cz], .agg #[.slice x9 l.pos.length cx9, .slice y9 l.set.length cy9, .slice z9 l.taken.length cz9], .int .i64 v, .tuple #[.agg #[.slice x8 l'.pos.length cx8, .slice y8 l'.set.length cy8, .slice z8 l'.taken.length cz8], .int .i64 c'], _, _, _, _, _, _, _, _, _, _, _, _, _, _, _, _, _, _, _, _, _, _, _, _, _, _, _, _, _, _, _, _, _, _, _, _, _, _, _, _, _, _, _, _, _, _, _, _, _, _, _, _, _, _, _, _, _, _, _, _, _, _, _, _, _, _, _, _, _, _, _, _, _, _, _, _, _, _, _, _, _, _, _, _, _, _, _, _], defers := [] } _
      refine wpAnyH_take (i := 6) (v := .tuple #[.agg #[.slice x8 l'.pos.length cx8, .slice y8 l'.set.length cy8, .slice z8 l'.taken.length cz8], .int .i64 c']) rfl (by kernel_rfl) (by kernel_rfl) (by kernel_rfl) (fun _ _ _ h => h) (Or.inl ⟨by kernel_rfl, fun w hS => by (obtain ⟨hS0, hS1, hS2, hS3, hS4, hS5⟩ := hS; go_simp)⟩) hHeld ?_
      change wpAnyH _ _ _ _ _ _ _ { tmps := #[_, _, _, _, _, _, _, _, .pointer (some ⟨w2.heap.size, 0, none⟩), _, _, _, _, _, _, _, _, _, _, _, _, _, _, _, _, _, _, _, _, .tuple #[.agg #[.slice x8 l'.pos.length cx8, .slice y8 l'.set.length cy8, .slice z8 l'.taken.length cz8], .int .i64 c'], .agg #[.slice a p.under.length ca, .int .i64 p.blocks, .slice b p.routes.length cb], .agg #[.slice a1 p.under.length c1, .int .i64 p.blocks, .slice b1 p.routes.length d1], .agg #[.slice x l.pos.length cx, .slice y l.set.length cy, .slice z l.taken.length cz], .agg #[.slice x9 l.pos.length cx9, .slice y9 l.set.length cy9, .slice z9 l.taken.length cz9], .int .i64 v, .tuple #[.agg #[.slice x8 l'.pos.length cx8, .slice y8 l'.set.length cy8, .slice z8 l'.taken.length cz8], .int .i64 c'], _, _, _, _, _, _, _, _, _, _, _, _, _, _, _, _, _, _, _, _, _, _, _, _, _, _, _, _, _, _, _, _, _, _, _, _, _, _, _, _, _, _, _, _, _, _, _, _, _, _, _, _, _, _, _, _, _, _, _, _, _, _, _, _, _, _, _, _, _, _, _, _, _, _, _, _, _, _, _, _, _, _, _, _, _, _, _, _], defers := [] } _
      refine wpAnyH_take (i := 7) (v := .agg #[.slice x8 l'.pos.length cx8, .slice y8 l'.set.length cy8, .slice z8 l'.taken.length cz8]) rfl (by kernel_rfl) (by kernel_rfl) (by kernel_rfl) (fun _ _ _ h => h) (Or.inl ⟨by kernel_rfl, fun w hS => by (obtain ⟨hS0, hS1, hS2, hS3, hS4, hS5⟩ := hS; go_simp)⟩) hHeld ?_
      change wpAnyH _ _ _ _ _ _ _ { tmps := #[_, _, _, _, _, _, _, _, .pointer (some ⟨w2.heap.size, 0, none⟩), _, _, _, _, _, _, _, _, _, _, _, _, _, _, _, _, _, _, _, _, .tuple #[.agg #[.slice x8 l'.pos.length cx8, .slice y8 l'.set.length cy8, .slice z8 l'.taken.length cz8], .int .i64 c'], .agg #[.slice a p.under.length ca, .int .i64 p.blocks, .slice b p.routes.length cb], .agg #[.slice a1 p.under.length c1, .int .i64 p.blocks, .slice b1 p.routes.length d1], .agg #[.slice x l.pos.length cx, .slice y l.set.length cy, .slice z l.taken.length cz], .agg #[.slice x9 l.pos.length cx9, .slice y9 l.set.length cy9, .slice z9 l.taken.length cz9], .int .i64 v, .tuple #[.agg #[.slice x8 l'.pos.length cx8, .slice y8 l'.set.length cy8, .slice z8 l'.taken.length cz8], .int .i64 c'], .agg #[.slice x8 l'.pos.length cx8, .slice y8 l'.set.length cy8, .slice z8 l'.taken.length cz8], _, _, _, _, _, _, _, _, _, _, _, _, _, _, _, _, _, _, _, _, _, _, _, _, _, _, _, _, _, _, _, _, _, _, _, _, _, _, _, _, _, _, _, _, _, _, _, _, _, _, _, _, _, _, _, _, _, _, _, _, _, _, _, _, _, _, _, _, _, _, _, _, _, _, _, _, _, _, _, _, _, _, _, _, _, _, _], defers := [] } _
      refine wpAnyH_take (i := 8) (v := .int .i64 c') rfl (by kernel_rfl) (by kernel_rfl) (by kernel_rfl) (fun _ _ _ h => h) (Or.inl ⟨by kernel_rfl, fun w hS => by (obtain ⟨hS0, hS1, hS2, hS3, hS4, hS5⟩ := hS; go_simp)⟩) hHeld ?_
      change wpAnyH _ _ _ _ _ _ _ { tmps := #[_, _, _, _, _, _, _, _, .pointer (some ⟨w2.heap.size, 0, none⟩), _, _, _, _, _, _, _, _, _, _, _, _, _, _, _, _, _, _, _, _, .tuple #[.agg #[.slice x8 l'.pos.length cx8, .slice y8 l'.set.length cy8, .slice z8 l'.taken.length cz8], .int .i64 c'], .agg #[.slice a p.under.length ca, .int .i64 p.blocks, .slice b p.routes.length cb], .agg #[.slice a1 p.under.length c1, .int .i64 p.blocks, .slice b1 p.routes.length d1], .agg #[.slice x l.pos.length cx, .slice y l.set.length cy, .slice z l.taken.length cz], .agg #[.slice x9 l.pos.length cx9, .slice y9 l.set.length cy9, .slice z9 l.taken.length cz9], .int .i64 v, .tuple #[.agg #[.slice x8 l'.pos.length cx8, .slice y8 l'.set.length cy8, .slice z8 l'.taken.length cz8], .int .i64 c'], .agg #[.slice x8 l'.pos.length cx8, .slice y8 l'.set.length cy8, .slice z8 l'.taken.length cz8], .int .i64 c', _, _, _, _, _, _, _, _, _, _, _, _, _, _, _, _, _, _, _, _, _, _, _, _, _, _, _, _, _, _, _, _, _, _, _, _, _, _, _, _, _, _, _, _, _, _, _, _, _, _, _, _, _, _, _, _, _, _, _, _, _, _, _, _, _, _, _, _, _, _, _, _, _, _, _, _, _, _, _, _, _, _, _, _, _, _], defers := [] } _
      obtain ⟨⟨z0, z1, z2⟩, y0, y1, y2⟩ := blk3 zB
      refine wpAnyH_ready (rs := [10]) (by kernel_rfl) (by simp) ?_
      refine AllReadyH.cons rfl (fun K hK => ?_) AllReadyH.nil
      go_simp
      have hbk : w2.heap.size ≤ w2.heap.size := by first | exact B0.size | (have := B0.size; omega)
      have Bs := stB (x := .slice x8 l'.pos.length cx8) (y := .slice y8 l'.set.length cy8) (z := .slice z8 l'.taken.length cz8) Bf hbk
      clear hHeld
      refine hK.out _ _ (by obtain ⟨⟨k0, k1, k2⟩, -⟩ := blk3 (blk_keep Bs A0); obtain ⟨⟨k3, k4, k5⟩, -⟩ := blk3 (blk_keep Bs A1); exact ⟨k0, k1, k2, k3, k4, k5⟩) (fun hHeld => ?_)
      clear hK K
      change wpAnyH _ _ _ _ _ _ _ { tmps := #[_, _, _, _, _, _, _, _, .pointer (some ⟨w2.heap.size, 0, none⟩), _, _, _, _, _, _, _, _, _, _, _, _, _, _, _, _, _, _, _, _, .tuple #[.agg #[.slice x8 l'.pos.length cx8, .slice y8 l'.set.length cy8, .slice z8 l'.taken.length cz8], .int .i64 c'], .agg #[.slice a p.under.length ca, .int .i64 p.blocks, .slice b p.routes.length cb], .agg #[.slice a1 p.under.length c1, .int .i64 p.blocks, .slice b1 p.routes.length d1], .agg #[.slice x l.pos.length cx, .slice y l.set.length cy, .slice z l.taken.length cz], .agg #[.slice x9 l.pos.length cx9, .slice y9 l.set.length cy9, .slice z9 l.taken.length cz9], .int .i64 v, .tuple #[.agg #[.slice x8 l'.pos.length cx8, .slice y8 l'.set.length cy8, .slice z8 l'.taken.length cz8], .int .i64 c'], .agg #[.slice x8 l'.pos.length cx8, .slice y8 l'.set.length cy8, .slice z8 l'.taken.length cz8], .int .i64 c', _, _, _, _, _, _, _, _, _, _, _, _, _, _, _, _, _, _, _, _, _, _, _, _, _, _, _, _, _, _, _, _, _, _, _, _, _, _, _, _, _, _, _, _, _, _, _, _, _, _, _, _, _, _, _, _, _, _, _, _, _, _, _, _, _, _, _, _, _, _, _, _, _, _, _, _, _, _, _, _, _, _, _, _, _, _], defers := [] } _
      refine wpAnyH_take (i := 11) (v := .int .i64 c') rfl (by kernel_rfl) (by kernel_rfl) (by kernel_rfl) (fun _ _ _ h => h) (Or.inl ⟨by kernel_rfl, fun w hS => by (obtain ⟨hS0, hS1, hS2, hS3, hS4, hS5⟩ := hS; go_simp)⟩) hHeld ?_
      change wpAnyH _ _ _ _ _ _ _ { tmps := #[_, _, _, _, _, _, _, _, .pointer (some ⟨w2.heap.size, 0, none⟩), .int .i64 c', _, _, _, _, _, _, _, _, _, _, _, _, _, _, _, _, _, _, _, .tuple #[.agg #[.slice x8 l'.pos.length cx8, .slice y8 l'.set.length cy8, .slice z8 l'.taken.length cz8], .int .i64 c'], .agg #[.slice a p.under.length ca, .int .i64 p.blocks, .slice b p.routes.length cb], .agg #[.slice a1 p.under.length c1, .int .i64 p.blocks, .slice b1 p.routes.length d1], .agg #[.slice x l.pos.length cx, .slice y l.set.length cy, .slice z l.taken.length cz], .agg #[.slice x9 l.pos.length cx9, .slice y9 l.set.length cy9, .slice z9 l.taken.length cz9], .int .i64 v, .tuple #[.agg #[.slice x8 l'.pos.length cx8, .slice y8 l'.set.length cy8, .slice z8 l'.taken.length cz8], .int .i64 c'], .agg #[.slice x8 l'.pos.length cx8, .slice y8 l'.set.length cy8, .slice z8 l'.taken.length cz8], .int .i64 c', _, _, _, _, _, _, _, _, _, _, _, _, _, _, _, _, _, _, _, _, _, _, _, _, _, _, _, _, _, _, _, _, _, _, _, _, _, _, _, _, _, _, _, _, _, _, _, _, _, _, _, _, _, _, _, _, _, _, _, _, _, _, _, _, _, _, _, _, _, _, _, _, _, _, _, _, _, _, _, _, _, _, _, _, _, _], defers := [] } _
      refine wpAnyH_done (by kernel_rfl) ?_ _
      go_wp2_with fail
      go_meet
      have sW := Bq.size
      have sX := lt_of_block zB
      exact gotL Bf zB hbk O8 ⟨by omega, by omega, by omega⟩
  case rest =>
  clear x2_0 x2_1 x2_2 x3_0 x3_1 x3_2
  obtain ⟨⟨bw, x8, cx8, y8, cy8, z8, cz8, lo8, hi8, rfl, rfl, W0, O8, hw1, hw2, hw3, hw4⟩, BW⟩ := hcut
  have hb := BW
  clear BW CS
  replace A0 := blk_keep hb A0
  replace A1 := blk_keep hb A1
  replace HB := btrans HB hb
  have s3 := hb.size
  try simp only [sz1] at s3
  clear hb
  have hbw := lt_of_block W0
  obtain ⟨⟨x4_0, x4_1, x4_2⟩, -⟩ := blk3 A0
  go_wp2_with fail
  clear x4_0 x4_1 x4_2
  refine (CT _ (hP.below HB) hS).mono ?_
  rintro e w4 ⟨a2, c2, b2, d2, rfl, P2, hb⟩
  replace A0 := blk_keep hb A0
  replace A1 := blk_keep hb A1
  replace W0 := blk_keep hb W0
  replace O8 := O8.below hb
  replace HB := btrans HB hb
  have s4 := hb.size
  try simp only [sz1] at s4
  clear hb
  have hb := balloc w4 (.cells #[.slice a2 p.under.length c2, .int .i64 p.blocks, .slice b2 p.routes.length d2] 30)
  have X0 : (w4.alloc (.cells #[.slice a2 p.under.length c2, .int .i64 p.blocks, .slice b2 p.routes.length d2] 30)).heap[w4.heap.size]? = some (.cells #[.slice a2 p.under.length c2, .int .i64 p.blocks, .slice b2 p.routes.length d2] 30 (0, 0)) := blk1
  replace A0 := blk_keep hb A0
  replace A1 := blk_keep hb A1
  replace W0 := blk_keep hb W0
  replace O8 := O8.below hb
  replace P2 := P2.below hb
  replace HB := btrans HB hb
  clear hb
  obtain ⟨⟨x5_0, x5_1, x5_2⟩, -⟩ := blk3 A1
  go_wp2_with fail
  clear x5_0 x5_1 x5_2
  refine (CU _ (hL.below HB) hT).mono ?_
  rintro e w5 ⟨x3, cx3, y3, cy3, z3, cz3, rfl, L2, hb, hx3a, hx3b, hy3a, hy3b, hz3a, hz3b⟩
  replace A0 := blk_keep hb A0
  replace A1 := blk_keep hb A1
  replace W0 := blk_keep hb W0
  replace O8 := O8.below hb
  replace P2 := P2.below hb
  replace X0 := blk_keep hb X0
  replace HB := btrans HB hb
  have s5 := hb.size
  try simp only [sz1] at s5
  clear hb
  try rw [sz1] at L2
  have hb := balloc w5 (.cells #[.slice x3 l.pos.length cx3, .slice y3 l.set.length cy3, .slice z3 l.taken.length cz3] 38)
  have X1 : (w5.alloc (.cells #[.slice x3 l.pos.length cx3, .slice y3 l.set.length cy3, .slice z3 l.taken.length cz3] 38)).heap[w5.heap.size]? = some (.cells #[.slice x3 l.pos.length cx3, .slice y3 l.set.length cy3, .slice z3 l.taken.length cz3] 38 (0, 0)) := blk1
  replace A0 := blk_keep hb A0
  replace A1 := blk_keep hb A1
  replace W0 := blk_keep hb W0
  replace O8 := O8.below hb
  replace P2 := P2.below hb
  replace X0 := blk_keep hb X0
  replace L2 := L2.below hb
  replace HB := btrans HB hb
  clear hb
  obtain ⟨⟨x6_0, x6_1, x6_2⟩, -⟩ := blk3 X0
  go_wp2_with fail
  clear x6_0 x6_1 x6_2
  refine (CI _ _ _ _ _ _ _ _ _ _ _ P2.read L2.read ⟨hx3b, hx3a⟩ ⟨hy3b, hy3a⟩ ⟨hz3b, hz3a⟩ hS hT).mono ?_
  rintro e w6 ⟨x7, cx7, y7, cy7, z7, cz7, rfl, O7, hb⟩
  replace A0 := blk_keep hb A0
  replace A1 := blk_keep hb A1
  replace W0 := blk_keep hb W0
  replace O8 := O8.below hb
  replace P2 := P2.below hb
  replace X0 := blk_keep hb X0
  replace L2 := L2.below hb
  replace X1 := blk_keep hb X1
  replace HB := btrans HB hb
  have s6 := hb.size
  try simp only [sz1] at s6
  clear hb
  try rw [sz1] at O7
  have hb := balloc w6 (.cells #[.slice x7 l'.pos.length cx7, .slice y7 l'.set.length cy7, .slice z7 l'.taken.length cz7] 38)
  have G0 : (w6.alloc (.cells #[.slice x7 l'.pos.length cx7, .slice y7 l'.set.length cy7, .slice z7 l'.taken.length cz7] 38)).heap[w6.heap.size]? = some (.cells #[.slice x7 l'.pos.length cx7, .slice y7 l'.set.length cy7, .slice z7 l'.taken.length cz7] 38 (0, 0)) := blk1
  replace A0 := blk_keep hb A0
  replace A1 := blk_keep hb A1
  replace W0 := blk_keep hb W0
  replace O8 := O8.below hb
  replace P2 := P2.below hb
  replace X0 := blk_keep hb X0
  replace L2 := L2.below hb
  replace X1 := blk_keep hb X1
  replace O7 := O7.below hb
  replace HB := btrans HB hb
  clear hb
  obtain ⟨⟨x7_0, x7_1, x7_2⟩, -⟩ := blk3 G0
  obtain ⟨⟨x8_0, x8_1, x8_2⟩, -⟩ := blk3 W0
  go_wp2_with fail
  clear x7_0 x7_1 x7_2 x8_0 x8_1 x8_2
  refine (CG _ _ _ _ _ _ _ _ _ _ _ _ _ O7.read O8.read hT').mono ?_
  rintro e w7 ⟨rfl, hb⟩
  replace A0 := blk_keep hb A0
  replace A1 := blk_keep hb A1
  replace W0 := blk_keep hb W0
  replace O8 := O8.below hb
  replace P2 := P2.below hb
  replace X0 := blk_keep hb X0
  replace L2 := L2.below hb
  replace X1 := blk_keep hb X1
  replace O7 := O7.below hb
  replace G0 := blk_keep hb G0
  replace HB := btrans HB hb
  have s7 := hb.size
  try simp only [sz1] at s7
  clear hb
  obtain ⟨⟨x9_0, x9_1, x9_2⟩, -⟩ := blk3 A0
  obtain ⟨⟨x10_0, x10_1, x10_2⟩, -⟩ := blk3 X0
  go_wp2_with fail
  go_region_held3 (fun w' => w'.cell? ⟨w4.heap.size, 0, none⟩ = some (.slice a2 p.under.length c2) ∧ w'.cell? ⟨w4.heap.size, 1, none⟩ = some (.int .i64 p.blocks) ∧ w'.cell? ⟨w4.heap.size, 2, none⟩ = some (.slice b2 p.routes.length d2) ∧ w'.cell? ⟨w.heap.size, 0, none⟩ = some (.slice a p.under.length ca) ∧ w'.cell? ⟨w.heap.size, 1, none⟩ = some (.int .i64 p.blocks) ∧ w'.cell? ⟨w.heap.size, 2, none⟩ = some (.slice b p.routes.length cb)) (go_keep) (first
    | (go_at_call 16; with_reducible refine (CE _ _ _ _ _ _ _ _ _ P2b P3r hS).mono ?_; rintro e wb ⟨rfl, hbb⟩; have Bb := btrans Bp hbb; clear hbb; obtain ⟨⟨u0, u1, u2⟩, -⟩ := blk3 (blk_keep Bb X0); obtain ⟨⟨u3, u4, u5⟩, -⟩ := blk3 (blk_keep Bb A0))
    | (go_at_call 14; with_reducible refine (CT _ (hP.below HB.drew) hS).mono ?_; rintro e wp ⟨a4, c4, b4, d4, rfl, P3, hbp⟩; have Bp := undrew hbp; have P2b := P2.read.below Bp; have P3r := P3.read; clear hbp; obtain ⟨⟨u0, u1, u2⟩, -⟩ := blk3 (blk_keep Bp X0); obtain ⟨⟨u3, u4, u5⟩, -⟩ := blk3 (blk_keep Bp A0)))
  clear P3 P3r P2b Bp u0 u1 u2 u3 u4 u5 x9_0 x9_1 x9_2 x10_0 x10_1 x10_2
  have hb := Bb
  clear Bb
  replace A0 := blk_keep hb A0
  replace A1 := blk_keep hb A1
  replace W0 := blk_keep hb W0
  replace O8 := O8.below hb
  replace P2 := P2.below hb
  replace X0 := blk_keep hb X0
  replace L2 := L2.below hb
  replace X1 := blk_keep hb X1
  replace O7 := O7.below hb
  replace G0 := blk_keep hb G0
  replace HB := btrans HB hb
  have s8 := hb.size
  try simp only [sz1] at s8
  clear hb
  obtain ⟨⟨x11_0, x11_1, x11_2⟩, -⟩ := blk3 A1
  obtain ⟨⟨x12_0, x12_1, x12_2⟩, -⟩ := blk3 X1
  go_wp2_with fail
  go_region_held3 (fun w' => w'.cell? ⟨w5.heap.size, 0, none⟩ = some (.slice x3 l.pos.length cx3) ∧ w'.cell? ⟨w5.heap.size, 1, none⟩ = some (.slice y3 l.set.length cy3) ∧ w'.cell? ⟨w5.heap.size, 2, none⟩ = some (.slice z3 l.taken.length cz3) ∧ w'.cell? ⟨w.heap.size + 1, 0, none⟩ = some (.slice x l.pos.length cx) ∧ w'.cell? ⟨w.heap.size + 1, 1, none⟩ = some (.slice y l.set.length cy) ∧ w'.cell? ⟨w.heap.size + 1, 2, none⟩ = some (.slice z l.taken.length cz)) (go_keep) (first
    | (go_at_call 21; with_reducible refine (CF _ _ _ _ _ _ _ _ _ _ _ _ _ L2b L3r hT).mono ?_; rintro e wb' ⟨rfl, hbb⟩; have Bb := btrans Bp hbb; clear hbb; obtain ⟨⟨u0, u1, u2⟩, -⟩ := blk3 (blk_keep Bb X1); obtain ⟨⟨u3, u4, u5⟩, -⟩ := blk3 (blk_keep Bb A1))
    | (go_at_call 27; with_reducible refine (CU _ (hL.below HB.drew) hT).mono ?_; rintro e wp' ⟨x4, cx4, y4, cy4, z4, cz4, rfl, L3, hbp, -⟩; have Bp := undrew hbp; have L2b := L2.read.below Bp; have L3r := L3.read; clear hbp; obtain ⟨⟨u0, u1, u2⟩, -⟩ := blk3 (blk_keep Bp X1); obtain ⟨⟨u3, u4, u5⟩, -⟩ := blk3 (blk_keep Bp A1)))
  clear L3 L3r L2b Bp u0 u1 u2 u3 u4 u5 x11_0 x11_1 x11_2 x12_0 x12_1 x12_2
  have hb := Bb
  clear Bb
  replace A0 := blk_keep hb A0
  replace A1 := blk_keep hb A1
  replace W0 := blk_keep hb W0
  replace O8 := O8.below hb
  replace P2 := P2.below hb
  replace X0 := blk_keep hb X0
  replace L2 := L2.below hb
  replace X1 := blk_keep hb X1
  replace O7 := O7.below hb
  replace G0 := blk_keep hb G0
  replace HB := btrans HB hb
  have s9 := hb.size
  try simp only [sz1] at s9
  clear hb
  obtain ⟨⟨x13_0, x13_1, x13_2⟩, -⟩ := blk3 X0
  go_wp2_with fail
  clear x13_0 x13_1 x13_2
  refine (CM _ _ _ _ _ _ _ P2 hS (by omega)).mono ?_
  rintro e w10 ⟨q1, rfl, hq0, hq1, hf⟩
  clear P2
  replace A0 := blk_far hf A0 (by omega)
  replace A1 := blk_far hf A1 (by omega)
  replace W0 := blk_far hf W0 (by omega)
  replace O8 := O8.far hf (by omega)
  replace X0 := blk_far hf X0 (by omega)
  replace L2 := L2.far hf (by omega)
  replace X1 := blk_far hf X1 (by omega)
  replace O7 := O7.far hf (by omega)
  replace G0 := blk_far hf G0 (by omega)
  replace HB := hf.under HB (by omega)
  have s10 := hf.size
  clear hf
  obtain ⟨⟨x14_0, x14_1, x14_2⟩, -⟩ := blk3 X1
  go_wp2_with fail
  clear x14_0 x14_1 x14_2
  refine (CN _ _ _ _ _ _ _ _ q1 _ L2 hT hq0 (by omega)).mono ?_
  rintro e w11 ⟨q2, rfl, hq2, hf⟩
  clear L2
  replace A0 := blk_far hf A0 (by omega)
  replace A1 := blk_far hf A1 (by omega)
  replace W0 := blk_far hf W0 (by omega)
  replace O8 := O8.far hf (by omega)
  replace X0 := blk_far hf X0 (by omega)
  replace X1 := blk_far hf X1 (by omega)
  replace O7 := O7.far hf (by omega)
  replace G0 := blk_far hf G0 (by omega)
  replace HB := hf.under HB (by omega)
  have s11 := hf.size
  clear hf
  have hq3 : ¬ (q2 < 0) := by omega
  clear X0 X1
  obtain ⟨⟨x15_0, x15_1, x15_2⟩, -⟩ := blk3 G0
  obtain ⟨⟨x16_0, x16_1, x16_2⟩, -⟩ := blk3 W0
  go_wp2_with fail
  clear x15_0 x15_1 x15_2 x16_0 x16_1 x16_2
  refine (CG _ _ _ _ _ _ _ _ _ _ _ _ _ O7.read O8.read hT').mono ?_
  rintro e w12 ⟨rfl, hb⟩
  replace A0 := blk_keep hb A0
  replace A1 := blk_keep hb A1
  replace W0 := blk_keep hb W0
  replace O8 := O8.below hb
  replace O7 := O7.below hb
  replace G0 := blk_keep hb G0
  replace HB := btrans HB hb
  have s12 := hb.size
  try simp only [sz1] at s12
  clear hb
  obtain ⟨⟨x17_0, x17_1, x17_2⟩, -⟩ := blk3 G0
  go_wp2_with fail
  clear x17_0 x17_1 x17_2
  refine (CO _ _ _ _ _ _ _ _ _ O7 hT').mono ?_
  rintro e w13 ⟨rfl, O6, hf⟩
  clear O7
  replace A0 := blk_far hf A0 (by omega)
  replace A1 := blk_far hf A1 (by omega)
  replace W0 := blk_far hf W0 (by omega)
  replace O8 := O8.far hf (by omega)
  replace G0 := blk_far hf G0 (by omega)
  replace HB := hf.under HB (by omega)
  have s13 := hf.size
  clear hf
  have hp1 : ¬ (1 + (l'.pos.length : Int) + (l'.set.length : Int) + (l'.taken.length : Int) < 0) := by omega
  obtain ⟨⟨x18_0, x18_1, x18_2⟩, -⟩ := blk3 G0
  go_wp2_with fail
  clear x18_0 x18_1 x18_2
  refine (CH _ _ _ _ _ _ _ O6.read hT').mono ?_
  rintro e w14 ⟨rfl, hb⟩
  replace A0 := blk_keep hb A0
  replace A1 := blk_keep hb A1
  replace W0 := blk_keep hb W0
  replace O8 := O8.below hb
  replace G0 := blk_keep hb G0
  replace O6 := O6.below hb
  replace HB := btrans HB hb
  have s14 := hb.size
  try simp only [sz1] at s14
  clear hb
  obtain ⟨⟨x19_0, x19_1, x19_2⟩, -⟩ := blk3 A0
  obtain ⟨⟨x20_0, x20_1, x20_2⟩, -⟩ := blk3 A1
  go_upto_region 31 with fail
  go_cut [17, 18] from 107 (fun sv cv wc => GotL w14 l' c' sv cv wc)
  case first =>
    refine wp_region_held_drew (S := (fun w' => w'.cell? ⟨w.heap.size, 0, none⟩ = some (.slice a p.under.length ca) ∧ w'.cell? ⟨w.heap.size, 1, none⟩ = some (.int .i64 p.blocks) ∧ w'.cell? ⟨w.heap.size, 2, none⟩ = some (.slice b p.routes.length cb) ∧ w'.cell? ⟨w.heap.size + 1, 0, none⟩ = some (.slice x l.pos.length cx) ∧ w'.cell? ⟨w.heap.size + 1, 1, none⟩ = some (.slice y l.set.length cy) ∧ w'.cell? ⟨w.heap.size + 1, 2, none⟩ = some (.slice z l.taken.length cz))) (by kernel_rfl) ?_ (fun hHeld => ?_)
    · go_keep
    have B0 : Below w14.heap.size w14 w14.drew := (Below.refl _ _).drew
    refine wpAnyH_take (i := 0) (v := .agg #[.slice a p.under.length ca, .int .i64 p.blocks, .slice b p.routes.length cb]) rfl (by kernel_rfl) (by kernel_rfl) (by kernel_rfl) (fun _ _ _ h => h) (Or.inl ⟨by kernel_rfl, fun w hS => by (obtain ⟨hS0, hS1, hS2, hS3, hS4, hS5⟩ := hS; go_simp)⟩) hHeld ?_
    change wpAnyH _ _ _ _ _ _ _ { tmps := #[_, _, _, _, _, _, _, _, _, _, _, _, _, _, _, _, _, _, _, _, _, _, _, _, _, _, _, _, _, _, _, _, _, _, _, _, _, _, _, _, _, _, _, _, _, _, _, _, _, _, _, _, _, _, _, _, _, _, _, _, _, _, _, _, _, _, _, _, _, _, _, _, _, _, _, _, _, _, _, _, _, _, _, _, _, _, _, _, _, _, _, _, _, _, _, _, _, _, _, .agg #[.slice a p.under.length ca, .int .i64 p.blocks, .slice b p.routes.length cb], _, _, _, _, _, _, _, _, _, _, _, _, _, _, _, _, _, _, _, _, _, _, _, _], defers := [] } _
    refine wpAnyH_take (i := 2) (v := .agg #[.slice x l.pos.length cx, .slice y l.set.length cy, .slice z l.taken.length cz]) rfl (by kernel_rfl) (by kernel_rfl) (by kernel_rfl) (fun _ _ _ h => h) (Or.inl ⟨by kernel_rfl, fun w hS => by (obtain ⟨hS0, hS1, hS2, hS3, hS4, hS5⟩ := hS; go_simp)⟩) hHeld ?_
    change wpAnyH _ _ _ _ _ _ _ { tmps := #[_, _, _, _, _, _, _, _, _, _, _, _, _, _, _, _, _, _, _, _, _, _, _, _, _, _, _, _, _, _, _, _, _, _, _, _, _, _, _, _, _, _, _, _, _, _, _, _, _, _, _, _, _, _, _, _, _, _, _, _, _, _, _, _, _, _, _, _, _, _, _, _, _, _, _, _, _, _, _, _, _, _, _, _, _, _, _, _, _, _, _, _, _, _, _, _, _, _, _, .agg #[.slice a p.under.length ca, .int .i64 p.blocks, .slice b p.routes.length cb], _, .agg #[.slice x l.pos.length cx, .slice y l.set.length cy, .slice z l.taken.length cz], _, _, _, _, _, _, _, _, _, _, _, _, _, _, _, _, _, _, _, _, _, _], defers := [] } _
    refine wpAnyH_take (i := 4) (v := .int .i64 v) rfl (by kernel_rfl) (by kernel_rfl) (by kernel_rfl) (fun _ _ _ h => h) (Or.inl ⟨by kernel_rfl, fun w hS => by (obtain ⟨hS0, hS1, hS2, hS3, hS4, hS5⟩ := hS; go_simp)⟩) hHeld ?_
    change wpAnyH _ _ _ _ _ _ _ { tmps := #[_, _, _, _, _, _, _, _, _, _, _, _, _, _, _, _, _, _, _, _, _, _, _, _, _, _, _, _, _, _, _, _, _, _, _, _, _, _, _, _, _, _, _, _, _, _, _, _, _, _, _, _, _, _, _, _, _, _, _, _, _, _, _, _, _, _, _, _, _, _, _, _, _, _, _, _, _, _, _, _, _, _, _, _, _, _, _, _, _, _, _, _, _, _, _, _, _, _, _, .agg #[.slice a p.under.length ca, .int .i64 p.blocks, .slice b p.routes.length cb], _, .agg #[.slice x l.pos.length cx, .slice y l.set.length cy, .slice z l.taken.length cz], _, .int .i64 v, _, _, _, _, _, _, _, _, _, _, _, _, _, _, _, _, _, _, _, _], defers := [] } _
    refine wpAnyH_ready (rs := [1, 9]) (by kernel_rfl) (by simp) ?_
    refine AllReadyH.cons rfl (fun K hK => ?_) (AllReadyH.cons rfl (fun K hK => ?_) AllReadyH.nil)
    · skip
      go_simp
      refine (CT _ (hP.below (btrans HB B0)) hS).mono ?_
      rintro e wp ⟨a1, c1, b1, d1, rfl, P1, hb⟩
      have Bp := btrans B0 hb
      have sp := hb.size
      try rw [sz1] at sp
      try rw [szd] at sp
      have P1r := P1.read
      clear hb hHeld
      go_wp2_with fail
      refine hK.out _ _ (by obtain ⟨⟨k0, k1, k2⟩, -⟩ := blk3 (blk_keep Bp A0); obtain ⟨⟨k3, k4, k5⟩, -⟩ := blk3 (blk_keep Bp A1); exact ⟨k0, k1, k2, k3, k4, k5⟩) (fun hHeld => ?_)
      clear hK K
      change wpAnyH _ _ _ _ _ _ _ { tmps := #[_, _, _, _, _, _, _, _, _, _, _, _, _, _, _, _, _, _, _, _, _, _, _, _, _, _, _, _, _, _, _, _, _, _, _, _, _, _, _, _, _, _, _, _, _, _, _, _, _, _, _, _, _, _, _, _, _, _, _, _, _, _, _, _, _, _, _, _, _, _, _, _, _, _, _, _, _, _, _, _, _, _, _, _, _, _, _, _, _, _, _, _, _, _, _, _, _, _, _, .agg #[.slice a p.under.length ca, .int .i64 p.blocks, .slice b p.routes.length cb], .agg #[.slice a1 p.under.length c1, .int .i64 p.blocks, .slice b1 p.routes.length d1], .agg #[.slice x l.pos.length cx, .slice y l.set.length cy, .slice z l.taken.length cz], _, .int .i64 v, _, _, _, _, _, _, _, _, _, _, _, _, _, _, _, _, _, _, _, _], defers := [] } _
      refine wpAnyH_ready (rs := [3, 9]) (by kernel_rfl) (by simp) ?_
      refine AllReadyH.cons rfl (fun K hK => ?_) (AllReadyH.cons rfl (fun K hK => ?_) AllReadyH.nil)
      · skip
        go_simp
        refine (CU _ (hL.below (btrans HB Bp)) hT).mono ?_
        rintro e wq ⟨x9, cx9, y9, cy9, z9, cz9, rfl, L1, hb, hpl1, hpl2, hpl3, hpl4, hpl5, hpl6⟩
        have Bq := btrans Bp hb
        have sq := hb.size
        try rw [sz1] at sq
        try rw [szd] at sq
        have P1r := P1r.below hb
        have L1r := L1.read
        clear hb hHeld
        go_wp2_with fail
        refine hK.out _ _ (by obtain ⟨⟨k0, k1, k2⟩, -⟩ := blk3 (blk_keep Bq A0); obtain ⟨⟨k3, k4, k5⟩, -⟩ := blk3 (blk_keep Bq A1); exact ⟨k0, k1, k2, k3, k4, k5⟩) (fun hHeld => ?_)
        clear hK K
        change wpAnyH _ _ _ _ _ _ _ { tmps := #[_, _, _, _, _, _, _, _, _, _, _, _, _, _, _, _, _, _, _, _, _, _, _, _, _, _, _, _, _, _, _, _, _, _, _, _, _, _, _, _, _, _, _, _, _, _, _, _, _, _, _, _, _, _, _, _, _, _, _, _, _, _, _, _, _, _, _, _, _, _, _, _, _, _, _, _, _, _, _, _, _, _, _, _, _, _, _, _, _, _, _, _, _, _, _, _, _, _, _, .agg #[.slice a p.under.length ca, .int .i64 p.blocks, .slice b p.routes.length cb], .agg #[.slice a1 p.under.length c1, .int .i64 p.blocks, .slice b1 p.routes.length d1], .agg #[.slice x l.pos.length cx, .slice y l.set.length cy, .slice z l.taken.length cz], .agg #[.slice x9 l.pos.length cx9, .slice y9 l.set.length cy9, .slice z9 l.taken.length cz9], .int .i64 v, _, _, _, _, _, _, _, _, _, _, _, _, _, _, _, _, _, _, _, _], defers := [] } _
        refine wpAnyH_ready (rs := [5, 9]) (by kernel_rfl) (by simp) ?_
        refine AllReadyH.cons rfl (fun K hK => ?_) (AllReadyH.cons rfl (fun K hK => ?_) AllReadyH.nil)
        · skip
          go_simp
          refine (CI _ _ _ _ _ _ _ _ _ _ _ P1r L1r ⟨hpl2, hpl1⟩ ⟨hpl4, hpl3⟩ ⟨hpl6, hpl5⟩ hS hT).mono ?_
          rintro e wf ⟨x8, cx8, y8, cy8, z8, cz8, rfl, O8, hb⟩
          have Bf := btrans Bq hb
          have s8 := hb.size
          try rw [sz1] at s8
          try rw [szd] at s8
          try rw [sz1] at O8
          clear hb hHeld
          go_wp2_with fail
          refine hK.out _ _ (by obtain ⟨⟨k0, k1, k2⟩, -⟩ := blk3 (blk_keep Bf A0); obtain ⟨⟨k3, k4, k5⟩, -⟩ := blk3 (blk_keep Bf A1); exact ⟨k0, k1, k2, k3, k4, k5⟩) (fun hHeld => ?_)
          clear hK K
          change wpAnyH _ _ _ _ _ _ _ { tmps := #[_, _, _, _, _, _, _, _, _, _, _, _, _, _, _, _, _, _, _, _, _, _, _, _, _, _, _, _, _, _, _, _, _, _, _, _, _, _, _, _, _, _, _, _, _, _, _, _, _, _, _, _, _, _, _, _, _, _, _, _, _, _, _, _, _, _, _, _, _, _, _, _, _, _, _, _, _, _, _, _, _, _, _, _, _, _, _, _, _, _, _, _, _, _, _, _, _, _, _, .agg #[.slice a p.under.length ca, .int .i64 p.blocks, .slice b p.routes.length cb], .agg #[.slice a1 p.under.length c1, .int .i64 p.blocks, .slice b1 p.routes.length d1], .agg #[.slice x l.pos.length cx, .slice y l.set.length cy, .slice z l.taken.length cz], .agg #[.slice x9 l.pos.length cx9, .slice y9 l.set.length cy9, .slice z9 l.taken.length cz9], .int .i64 v, .tuple #[.agg #[.slice x8 l'.pos.length cx8, .slice y8 l'.set.length cy8, .slice z8 l'.taken.length cz8], .int .i64 c'], _, _, _, _, _, _, _, _, _, _, _, _, _, _, _, _, _, _, _], defers := [] } _
          refine wpAnyH_take (i := 6) (v := .tuple #[.agg #[.slice x8 l'.pos.length cx8, .slice y8 l'.set.length cy8, .slice z8 l'.taken.length cz8], .int .i64 c']) rfl (by kernel_rfl) (by kernel_rfl) (by kernel_rfl) (fun _ _ _ h => h) (Or.inl ⟨by kernel_rfl, fun w hS => by (obtain ⟨hS0, hS1, hS2, hS3, hS4, hS5⟩ := hS; go_simp)⟩) hHeld ?_
          change wpAnyH _ _ _ _ _ _ _ { tmps := #[_, _, _, _, _, _, _, _, _, _, _, _, _, _, _, _, _, _, _, _, _, _, _, _, _, _, _, _, _, _, _, _, _, _, _, _, _, _, _, _, _, _, _, _, _, _, _, _, _, _, _, _, _, _, _, _, _, _, _, _, _, _, _, _, _, _, _, _, _, _, _, _, _, _, _, _, _, _, _, _, _, _, _, _, _, _, _, _, _, _, _, _, _, _, _, _, _, _, .tuple #[.agg #[.slice x8 l'.pos.length cx8, .slice y8 l'.set.length cy8, .slice z8 l'.taken.length cz8], .int .i64 c'], .agg #[.slice a p.under.length ca, .int .i64 p.blocks, .slice b p.routes.length cb], .agg #[.slice a1 p.under.length c1, .int .i64 p.blocks, .slice b1 p.routes.length d1], .agg #[.slice x l.pos.length cx, .slice y l.set.length cy, .slice z l.taken.length cz], .agg #[.slice x9 l.pos.length cx9, .slice y9 l.set.length cy9, .slice z9 l.taken.length cz9], .int .i64 v, .tuple #[.agg #[.slice x8 l'.pos.length cx8, .slice y8 l'.set.length cy8, .slice z8 l'.taken.length cz8], .int .i64 c'], _, _, _, _, _, _, _, _, _, _, _, _, _, _, _, _, _, _, _], defers := [] } _
          refine wpAnyH_take (i := 7) (v := .agg #[.slice x8 l'.pos.length cx8, .slice y8 l'.set.length cy8, .slice z8 l'.taken.length cz8]) rfl (by kernel_rfl) (by kernel_rfl) (by kernel_rfl) (fun _ _ _ h => h) (Or.inl ⟨by kernel_rfl, fun w hS => by (obtain ⟨hS0, hS1, hS2, hS3, hS4, hS5⟩ := hS; go_simp)⟩) hHeld ?_
          change wpAnyH _ _ _ _ _ _ _ { tmps := #[_, _, _, _, _, _, _, _, _, _, _, _, _, _, _, _, _, _, _, _, _, _, _, _, _, _, _, _, _, _, _, _, _, _, _, _, _, _, _, _, _, _, _, _, _, _, _, _, _, _, _, _, _, _, _, _, _, _, _, _, _, _, _, _, _, _, _, _, _, _, _, _, _, _, _, _, _, _, _, _, _, _, _, _, _, _, _, _, _, _, _, _, _, _, _, _, _, _, .tuple #[.agg #[.slice x8 l'.pos.length cx8, .slice y8 l'.set.length cy8, .slice z8 l'.taken.length cz8], .int .i64 c'], .agg #[.slice a p.under.length ca, .int .i64 p.blocks, .slice b p.routes.length cb], .agg #[.slice a1 p.under.length c1, .int .i64 p.blocks, .slice b1 p.routes.length d1], .agg #[.slice x l.pos.length cx, .slice y l.set.length cy, .slice z l.taken.length cz], .agg #[.slice x9 l.pos.length cx9, .slice y9 l.set.length cy9, .slice z9 l.taken.length cz9], .int .i64 v, .tuple #[.agg #[.slice x8 l'.pos.length cx8, .slice y8 l'.set.length cy8, .slice z8 l'.taken.length cz8], .int .i64 c'], .agg #[.slice x8 l'.pos.length cx8, .slice y8 l'.set.length cy8, .slice z8 l'.taken.length cz8], _, _, _, _, _, _, _, _, _, _, _, _, _, _, _, _, _, _], defers := [] } _
          refine wpAnyH_take (i := 8) (v := .int .i64 c') rfl (by kernel_rfl) (by kernel_rfl) (by kernel_rfl) (fun _ _ _ h => h) (Or.inl ⟨by kernel_rfl, fun w hS => by (obtain ⟨hS0, hS1, hS2, hS3, hS4, hS5⟩ := hS; go_simp)⟩) hHeld ?_
          change wpAnyH _ _ _ _ _ _ _ { tmps := #[_, _, _, _, _, _, _, _, _, _, _, _, _, _, _, _, _, _, _, _, _, _, _, _, _, _, _, _, _, _, _, _, _, _, _, _, _, _, _, _, _, _, _, _, _, _, _, _, _, _, _, _, _, _, _, _, _, _, _, _, _, _, _, _, _, _, _, _, _, _, _, _, _, _, _, _, _, _, _, _, _, _, _, _, _, _, _, _, _, _, _, _, _, _, _, _, _, _, .tuple #[.agg #[.slice x8 l'.pos.length cx8, .slice y8 l'.set.length cy8, .slice z8 l'.taken.length cz8], .int .i64 c'], .agg #[.slice a p.under.length ca, .int .i64 p.blocks, .slice b p.routes.length cb], .agg #[.slice a1 p.under.length c1, .int .i64 p.blocks, .slice b1 p.routes.length d1], .agg #[.slice x l.pos.length cx, .slice y l.set.length cy, .slice z l.taken.length cz], .agg #[.slice x9 l.pos.length cx9, .slice y9 l.set.length cy9, .slice z9 l.taken.length cz9], .int .i64 v, .tuple #[.agg #[.slice x8 l'.pos.length cx8, .slice y8 l'.set.length cy8, .slice z8 l'.taken.length cz8], .int .i64 c'], .agg #[.slice x8 l'.pos.length cx8, .slice y8 l'.set.length cy8, .slice z8 l'.taken.length cz8], .int .i64 c', _, _, _, _, _, _, _, _, _, _, _, _, _, _, _, _, _], defers := [] } _
          refine wpAnyH_ready (rs := [9]) (by kernel_rfl) (by simp) ?_
          refine AllReadyH.cons rfl (fun K hK => ?_) AllReadyH.nil
          go_simp
          have Ba := btrans Bf (balloc wf (.cells #[.slice none 0 0, .slice none 0 0, .slice none 0 0] 38))
          clear hHeld
          refine hK.out _ _ (by obtain ⟨⟨k0, k1, k2⟩, -⟩ := blk3 (blk_keep Ba A0); obtain ⟨⟨k3, k4, k5⟩, -⟩ := blk3 (blk_keep Ba A1); exact ⟨k0, k1, k2, k3, k4, k5⟩) (fun hHeld => ?_)
          clear hK K
          change wpAnyH _ _ _ _ _ _ _ { tmps := #[_, _, _, _, _, _, _, _, _, _, _, _, _, _, _, _, _, .pointer (some ⟨wf.heap.size, 0, none⟩), _, _, _, _, _, _, _, _, _, _, _, _, _, _, _, _, _, _, _, _, _, _, _, _, _, _, _, _, _, _, _, _, _, _, _, _, _, _, _, _, _, _, _, _, _, _, _, _, _, _, _, _, _, _, _, _, _, _, _, _, _, _, _, _, _, _, _, _, _, _, _, _, _, _, _, _, _, _, _, _, .tuple #[.agg #[.slice x8 l'.pos.length cx8, .slice y8 l'.set.length cy8, .slice z8 l'.taken.length cz8], .int .i64 c'], .agg #[.slice a p.under.length ca, .int .i64 p.blocks, .slice b p.routes.length cb], .agg #[.slice a1 p.under.length c1, .int .i64 p.blocks, .slice b1 p.routes.length d1], .agg #[.slice x l.pos.length cx, .slice y l.set.length cy, .slice z l.taken.length cz], .agg #[.slice x9 l.pos.length cx9, .slice y9 l.set.length cy9, .slice z9 l.taken.length cz9], .int .i64 v, .tuple #[.agg #[.slice x8 l'.pos.length cx8, .slice y8 l'.set.length cy8, .slice z8 l'.taken.length cz8], .int .i64 c'], .agg #[.slice x8 l'.pos.length cx8, .slice y8 l'.set.length cy8, .slice z8 l'.taken.length cz8], .int .i64 c', _, _, _, _, _, _, _, _, _, _, _, _, _, _, _, _, _], defers := [] } _
          refine wpAnyH_ready (rs := [10]) (by kernel_rfl) (by simp) ?_
          refine AllReadyH.cons rfl (fun K hK => ?_) AllReadyH.nil
          go_simp
          have Bs := btrans Bf (balloc wf (.cells #[.slice x8 l'.pos.length cx8, .slice y8 l'.set.length cy8, .slice z8 l'.taken.length cz8] 38))
          clear hHeld
          refine hK.out _ _ (by obtain ⟨⟨k0, k1, k2⟩, -⟩ := blk3 (blk_keep Bs A0); obtain ⟨⟨k3, k4, k5⟩, -⟩ := blk3 (blk_keep Bs A1); exact ⟨k0, k1, k2, k3, k4, k5⟩) (fun hHeld => ?_)
          clear hK K
          change wpAnyH _ _ _ _ _ _ _ { tmps := #[_, _, _, _, _, _, _, _, _, _, _, _, _, _, _, _, _, .pointer (some ⟨wf.heap.size, 0, none⟩), _, _, _, _, _, _, _, _, _, _, _, _, _, _, _, _, _, _, _, _, _, _, _, _, _, _, _, _, _, _, _, _, _, _, _, _, _, _, _, _, _, _, _, _, _, _, _, _, _, _, _, _, _, _, _, _, _, _, _, _, _, _, _, _, _, _, _, _, _, _, _, _, _, _, _, _, _, _, _, _, .tuple #[.agg #[.slice x8 l'.pos.length cx8, .slice y8 l'.set.length cy8, .slice z8 l'.taken.length cz8], .int .i64 c'], .agg #[.slice a p.under.length ca, .int .i64 p.blocks, .slice b p.routes.length cb], .agg #[.slice a1 p.under.length c1, .int .i64 p.blocks, .slice b1 p.routes.length d1], .agg #[.slice x l.pos.length cx, .slice y l.set.length cy, .slice z l.taken.length cz], .agg #[.slice x9 l.pos.length cx9, .slice y9 l.set.length cy9, .slice z9 l.taken.length cz9], .int .i64 v, .tuple #[.agg #[.slice x8 l'.pos.length cx8, .slice y8 l'.set.length cy8, .slice z8 l'.taken.length cz8], .int .i64 c'], .agg #[.slice x8 l'.pos.length cx8, .slice y8 l'.set.length cy8, .slice z8 l'.taken.length cz8], .int .i64 c', _, _, _, _, _, _, _, _, _, _, _, _, _, _, _, _, _], defers := [] } _
          refine wpAnyH_take (i := 11) (v := .int .i64 c') rfl (by kernel_rfl) (by kernel_rfl) (by kernel_rfl) (fun _ _ _ h => h) (Or.inl ⟨by kernel_rfl, fun w hS => by (obtain ⟨hS0, hS1, hS2, hS3, hS4, hS5⟩ := hS; go_simp)⟩) hHeld ?_
          change wpAnyH _ _ _ _ _ _ _ { tmps := #[_, _, _, _, _, _, _, _, _, _, _, _, _, _, _, _, _, .pointer (some ⟨wf.heap.size, 0, none⟩), .int .i64 c', _, _, _, _, _, _, _, _, _, _, _, _, _, _, _, _, _, _, _, _, _, _, _, _, _, _, _, _, _, _, _, _, _, _, _, _, _, _, _, _, _, _, _, _, _, _, _, _, _, _, _, _, _, _, _, _, _, _, _, _, _, _, _, _, _, _, _, _, _, _, _, _, _, _, _, _, _, _, _, .tuple #[.agg #[.slice x8 l'.pos.length cx8, .slice y8 l'.set.length cy8, .slice z8 l'.taken.length cz8], .int .i64 c'], .agg #[.slice a p.under.length ca, .int .i64 p.blocks, .slice b p.routes.length cb], .agg #[.slice a1 p.under.length c1, .int .i64 p.blocks, .slice b1 p.routes.length d1], .agg #[.slice x l.pos.length cx, .slice y l.set.length cy, .slice z l.taken.length cz], .agg #[.slice x9 l.pos.length cx9, .slice y9 l.set.length cy9, .slice z9 l.taken.length cz9], .int .i64 v, .tuple #[.agg #[.slice x8 l'.pos.length cx8, .slice y8 l'.set.length cy8, .slice z8 l'.taken.length cz8], .int .i64 c'], .agg #[.slice x8 l'.pos.length cx8, .slice y8 l'.set.length cy8, .slice z8 l'.taken.length cz8], .int .i64 c', _, _, _, _, _, _, _, _, _, _, _, _, _, _, _, _, _], defers := [] } _
          refine wpAnyH_done (by kernel_rfl) ?_ _
          go_wp2_with fail
          go_meet
          have sW := Bq.size
          exact gotN Bf O8 ⟨by omega, by omega⟩
        · skip
          go_simp
          have Ba := btrans Bq (balloc wq (.cells #[.slice none 0 0, .slice none 0 0, .slice none 0 0] 38))
          have zB : (wq.alloc (.cells #[.slice none 0 0, .slice none 0 0, .slice none 0 0] 38)).heap[wq.heap.size]? = some (.cells #[.slice none 0 0, .slice none 0 0, .slice none 0 0] 38 (0, 0)) := new1
          clear hHeld
          refine hK.out _ _ (by obtain ⟨⟨k0, k1, k2⟩, -⟩ := blk3 (blk_keep Ba A0); obtain ⟨⟨k3, k4, k5⟩, -⟩ := blk3 (blk_keep Ba A1); exact ⟨k0, k1, k2, k3, k4, k5⟩) (fun hHeld => ?_)
          clear hK K
          change wpAnyH _ _ _ _ _ _ _ { tmps := #[_, _, _, _, _, _, _, _, _, _, _, _, _, _, _, _, _, .pointer (some ⟨wq.heap.size, 0, none⟩), _, _, _, _, _, _, _, _, _, _, _, _, _, _, _, _, _, _, _, _, _, _, _, _, _, _, _, _, _, _, _, _, _, _, _, _, _, _, _, _, _, _, _, _, _, _, _, _, _, _, _, _, _, _, _, _, _, _, _, _, _, _, _, _, _, _, _, _, _, _, _, _, _, _, _, _, _, _, _, _, _, .agg #[.slice a p.under.length ca, .int .i64 p.blocks, .slice b p.routes.length cb], .agg #[.slice a1 p.under.length c1, .int .i64 p.blocks, .slice b1 p.routes.length d1], .agg #[.slice x l.pos.length cx, .slice y l.set.length cy, .slice z l.taken.length cz], .agg #[.slice x9 l.pos.length cx9, .slice y9 l.set.length cy9, .slice z9 l.taken.length cz9], .int .i64 v, _, _, _, _, _, _, _, _, _, _, _, _, _, _, _, _, _, _, _, _], defers := [] } _
          have P1r := P1r.below (balloc _ (.cells #[.slice none 0 0, .slice none 0 0, .slice none 0 0] 38))
          have L1r := L1r.below (balloc _ (.cells #[.slice none 0 0, .slice none 0 0, .slice none 0 0] 38))
          refine wpAnyH_ready (rs := [5]) (by kernel_rfl) (by simp) ?_
          refine AllReadyH.cons rfl (fun K hK => ?_) AllReadyH.nil
          go_simp
          refine (CI _ _ _ _ _ _ _ _ _ _ _ P1r L1r ⟨hpl2, hpl1⟩ ⟨hpl4, hpl3⟩ ⟨hpl6, hpl5⟩ hS hT).mono ?_
          rintro e wf ⟨x8, cx8, y8, cy8, z8, cz8, rfl, O8, hb⟩
          have Bf := btrans Ba hb
          have s8 := hb.size
          try rw [sz1] at s8
          try rw [szd] at s8
          try rw [sz1] at O8
          have zB := blk_keep hb zB
          clear hb hHeld
          go_wp2_with fail
          refine hK.out _ _ (by obtain ⟨⟨k0, k1, k2⟩, -⟩ := blk3 (blk_keep Bf A0); obtain ⟨⟨k3, k4, k5⟩, -⟩ := blk3 (blk_keep Bf A1); exact ⟨k0, k1, k2, k3, k4, k5⟩) (fun hHeld => ?_)
          clear hK K
          change wpAnyH _ _ _ _ _ _ _ { tmps := #[_, _, _, _, _, _, _, _, _, _, _, _, _, _, _, _, _, .pointer (some ⟨wq.heap.size, 0, none⟩), _, _, _, _, _, _, _, _, _, _, _, _, _, _, _, _, _, _, _, _, _, _, _, _, _, _, _, _, _, _, _, _, _, _, _, _, _, _, _, _, _, _, _, _, _, _, _, _, _, _, _, _, _, _, _, _, _, _, _, _, _, _, _, _, _, _, _, _, _, _, _, _, _, _, _, _, _, _, _, _, _, .agg #[.slice a p.under.length ca, .int .i64 p.blocks, .slice b p.routes.length cb], .agg #[.slice a1 p.under.length c1, .int .i64 p.blocks, .slice b1 p.routes.length d1], .agg #[.slice x l.pos.length cx, .slice y l.set.length cy, .slice z l.taken.length cz], .agg #[.slice x9 l.pos.length cx9, .slice y9 l.set.length cy9, .slice z9 l.taken.length cz9], .int .i64 v, .tuple #[.agg #[.slice x8 l'.pos.length cx8, .slice y8 l'.set.length cy8, .slice z8 l'.taken.length cz8], .int .i64 c'], _, _, _, _, _, _, _, _, _, _, _, _, _, _, _, _, _, _, _], defers := [] } _
          refine wpAnyH_take (i := 6) (v := .tuple #[.agg #[.slice x8 l'.pos.length cx8, .slice y8 l'.set.length cy8, .slice z8 l'.taken.length cz8], .int .i64 c']) rfl (by kernel_rfl) (by kernel_rfl) (by kernel_rfl) (fun _ _ _ h => h) (Or.inl ⟨by kernel_rfl, fun w hS => by (obtain ⟨hS0, hS1, hS2, hS3, hS4, hS5⟩ := hS; go_simp)⟩) hHeld ?_
          change wpAnyH _ _ _ _ _ _ _ { tmps := #[_, _, _, _, _, _, _, _, _, _, _, _, _, _, _, _, _, .pointer (some ⟨wq.heap.size, 0, none⟩), _, _, _, _, _, _, _, _, _, _, _, _, _, _, _, _, _, _, _, _, _, _, _, _, _, _, _, _, _, _, _, _, _, _, _, _, _, _, _, _, _, _, _, _, _, _, _, _, _, _, _, _, _, _, _, _, _, _, _, _, _, _, _, _, _, _, _, _, _, _, _, _, _, _, _, _, _, _, _, _, .tuple #[.agg #[.slice x8 l'.pos.length cx8, .slice y8 l'.set.length cy8, .slice z8 l'.taken.length cz8], .int .i64 c'], .agg #[.slice a p.under.length ca, .int .i64 p.blocks, .slice b p.routes.length cb], .agg #[.slice a1 p.under.length c1, .int .i64 p.blocks, .slice b1 p.routes.length d1], .agg #[.slice x l.pos.length cx, .slice y l.set.length cy, .slice z l.taken.length cz], .agg #[.slice x9 l.pos.length cx9, .slice y9 l.set.length cy9, .slice z9 l.taken.length cz9], .int .i64 v, .tuple #[.agg #[.slice x8 l'.pos.length cx8, .slice y8 l'.set.length cy8, .slice z8 l'.taken.length cz8], .int .i64 c'], _, _, _, _, _, _, _, _, _, _, _, _, _, _, _, _, _, _, _], defers := [] } _
          refine wpAnyH_take (i := 7) (v := .agg #[.slice x8 l'.pos.length cx8, .slice y8 l'.set.length cy8, .slice z8 l'.taken.length cz8]) rfl (by kernel_rfl) (by kernel_rfl) (by kernel_rfl) (fun _ _ _ h => h) (Or.inl ⟨by kernel_rfl, fun w hS => by (obtain ⟨hS0, hS1, hS2, hS3, hS4, hS5⟩ := hS; go_simp)⟩) hHeld ?_
          change wpAnyH _ _ _ _ _ _ _ { tmps := #[_, _, _, _, _, _, _, _, _, _, _, _, _, _, _, _, _, .pointer (some ⟨wq.heap.size, 0, none⟩), _, _, _, _, _, _, _, _, _, _, _, _, _, _, _, _, _, _, _, _, _, _, _, _, _, _, _, _, _, _, _, _, _, _, _, _, _, _, _, _, _, _, _, _, _, _, _, _, _, _, _, _, _, _, _, _, _, _, _, _, _, _, _, _, _, _, _, _, _, _, _, _, _, _, _, _, _, _, _, _, .tuple #[.agg #[.slice x8 l'.pos.length cx8, .slice y8 l'.set.length cy8, .slice z8 l'.taken.length cz8], .int .i64 c'], .agg #[.slice a p.under.length ca, .int .i64 p.blocks, .slice b p.routes.length cb], .agg #[.slice a1 p.under.length c1, .int .i64 p.blocks, .slice b1 p.routes.length d1], .agg #[.slice x l.pos.length cx, .slice y l.set.length cy, .slice z l.taken.length cz], .agg #[.slice x9 l.pos.length cx9, .slice y9 l.set.length cy9, .slice z9 l.taken.length cz9], .int .i64 v, .tuple #[.agg #[.slice x8 l'.pos.length cx8, .slice y8 l'.set.length cy8, .slice z8 l'.taken.length cz8], .int .i64 c'], .agg #[.slice x8 l'.pos.length cx8, .slice y8 l'.set.length cy8, .slice z8 l'.taken.length cz8], _, _, _, _, _, _, _, _, _, _, _, _, _, _, _, _, _, _], defers := [] } _
          refine wpAnyH_take (i := 8) (v := .int .i64 c') rfl (by kernel_rfl) (by kernel_rfl) (by kernel_rfl) (fun _ _ _ h => h) (Or.inl ⟨by kernel_rfl, fun w hS => by (obtain ⟨hS0, hS1, hS2, hS3, hS4, hS5⟩ := hS; go_simp)⟩) hHeld ?_
          change wpAnyH _ _ _ _ _ _ _ { tmps := #[_, _, _, _, _, _, _, _, _, _, _, _, _, _, _, _, _, .pointer (some ⟨wq.heap.size, 0, none⟩), _, _, _, _, _, _, _, _, _, _, _, _, _, _, _, _, _, _, _, _, _, _, _, _, _, _, _, _, _, _, _, _, _, _, _, _, _, _, _, _, _, _, _, _, _, _, _, _, _, _, _, _, _, _, _, _, _, _, _, _, _, _, _, _, _, _, _, _, _, _, _, _, _, _, _, _, _, _, _, _, .tuple #[.agg #[.slice x8 l'.pos.length cx8, .slice y8 l'.set.length cy8, .slice z8 l'.taken.length cz8], .int .i64 c'], .agg #[.slice a p.under.length ca, .int .i64 p.blocks, .slice b p.routes.length cb], .agg #[.slice a1 p.under.length c1, .int .i64 p.blocks, .slice b1 p.routes.length d1], .agg #[.slice x l.pos.length cx, .slice y l.set.length cy, .slice z l.taken.length cz], .agg #[.slice x9 l.pos.length cx9, .slice y9 l.set.length cy9, .slice z9 l.taken.length cz9], .int .i64 v, .tuple #[.agg #[.slice x8 l'.pos.length cx8, .slice y8 l'.set.length cy8, .slice z8 l'.taken.length cz8], .int .i64 c'], .agg #[.slice x8 l'.pos.length cx8, .slice y8 l'.set.length cy8, .slice z8 l'.taken.length cz8], .int .i64 c', _, _, _, _, _, _, _, _, _, _, _, _, _, _, _, _, _], defers := [] } _
          obtain ⟨⟨z0, z1, z2⟩, y0, y1, y2⟩ := blk3 zB
          refine wpAnyH_ready (rs := [10]) (by kernel_rfl) (by simp) ?_
          refine AllReadyH.cons rfl (fun K hK => ?_) AllReadyH.nil
          go_simp
          have hbk : w14.heap.size ≤ wq.heap.size := by first | exact Bq.size | (have := B0.size; omega)
          have Bs := stB (x := .slice x8 l'.pos.length cx8) (y := .slice y8 l'.set.length cy8) (z := .slice z8 l'.taken.length cz8) Bf hbk
          clear hHeld
          refine hK.out _ _ (by obtain ⟨⟨k0, k1, k2⟩, -⟩ := blk3 (blk_keep Bs A0); obtain ⟨⟨k3, k4, k5⟩, -⟩ := blk3 (blk_keep Bs A1); exact ⟨k0, k1, k2, k3, k4, k5⟩) (fun hHeld => ?_)
          clear hK K
          change wpAnyH _ _ _ _ _ _ _ { tmps := #[_, _, _, _, _, _, _, _, _, _, _, _, _, _, _, _, _, .pointer (some ⟨wq.heap.size, 0, none⟩), _, _, _, _, _, _, _, _, _, _, _, _, _, _, _, _, _, _, _, _, _, _, _, _, _, _, _, _, _, _, _, _, _, _, _, _, _, _, _, _, _, _, _, _, _, _, _, _, _, _, _, _, _, _, _, _, _, _, _, _, _, _, _, _, _, _, _, _, _, _, _, _, _, _, _, _, _, _, _, _, .tuple #[.agg #[.slice x8 l'.pos.length cx8, .slice y8 l'.set.length cy8, .slice z8 l'.taken.length cz8], .int .i64 c'], .agg #[.slice a p.under.length ca, .int .i64 p.blocks, .slice b p.routes.length cb], .agg #[.slice a1 p.under.length c1, .int .i64 p.blocks, .slice b1 p.routes.length d1], .agg #[.slice x l.pos.length cx, .slice y l.set.length cy, .slice z l.taken.length cz], .agg #[.slice x9 l.pos.length cx9, .slice y9 l.set.length cy9, .slice z9 l.taken.length cz9], .int .i64 v, .tuple #[.agg #[.slice x8 l'.pos.length cx8, .slice y8 l'.set.length cy8, .slice z8 l'.taken.length cz8], .int .i64 c'], .agg #[.slice x8 l'.pos.length cx8, .slice y8 l'.set.length cy8, .slice z8 l'.taken.length cz8], .int .i64 c', _, _, _, _, _, _, _, _, _, _, _, _, _, _, _, _, _], defers := [] } _
          refine wpAnyH_take (i := 11) (v := .int .i64 c') rfl (by kernel_rfl) (by kernel_rfl) (by kernel_rfl) (fun _ _ _ h => h) (Or.inl ⟨by kernel_rfl, fun w hS => by (obtain ⟨hS0, hS1, hS2, hS3, hS4, hS5⟩ := hS; go_simp)⟩) hHeld ?_
          change wpAnyH _ _ _ _ _ _ _ { tmps := #[_, _, _, _, _, _, _, _, _, _, _, _, _, _, _, _, _, .pointer (some ⟨wq.heap.size, 0, none⟩), .int .i64 c', _, _, _, _, _, _, _, _, _, _, _, _, _, _, _, _, _, _, _, _, _, _, _, _, _, _, _, _, _, _, _, _, _, _, _, _, _, _, _, _, _, _, _, _, _, _, _, _, _, _, _, _, _, _, _, _, _, _, _, _, _, _, _, _, _, _, _, _, _, _, _, _, _, _, _, _, _, _, _, .tuple #[.agg #[.slice x8 l'.pos.length cx8, .slice y8 l'.set.length cy8, .slice z8 l'.taken.length cz8], .int .i64 c'], .agg #[.slice a p.under.length ca, .int .i64 p.blocks, .slice b p.routes.length cb], .agg #[.slice a1 p.under.length c1, .int .i64 p.blocks, .slice b1 p.routes.length d1], .agg #[.slice x l.pos.length cx, .slice y l.set.length cy, .slice z l.taken.length cz], .agg #[.slice x9 l.pos.length cx9, .slice y9 l.set.length cy9, .slice z9 l.taken.length cz9], .int .i64 v, .tuple #[.agg #[.slice x8 l'.pos.length cx8, .slice y8 l'.set.length cy8, .slice z8 l'.taken.length cz8], .int .i64 c'], .agg #[.slice x8 l'.pos.length cx8, .slice y8 l'.set.length cy8, .slice z8 l'.taken.length cz8], .int .i64 c', _, _, _, _, _, _, _, _, _, _, _, _, _, _, _, _, _], defers := [] } _
          refine wpAnyH_done (by kernel_rfl) ?_ _
          go_wp2_with fail
          go_meet
          have sW := Bq.size
          have sX := lt_of_block zB
          exact gotL Bf zB hbk O8 ⟨by omega, by omega, by omega⟩
      · skip
        go_simp
        have Ba := btrans Bp (balloc wp (.cells #[.slice none 0 0, .slice none 0 0, .slice none 0 0] 38))
        have zB : (wp.alloc (.cells #[.slice none 0 0, .slice none 0 0, .slice none 0 0] 38)).heap[wp.heap.size]? = some (.cells #[.slice none 0 0, .slice none 0 0, .slice none 0 0] 38 (0, 0)) := new1
        clear hHeld
        refine hK.out _ _ (by obtain ⟨⟨k0, k1, k2⟩, -⟩ := blk3 (blk_keep Ba A0); obtain ⟨⟨k3, k4, k5⟩, -⟩ := blk3 (blk_keep Ba A1); exact ⟨k0, k1, k2, k3, k4, k5⟩) (fun hHeld => ?_)
        clear hK K
        change wpAnyH _ _ _ _ _ _ _ { tmps := #[_, _, _, _, _, _, _, _, _, _, _, _, _, _, _, _, _, .pointer (some ⟨wp.heap.size, 0, none⟩), _, _, _, _, _, _, _, _, _, _, _, _, _, _, _, _, _, _, _, _, _, _, _, _, _, _, _, _, _, _, _, _, _, _, _, _, _, _, _, _, _, _, _, _, _, _, _, _, _, _, _, _, _, _, _, _, _, _, _, _, _, _, _, _, _, _, _, _, _, _, _, _, _, _, _, _, _, _, _, _, _, .agg #[.slice a p.under.length ca, .int .i64 p.blocks, .slice b p.routes.length cb], .agg #[.slice a1 p.under.length c1, .int .i64 p.blocks, .slice b1 p.routes.length d1], .agg #[.slice x l.pos.length cx, .slice y l.set.length cy, .slice z l.taken.length cz], _, .int .i64 v, _, _, _, _, _, _, _, _, _, _, _, _, _, _, _, _, _, _, _, _], defers := [] } _
        have P1r := P1r.below (balloc _ (.cells #[.slice none 0 0, .slice none 0 0, .slice none 0 0] 38))
        refine wpAnyH_ready (rs := [3]) (by kernel_rfl) (by simp) ?_
        refine AllReadyH.cons rfl (fun K hK => ?_) AllReadyH.nil
        go_simp
        refine (CU _ (hL.below (btrans HB Ba)) hT).mono ?_
        rintro e wq ⟨x9, cx9, y9, cy9, z9, cz9, rfl, L1, hb, hpl1, hpl2, hpl3, hpl4, hpl5, hpl6⟩
        have Bq := btrans Ba hb
        have sq := hb.size
        try rw [sz1] at sq
        try rw [szd] at sq
        have P1r := P1r.below hb
        have L1r := L1.read
        have zB := blk_keep hb zB
        clear hb hHeld
        go_wp2_with fail
        refine hK.out _ _ (by obtain ⟨⟨k0, k1, k2⟩, -⟩ := blk3 (blk_keep Bq A0); obtain ⟨⟨k3, k4, k5⟩, -⟩ := blk3 (blk_keep Bq A1); exact ⟨k0, k1, k2, k3, k4, k5⟩) (fun hHeld => ?_)
        clear hK K
        change wpAnyH _ _ _ _ _ _ _ { tmps := #[_, _, _, _, _, _, _, _, _, _, _, _, _, _, _, _, _, .pointer (some ⟨wp.heap.size, 0, none⟩), _, _, _, _, _, _, _, _, _, _, _, _, _, _, _, _, _, _, _, _, _, _, _, _, _, _, _, _, _, _, _, _, _, _, _, _, _, _, _, _, _, _, _, _, _, _, _, _, _, _, _, _, _, _, _, _, _, _, _, _, _, _, _, _, _, _, _, _, _, _, _, _, _, _, _, _, _, _, _, _, _, .agg #[.slice a p.under.length ca, .int .i64 p.blocks, .slice b p.routes.length cb], .agg #[.slice a1 p.under.length c1, .int .i64 p.blocks, .slice b1 p.routes.length d1], .agg #[.slice x l.pos.length cx, .slice y l.set.length cy, .slice z l.taken.length cz], .agg #[.slice x9 l.pos.length cx9, .slice y9 l.set.length cy9, .slice z9 l.taken.length cz9], .int .i64 v, _, _, _, _, _, _, _, _, _, _, _, _, _, _, _, _, _, _, _, _], defers := [] } _
        refine wpAnyH_ready (rs := [5]) (by kernel_rfl) (by simp) ?_
        refine AllReadyH.cons rfl (fun K hK => ?_) AllReadyH.nil
        go_simp
        refine (CI _ _ _ _ _ _ _ _ _ _ _ P1r L1r ⟨hpl2, hpl1⟩ ⟨hpl4, hpl3⟩ ⟨hpl6, hpl5⟩ hS hT).mono ?_
        rintro e wf ⟨x8, cx8, y8, cy8, z8, cz8, rfl, O8, hb⟩
        have Bf := btrans Bq hb
        have s8 := hb.size
        try rw [sz1] at s8
        try rw [szd] at s8
        try rw [sz1] at O8
        have zB := blk_keep hb zB
        clear hb hHeld
        go_wp2_with fail
        refine hK.out _ _ (by obtain ⟨⟨k0, k1, k2⟩, -⟩ := blk3 (blk_keep Bf A0); obtain ⟨⟨k3, k4, k5⟩, -⟩ := blk3 (blk_keep Bf A1); exact ⟨k0, k1, k2, k3, k4, k5⟩) (fun hHeld => ?_)
        clear hK K
        change wpAnyH _ _ _ _ _ _ _ { tmps := #[_, _, _, _, _, _, _, _, _, _, _, _, _, _, _, _, _, .pointer (some ⟨wp.heap.size, 0, none⟩), _, _, _, _, _, _, _, _, _, _, _, _, _, _, _, _, _, _, _, _, _, _, _, _, _, _, _, _, _, _, _, _, _, _, _, _, _, _, _, _, _, _, _, _, _, _, _, _, _, _, _, _, _, _, _, _, _, _, _, _, _, _, _, _, _, _, _, _, _, _, _, _, _, _, _, _, _, _, _, _, _, .agg #[.slice a p.under.length ca, .int .i64 p.blocks, .slice b p.routes.length cb], .agg #[.slice a1 p.under.length c1, .int .i64 p.blocks, .slice b1 p.routes.length d1], .agg #[.slice x l.pos.length cx, .slice y l.set.length cy, .slice z l.taken.length cz], .agg #[.slice x9 l.pos.length cx9, .slice y9 l.set.length cy9, .slice z9 l.taken.length cz9], .int .i64 v, .tuple #[.agg #[.slice x8 l'.pos.length cx8, .slice y8 l'.set.length cy8, .slice z8 l'.taken.length cz8], .int .i64 c'], _, _, _, _, _, _, _, _, _, _, _, _, _, _, _, _, _, _, _], defers := [] } _
        refine wpAnyH_take (i := 6) (v := .tuple #[.agg #[.slice x8 l'.pos.length cx8, .slice y8 l'.set.length cy8, .slice z8 l'.taken.length cz8], .int .i64 c']) rfl (by kernel_rfl) (by kernel_rfl) (by kernel_rfl) (fun _ _ _ h => h) (Or.inl ⟨by kernel_rfl, fun w hS => by (obtain ⟨hS0, hS1, hS2, hS3, hS4, hS5⟩ := hS; go_simp)⟩) hHeld ?_
        change wpAnyH _ _ _ _ _ _ _ { tmps := #[_, _, _, _, _, _, _, _, _, _, _, _, _, _, _, _, _, .pointer (some ⟨wp.heap.size, 0, none⟩), _, _, _, _, _, _, _, _, _, _, _, _, _, _, _, _, _, _, _, _, _, _, _, _, _, _, _, _, _, _, _, _, _, _, _, _, _, _, _, _, _, _, _, _, _, _, _, _, _, _, _, _, _, _, _, _, _, _, _, _, _, _, _, _, _, _, _, _, _, _, _, _, _, _, _, _, _, _, _, _, .tuple #[.agg #[.slice x8 l'.pos.length cx8, .slice y8 l'.set.length cy8, .slice z8 l'.taken.length cz8], .int .i64 c'], .agg #[.slice a p.under.length ca, .int .i64 p.blocks, .slice b p.routes.length cb], .agg #[.slice a1 p.under.length c1, .int .i64 p.blocks, .slice b1 p.routes.length d1], .agg #[.slice x l.pos.length cx, .slice y l.set.length cy, .slice z l.taken.length cz], .agg #[.slice x9 l.pos.length cx9, .slice y9 l.set.length cy9, .slice z9 l.taken.length cz9], .int .i64 v, .tuple #[.agg #[.slice x8 l'.pos.length cx8, .slice y8 l'.set.length cy8, .slice z8 l'.taken.length cz8], .int .i64 c'], _, _, _, _, _, _, _, _, _, _, _, _, _, _, _, _, _, _, _], defers := [] } _
        refine wpAnyH_take (i := 7) (v := .agg #[.slice x8 l'.pos.length cx8, .slice y8 l'.set.length cy8, .slice z8 l'.taken.length cz8]) rfl (by kernel_rfl) (by kernel_rfl) (by kernel_rfl) (fun _ _ _ h => h) (Or.inl ⟨by kernel_rfl, fun w hS => by (obtain ⟨hS0, hS1, hS2, hS3, hS4, hS5⟩ := hS; go_simp)⟩) hHeld ?_
        change wpAnyH _ _ _ _ _ _ _ { tmps := #[_, _, _, _, _, _, _, _, _, _, _, _, _, _, _, _, _, .pointer (some ⟨wp.heap.size, 0, none⟩), _, _, _, _, _, _, _, _, _, _, _, _, _, _, _, _, _, _, _, _, _, _, _, _, _, _, _, _, _, _, _, _, _, _, _, _, _, _, _, _, _, _, _, _, _, _, _, _, _, _, _, _, _, _, _, _, _, _, _, _, _, _, _, _, _, _, _, _, _, _, _, _, _, _, _, _, _, _, _, _, .tuple #[.agg #[.slice x8 l'.pos.length cx8, .slice y8 l'.set.length cy8, .slice z8 l'.taken.length cz8], .int .i64 c'], .agg #[.slice a p.under.length ca, .int .i64 p.blocks, .slice b p.routes.length cb], .agg #[.slice a1 p.under.length c1, .int .i64 p.blocks, .slice b1 p.routes.length d1], .agg #[.slice x l.pos.length cx, .slice y l.set.length cy, .slice z l.taken.length cz], .agg #[.slice x9 l.pos.length cx9, .slice y9 l.set.length cy9, .slice z9 l.taken.length cz9], .int .i64 v, .tuple #[.agg #[.slice x8 l'.pos.length cx8, .slice y8 l'.set.length cy8, .slice z8 l'.taken.length cz8], .int .i64 c'], .agg #[.slice x8 l'.pos.length cx8, .slice y8 l'.set.length cy8, .slice z8 l'.taken.length cz8], _, _, _, _, _, _, _, _, _, _, _, _, _, _, _, _, _, _], defers := [] } _
        refine wpAnyH_take (i := 8) (v := .int .i64 c') rfl (by kernel_rfl) (by kernel_rfl) (by kernel_rfl) (fun _ _ _ h => h) (Or.inl ⟨by kernel_rfl, fun w hS => by (obtain ⟨hS0, hS1, hS2, hS3, hS4, hS5⟩ := hS; go_simp)⟩) hHeld ?_
        change wpAnyH _ _ _ _ _ _ _ { tmps := #[_, _, _, _, _, _, _, _, _, _, _, _, _, _, _, _, _, .pointer (some ⟨wp.heap.size, 0, none⟩), _, _, _, _, _, _, _, _, _, _, _, _, _, _, _, _, _, _, _, _, _, _, _, _, _, _, _, _, _, _, _, _, _, _, _, _, _, _, _, _, _, _, _, _, _, _, _, _, _, _, _, _, _, _, _, _, _, _, _, _, _, _, _, _, _, _, _, _, _, _, _, _, _, _, _, _, _, _, _, _, .tuple #[.agg #[.slice x8 l'.pos.length cx8, .slice y8 l'.set.length cy8, .slice z8 l'.taken.length cz8], .int .i64 c'], .agg #[.slice a p.under.length ca, .int .i64 p.blocks, .slice b p.routes.length cb], .agg #[.slice a1 p.under.length c1, .int .i64 p.blocks, .slice b1 p.routes.length d1], .agg #[.slice x l.pos.length cx, .slice y l.set.length cy, .slice z l.taken.length cz], .agg #[.slice x9 l.pos.length cx9, .slice y9 l.set.length cy9, .slice z9 l.taken.length cz9], .int .i64 v, .tuple #[.agg #[.slice x8 l'.pos.length cx8, .slice y8 l'.set.length cy8, .slice z8 l'.taken.length cz8], .int .i64 c'], .agg #[.slice x8 l'.pos.length cx8, .slice y8 l'.set.length cy8, .slice z8 l'.taken.length cz8], .int .i64 c', _, _, _, _, _, _, _, _, _, _, _, _, _, _, _, _, _], defers := [] } _
        obtain ⟨⟨z0, z1, z2⟩, y0, y1, y2⟩ := blk3 zB
        refine wpAnyH_ready (rs := [10]) (by kernel_rfl) (by simp) ?_
        refine AllReadyH.cons rfl (fun K hK => ?_) AllReadyH.nil
        go_simp
        have hbk : w14.heap.size ≤ wp.heap.size := by first | exact Bp.size | (have := B0.size; omega)
        have Bs := stB (x := .slice x8 l'.pos.length cx8) (y := .slice y8 l'.set.length cy8) (z := .slice z8 l'.taken.length cz8) Bf hbk
        clear hHeld
        refine hK.out _ _ (by obtain ⟨⟨k0, k1, k2⟩, -⟩ := blk3 (blk_keep Bs A0); obtain ⟨⟨k3, k4, k5⟩, -⟩ := blk3 (blk_keep Bs A1); exact ⟨k0, k1, k2, k3, k4, k5⟩) (fun hHeld => ?_)
        clear hK K
        change wpAnyH _ _ _ _ _ _ _ { tmps := #[_, _, _, _, _, _, _, _, _, _, _, _, _, _, _, _, _, .pointer (some ⟨wp.heap.size, 0, none⟩), _, _, _, _, _, _, _, _, _, _, _, _, _, _, _, _, _, _, _, _, _, _, _, _, _, _, _, _, _, _, _, _, _, _, _, _, _, _, _, _, _, _, _, _, _, _, _, _, _, _, _, _, _, _, _, _, _, _, _, _, _, _, _, _, _, _, _, _, _, _, _, _, _, _, _, _, _, _, _, _, .tuple #[.agg #[.slice x8 l'.pos.length cx8, .slice y8 l'.set.length cy8, .slice z8 l'.taken.length cz8], .int .i64 c'], .agg #[.slice a p.under.length ca, .int .i64 p.blocks, .slice b p.routes.length cb], .agg #[.slice a1 p.under.length c1, .int .i64 p.blocks, .slice b1 p.routes.length d1], .agg #[.slice x l.pos.length cx, .slice y l.set.length cy, .slice z l.taken.length cz], .agg #[.slice x9 l.pos.length cx9, .slice y9 l.set.length cy9, .slice z9 l.taken.length cz9], .int .i64 v, .tuple #[.agg #[.slice x8 l'.pos.length cx8, .slice y8 l'.set.length cy8, .slice z8 l'.taken.length cz8], .int .i64 c'], .agg #[.slice x8 l'.pos.length cx8, .slice y8 l'.set.length cy8, .slice z8 l'.taken.length cz8], .int .i64 c', _, _, _, _, _, _, _, _, _, _, _, _, _, _, _, _, _], defers := [] } _
        refine wpAnyH_take (i := 11) (v := .int .i64 c') rfl (by kernel_rfl) (by kernel_rfl) (by kernel_rfl) (fun _ _ _ h => h) (Or.inl ⟨by kernel_rfl, fun w hS => by (obtain ⟨hS0, hS1, hS2, hS3, hS4, hS5⟩ := hS; go_simp)⟩) hHeld ?_
        change wpAnyH _ _ _ _ _ _ _ { tmps := #[_, _, _, _, _, _, _, _, _, _, _, _, _, _, _, _, _, .pointer (some ⟨wp.heap.size, 0, none⟩), .int .i64 c', _, _, _, _, _, _, _, _, _, _, _, _, _, _, _, _, _, _, _, _, _, _, _, _, _, _, _, _, _, _, _, _, _, _, _, _, _, _, _, _, _, _, _, _, _, _, _, _, _, _, _, _, _, _, _, _, _, _, _, _, _, _, _, _, _, _, _, _, _, _, _, _, _, _, _, _, _, _, _, .tuple #[.agg #[.slice x8 l'.pos.length cx8, .slice y8 l'.set.length cy8, .slice z8 l'.taken.length cz8], .int .i64 c'], .agg #[.slice a p.under.length ca, .int .i64 p.blocks, .slice b p.routes.length cb], .agg #[.slice a1 p.under.length c1, .int .i64 p.blocks, .slice b1 p.routes.length d1], .agg #[.slice x l.pos.length cx, .slice y l.set.length cy, .slice z l.taken.length cz], .agg #[.slice x9 l.pos.length cx9, .slice y9 l.set.length cy9, .slice z9 l.taken.length cz9], .int .i64 v, .tuple #[.agg #[.slice x8 l'.pos.length cx8, .slice y8 l'.set.length cy8, .slice z8 l'.taken.length cz8], .int .i64 c'], .agg #[.slice x8 l'.pos.length cx8, .slice y8 l'.set.length cy8, .slice z8 l'.taken.length cz8], .int .i64 c', _, _, _, _, _, _, _, _, _, _, _, _, _, _, _, _, _], defers := [] } _
        refine wpAnyH_done (by kernel_rfl) ?_ _
        go_wp2_with fail
        go_meet
        have sW := Bq.size
        have sX := lt_of_block zB
        exact gotL Bf zB hbk O8 ⟨by omega, by omega, by omega⟩
    · skip
      go_simp
      have Ba := btrans B0 (balloc w14.drew (.cells #[.slice none 0 0, .slice none 0 0, .slice none 0 0] 38))
      have zB : (w14.drew.alloc (.cells #[.slice none 0 0, .slice none 0 0, .slice none 0 0] 38)).heap[w14.heap.size]? = some (.cells #[.slice none 0 0, .slice none 0 0, .slice none 0 0] 38 (0, 0)) := new1
      clear hHeld
      refine hK.out _ _ (by obtain ⟨⟨k0, k1, k2⟩, -⟩ := blk3 (blk_keep Ba A0); obtain ⟨⟨k3, k4, k5⟩, -⟩ := blk3 (blk_keep Ba A1); exact ⟨k0, k1, k2, k3, k4, k5⟩) (fun hHeld => ?_)
      clear hK K
      change wpAnyH _ _ _ _ _ _ _ { tmps := #[_, _, _, _, _, _, _, _, _, _, _, _, _, _, _, _, _, .pointer (some ⟨w14.heap.size, 0, none⟩), _, _, _, _, _, _, _, _, _, _, _, _, _, _, _, _, _, _, _, _, _, _, _, _, _, _, _, _, _, _, _, _, _, _, _, _, _, _, _, _, _, _, _, _, _, _, _, _, _, _, _, _, _, _, _, _, _, _, _, _, _, _, _, _, _, _, _, _, _, _, _, _, _, _, _, _, _, _, _, _, _, .agg #[.slice a p.under.length ca, .int .i64 p.blocks, .slice b p.routes.length cb], _, .agg #[.slice x l.pos.length cx, .slice y l.set.length cy, .slice z l.taken.length cz], _, .int .i64 v, _, _, _, _, _, _, _, _, _, _, _, _, _, _, _, _, _, _, _, _], defers := [] } _
      refine wpAnyH_ready (rs := [1]) (by kernel_rfl) (by simp) ?_
      refine AllReadyH.cons rfl (fun K hK => ?_) AllReadyH.nil
      go_simp
      refine (CT _ (hP.below (btrans HB Ba)) hS).mono ?_
      rintro e wp ⟨a1, c1, b1, d1, rfl, P1, hb⟩
      have Bp := btrans Ba hb
      have sp := hb.size
      try rw [sz1] at sp
      try rw [szd] at sp
      have P1r := P1.read
      have zB := blk_keep hb zB
      clear hb hHeld
      go_wp2_with fail
      refine hK.out _ _ (by obtain ⟨⟨k0, k1, k2⟩, -⟩ := blk3 (blk_keep Bp A0); obtain ⟨⟨k3, k4, k5⟩, -⟩ := blk3 (blk_keep Bp A1); exact ⟨k0, k1, k2, k3, k4, k5⟩) (fun hHeld => ?_)
      clear hK K
      change wpAnyH _ _ _ _ _ _ _ { tmps := #[_, _, _, _, _, _, _, _, _, _, _, _, _, _, _, _, _, .pointer (some ⟨w14.heap.size, 0, none⟩), _, _, _, _, _, _, _, _, _, _, _, _, _, _, _, _, _, _, _, _, _, _, _, _, _, _, _, _, _, _, _, _, _, _, _, _, _, _, _, _, _, _, _, _, _, _, _, _, _, _, _, _, _, _, _, _, _, _, _, _, _, _, _, _, _, _, _, _, _, _, _, _, _, _, _, _, _, _, _, _, _, .agg #[.slice a p.under.length ca, .int .i64 p.blocks, .slice b p.routes.length cb], .agg #[.slice a1 p.under.length c1, .int .i64 p.blocks, .slice b1 p.routes.length d1], .agg #[.slice x l.pos.length cx, .slice y l.set.length cy, .slice z l.taken.length cz], _, .int .i64 v, _, _, _, _, _, _, _, _, _, _, _, _, _, _, _, _, _, _, _, _], defers := [] } _
      refine wpAnyH_ready (rs := [3]) (by kernel_rfl) (by simp) ?_
      refine AllReadyH.cons rfl (fun K hK => ?_) AllReadyH.nil
      go_simp
      refine (CU _ (hL.below (btrans HB Bp)) hT).mono ?_
      rintro e wq ⟨x9, cx9, y9, cy9, z9, cz9, rfl, L1, hb, hpl1, hpl2, hpl3, hpl4, hpl5, hpl6⟩
      have Bq := btrans Bp hb
      have sq := hb.size
      try rw [sz1] at sq
      try rw [szd] at sq
      have P1r := P1r.below hb
      have L1r := L1.read
      have zB := blk_keep hb zB
      clear hb hHeld
      go_wp2_with fail
      refine hK.out _ _ (by obtain ⟨⟨k0, k1, k2⟩, -⟩ := blk3 (blk_keep Bq A0); obtain ⟨⟨k3, k4, k5⟩, -⟩ := blk3 (blk_keep Bq A1); exact ⟨k0, k1, k2, k3, k4, k5⟩) (fun hHeld => ?_)
      clear hK K
      change wpAnyH _ _ _ _ _ _ _ { tmps := #[_, _, _, _, _, _, _, _, _, _, _, _, _, _, _, _, _, .pointer (some ⟨w14.heap.size, 0, none⟩), _, _, _, _, _, _, _, _, _, _, _, _, _, _, _, _, _, _, _, _, _, _, _, _, _, _, _, _, _, _, _, _, _, _, _, _, _, _, _, _, _, _, _, _, _, _, _, _, _, _, _, _, _, _, _, _, _, _, _, _, _, _, _, _, _, _, _, _, _, _, _, _, _, _, _, _, _, _, _, _, _, .agg #[.slice a p.under.length ca, .int .i64 p.blocks, .slice b p.routes.length cb], .agg #[.slice a1 p.under.length c1, .int .i64 p.blocks, .slice b1 p.routes.length d1], .agg #[.slice x l.pos.length cx, .slice y l.set.length cy, .slice z l.taken.length cz], .agg #[.slice x9 l.pos.length cx9, .slice y9 l.set.length cy9, .slice z9 l.taken.length cz9], .int .i64 v, _, _, _, _, _, _, _, _, _, _, _, _, _, _, _, _, _, _, _, _], defers := [] } _
      refine wpAnyH_ready (rs := [5]) (by kernel_rfl) (by simp) ?_
      refine AllReadyH.cons rfl (fun K hK => ?_) AllReadyH.nil
      go_simp
      refine (CI _ _ _ _ _ _ _ _ _ _ _ P1r L1r ⟨hpl2, hpl1⟩ ⟨hpl4, hpl3⟩ ⟨hpl6, hpl5⟩ hS hT).mono ?_
      rintro e wf ⟨x8, cx8, y8, cy8, z8, cz8, rfl, O8, hb⟩
      have Bf := btrans Bq hb
      have s8 := hb.size
      try rw [sz1] at s8
      try rw [szd] at s8
      try rw [sz1] at O8
      have zB := blk_keep hb zB
      clear hb hHeld
      go_wp2_with fail
      refine hK.out _ _ (by obtain ⟨⟨k0, k1, k2⟩, -⟩ := blk3 (blk_keep Bf A0); obtain ⟨⟨k3, k4, k5⟩, -⟩ := blk3 (blk_keep Bf A1); exact ⟨k0, k1, k2, k3, k4, k5⟩) (fun hHeld => ?_)
      clear hK K
      change wpAnyH _ _ _ _ _ _ _ { tmps := #[_, _, _, _, _, _, _, _, _, _, _, _, _, _, _, _, _, .pointer (some ⟨w14.heap.size, 0, none⟩), _, _, _, _, _, _, _, _, _, _, _, _, _, _, _, _, _, _, _, _, _, _, _, _, _, _, _, _, _, _, _, _, _, _, _, _, _, _, _, _, _, _, _, _, _, _, _, _, _, _, _, _, _, _, _, _, _, _, _, _, _, _, _, _, _, _, _, _, _, _, _, _, _, _, _, _, _, _, _, _, _, .agg #[.slice a p.under.length ca, .int .i64 p.blocks, .slice b p.routes.length cb], .agg #[.slice a1 p.under.length c1, .int .i64 p.blocks, .slice b1 p.routes.length d1], .agg #[.slice x l.pos.length cx, .slice y l.set.length cy, .slice z l.taken.length cz], .agg #[.slice x9 l.pos.length cx9, .slice y9 l.set.length cy9, .slice z9 l.taken.length cz9], .int .i64 v, .tuple #[.agg #[.slice x8 l'.pos.length cx8, .slice y8 l'.set.length cy8, .slice z8 l'.taken.length cz8], .int .i64 c'], _, _, _, _, _, _, _, _, _, _, _, _, _, _, _, _, _, _, _], defers := [] } _
      refine wpAnyH_take (i := 6) (v := .tuple #[.agg #[.slice x8 l'.pos.length cx8, .slice y8 l'.set.length cy8, .slice z8 l'.taken.length cz8], .int .i64 c']) rfl (by kernel_rfl) (by kernel_rfl) (by kernel_rfl) (fun _ _ _ h => h) (Or.inl ⟨by kernel_rfl, fun w hS => by (obtain ⟨hS0, hS1, hS2, hS3, hS4, hS5⟩ := hS; go_simp)⟩) hHeld ?_
      change wpAnyH _ _ _ _ _ _ _ { tmps := #[_, _, _, _, _, _, _, _, _, _, _, _, _, _, _, _, _, .pointer (some ⟨w14.heap.size, 0, none⟩), _, _, _, _, _, _, _, _, _, _, _, _, _, _, _, _, _, _, _, _, _, _, _, _, _, _, _, _, _, _, _, _, _, _, _, _, _, _, _, _, _, _, _, _, _, _, _, _, _, _, _, _, _, _, _, _, _, _, _, _, _, _, _, _, _, _, _, _, _, _, _, _, _, _, _, _, _, _, _, _, .tuple #[.agg #[.slice x8 l'.pos.length cx8, .slice y8 l'.set.length cy8, .slice z8 l'.taken.length cz8], .int .i64 c'], .agg #[.slice a p.under.length ca, .int .i64 p.blocks, .slice b p.routes.length cb], .agg #[.slice a1 p.under.length c1, .int .i64 p.blocks, .slice b1 p.routes.length d1], .agg #[.slice x l.pos.length cx, .slice y l.set.length cy, .slice z l.taken.length cz], .agg #[.slice x9 l.pos.length cx9, .slice y9 l.set.length cy9, .slice z9 l.taken.length cz9], .int .i64 v, .tuple #[.agg #[.slice x8 l'.pos.length cx8, .slice y8 l'.set.length cy8, .slice z8 l'.taken.length cz8], .int .i64 c'], _, _, _, _, _, _, _, _, _, _, _, _, _, _, _, _, _, _, _], defers := [] } _
      refine wpAnyH_take (i := 7) (v := .agg #[.slice x8 l'.pos.length cx8, .slice y8 l'.set.length cy8, .slice z8 l'.taken.length cz8]) rfl (by kernel_rfl) (by kernel_rfl) (by kernel_rfl) (fun _ _ _ h => h) (Or.inl ⟨by kernel_rfl, fun w hS => by (obtain ⟨hS0, hS1, hS2, hS3, hS4, hS5⟩ := hS; go_simp)⟩) hHeld ?_
      change wpAnyH _ _ _ _ _ _ _ { tmps := #[_, _, _, _, _, _, _, _, _, _, _, _, _, _, _, _, _, .pointer (some ⟨w14.heap.size, 0, none⟩), _, _, _, _, _, _, _, _, _, _, _, _, _, _, _, _, _, _, _, _, _, _, _, _, _, _, _, _, _, _, _, _, _, _, _, _, _, _, _, _, _, _, _, _, _, _, _, _, _, _, _, _, _, _, _, _, _, _, _, _, _, _, _, _, _, _, _, _, _, _, _, _, _, _, _, _, _, _, _, _, .tuple #[.agg #[.slice x8 l'.pos.length cx8, .slice y8 l'.set.length cy8, .slice z8 l'.taken.length cz8], .int .i64 c'], .agg #[.slice a p.under.length ca, .int .i64 p.blocks, .slice b p.routes.length cb], .agg #[.slice a1 p.under.length c1, .int .i64 p.blocks, .slice b1 p.routes.length d1], .agg #[.slice x l.pos.length cx, .slice y l.set.length cy, .slice z l.taken.length cz], .agg #[.slice x9 l.pos.length cx9, .slice y9 l.set.length cy9, .slice z9 l.taken.length cz9], .int .i64 v, .tuple #[.agg #[.slice x8 l'.pos.length cx8, .slice y8 l'.set.length cy8, .slice z8 l'.taken.length cz8], .int .i64 c'], .agg #[.slice x8 l'.pos.length cx8, .slice y8 l'.set.length cy8, .slice z8 l'.taken.length cz8], _, _, _, _, _, _, _, _, _, _, _, _, _, _, _, _, _, _], defers := [] } _
      refine wpAnyH_take (i := 8) (v := .int .i64 c') rfl (by kernel_rfl) (by kernel_rfl) (by kernel_rfl) (fun _ _ _ h => h) (Or.inl ⟨by kernel_rfl, fun w hS => by (obtain ⟨hS0, hS1, hS2, hS3, hS4, hS5⟩ := hS; go_simp)⟩) hHeld ?_
      change wpAnyH _ _ _ _ _ _ _ { tmps := #[_, _, _, _, _, _, _, _, _, _, _, _, _, _, _, _, _, .pointer (some ⟨w14.heap.size, 0, none⟩), _, _, _, _, _, _, _, _, _, _, _, _, _, _, _, _, _, _, _, _, _, _, _, _, _, _, _, _, _, _, _, _, _, _, _, _, _, _, _, _, _, _, _, _, _, _, _, _, _, _, _, _, _, _, _, _, _, _, _, _, _, _, _, _, _, _, _, _, _, _, _, _, _, _, _, _, _, _, _, _, .tuple #[.agg #[.slice x8 l'.pos.length cx8, .slice y8 l'.set.length cy8, .slice z8 l'.taken.length cz8], .int .i64 c'], .agg #[.slice a p.under.length ca, .int .i64 p.blocks, .slice b p.routes.length cb], .agg #[.slice a1 p.under.length c1, .int .i64 p.blocks, .slice b1 p.routes.length d1], .agg #[.slice x l.pos.length cx, .slice y l.set.length cy, .slice z l.taken.length cz], .agg #[.slice x9 l.pos.length cx9, .slice y9 l.set.length cy9, .slice z9 l.taken.length cz9], .int .i64 v, .tuple #[.agg #[.slice x8 l'.pos.length cx8, .slice y8 l'.set.length cy8, .slice z8 l'.taken.length cz8], .int .i64 c'], .agg #[.slice x8 l'.pos.length cx8, .slice y8 l'.set.length cy8, .slice z8 l'.taken.length cz8], .int .i64 c', _, _, _, _, _, _, _, _, _, _, _, _, _, _, _, _, _], defers := [] } _
      obtain ⟨⟨z0, z1, z2⟩, y0, y1, y2⟩ := blk3 zB
      refine wpAnyH_ready (rs := [10]) (by kernel_rfl) (by simp) ?_
      refine AllReadyH.cons rfl (fun K hK => ?_) AllReadyH.nil
      go_simp
      have hbk : w14.heap.size ≤ w14.heap.size := by first | exact B0.size | (have := B0.size; omega)
      have Bs := stB (x := .slice x8 l'.pos.length cx8) (y := .slice y8 l'.set.length cy8) (z := .slice z8 l'.taken.length cz8) Bf hbk
      clear hHeld
      refine hK.out _ _ (by obtain ⟨⟨k0, k1, k2⟩, -⟩ := blk3 (blk_keep Bs A0); obtain ⟨⟨k3, k4, k5⟩, -⟩ := blk3 (blk_keep Bs A1); exact ⟨k0, k1, k2, k3, k4, k5⟩) (fun hHeld => ?_)
      clear hK K
      change wpAnyH _ _ _ _ _ _ _ { tmps := #[_, _, _, _, _, _, _, _, _, _, _, _, _, _, _, _, _, .pointer (some ⟨w14.heap.size, 0, none⟩), _, _, _, _, _, _, _, _, _, _, _, _, _, _, _, _, _, _, _, _, _, _, _, _, _, _, _, _, _, _, _, _, _, _, _, _, _, _, _, _, _, _, _, _, _, _, _, _, _, _, _, _, _, _, _, _, _, _, _, _, _, _, _, _, _, _, _, _, _, _, _, _, _, _, _, _, _, _, _, _, .tuple #[.agg #[.slice x8 l'.pos.length cx8, .slice y8 l'.set.length cy8, .slice z8 l'.taken.length cz8], .int .i64 c'], .agg #[.slice a p.under.length ca, .int .i64 p.blocks, .slice b p.routes.length cb], .agg #[.slice a1 p.under.length c1, .int .i64 p.blocks, .slice b1 p.routes.length d1], .agg #[.slice x l.pos.length cx, .slice y l.set.length cy, .slice z l.taken.length cz], .agg #[.slice x9 l.pos.length cx9, .slice y9 l.set.length cy9, .slice z9 l.taken.length cz9], .int .i64 v, .tuple #[.agg #[.slice x8 l'.pos.length cx8, .slice y8 l'.set.length cy8, .slice z8 l'.taken.length cz8], .int .i64 c'], .agg #[.slice x8 l'.pos.length cx8, .slice y8 l'.set.length cy8, .slice z8 l'.taken.length cz8], .int .i64 c', _, _, _, _, _, _, _, _, _, _, _, _, _, _, _, _, _], defers := [] } _
      refine wpAnyH_take (i := 11) (v := .int .i64 c') rfl (by kernel_rfl) (by kernel_rfl) (by kernel_rfl) (fun _ _ _ h => h) (Or.inl ⟨by kernel_rfl, fun w hS => by (obtain ⟨hS0, hS1, hS2, hS3, hS4, hS5⟩ := hS; go_simp)⟩) hHeld ?_
      change wpAnyH _ _ _ _ _ _ _ { tmps := #[_, _, _, _, _, _, _, _, _, _, _, _, _, _, _, _, _, .pointer (some ⟨w14.heap.size, 0, none⟩), .int .i64 c', _, _, _, _, _, _, _, _, _, _, _, _, _, _, _, _, _, _, _, _, _, _, _, _, _, _, _, _, _, _, _, _, _, _, _, _, _, _, _, _, _, _, _, _, _, _, _, _, _, _, _, _, _, _, _, _, _, _, _, _, _, _, _, _, _, _, _, _, _, _, _, _, _, _, _, _, _, _, _, .tuple #[.agg #[.slice x8 l'.pos.length cx8, .slice y8 l'.set.length cy8, .slice z8 l'.taken.length cz8], .int .i64 c'], .agg #[.slice a p.under.length ca, .int .i64 p.blocks, .slice b p.routes.length cb], .agg #[.slice a1 p.under.length c1, .int .i64 p.blocks, .slice b1 p.routes.length d1], .agg #[.slice x l.pos.length cx, .slice y l.set.length cy, .slice z l.taken.length cz], .agg #[.slice x9 l.pos.length cx9, .slice y9 l.set.length cy9, .slice z9 l.taken.length cz9], .int .i64 v, .tuple #[.agg #[.slice x8 l'.pos.length cx8, .slice y8 l'.set.length cy8, .slice z8 l'.taken.length cz8], .int .i64 c'], .agg #[.slice x8 l'.pos.length cx8, .slice y8 l'.set.length cy8, .slice z8 l'.taken.length cz8], .int .i64 c', _, _, _, _, _, _, _, _, _, _, _, _, _, _, _, _, _], defers := [] } _
      refine wpAnyH_done (by kernel_rfl) ?_ _
      go_wp2_with fail
      go_meet
      have sW := Bq.size
      have sX := lt_of_block zB
      exact gotL Bf zB hbk O8 ⟨by omega, by omega, by omega⟩
  case rest =>
  clear x19_0 x19_1 x19_2 x20_0 x20_1 x20_2
  obtain ⟨⟨bh, x5, cx5, y5, cy5, z5, cz5, lo5, hi5, rfl, rfl, H0, O5, -, -, -, -⟩, BH⟩ := hcut
  rename_i wh
  have hb := BH
  clear BH CI
  replace A0 := blk_keep hb A0
  replace A1 := blk_keep hb A1
  replace W0 := blk_keep hb W0
  replace O8 := O8.below hb
  replace G0 := blk_keep hb G0
  replace O6 := O6.below hb
  replace HB := btrans HB hb
  have s15 := hb.size
  try simp only [sz1] at s15
  clear hb
  obtain ⟨⟨x21_0, x21_1, x21_2⟩, -⟩ := blk3 H0
  obtain ⟨⟨x22_0, x22_1, x22_2⟩, -⟩ := blk3 W0
  go_wp2_with fail
  clear x21_0 x21_1 x21_2 x22_0 x22_1 x22_2
  refine (CG _ _ _ _ _ _ _ _ _ _ _ _ _ O5.read O8.read hT').mono ?_
  rintro e w16 ⟨rfl, hb⟩
  replace A0 := blk_keep hb A0
  replace A1 := blk_keep hb A1
  replace W0 := blk_keep hb W0
  replace O8 := O8.below hb
  replace G0 := blk_keep hb G0
  replace O6 := O6.below hb
  replace H0 := blk_keep hb H0
  replace O5 := O5.below hb
  replace HB := btrans HB hb
  have s16 := hb.size
  try simp only [sz1] at s16
  clear hb
  obtain ⟨⟨x23_0, x23_1, x23_2⟩, -⟩ := blk3 G0
  go_wp2_with fail
  clear x23_0 x23_1 x23_2
  refine (CH _ _ _ _ _ _ _ O6.read hT').mono ?_
  rintro e w17 ⟨rfl, hb⟩
  replace A0 := blk_keep hb A0
  replace A1 := blk_keep hb A1
  replace W0 := blk_keep hb W0
  replace O8 := O8.below hb
  replace G0 := blk_keep hb G0
  replace O6 := O6.below hb
  replace H0 := blk_keep hb H0
  replace O5 := O5.below hb
  replace HB := btrans HB hb
  have s17 := hb.size
  try simp only [sz1] at s17
  clear hb
  go_wp2
  go_ret
  exact ⟨rfl, HB⟩
end Go.Proofs.Ytdcohaejdlgnpaa
