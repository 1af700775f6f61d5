/- The walk of the law on one shunt. -/
import Derived.Test.YtipechbhhpagiaaGS
import Derived.Deep.Cut
namespace Go.Proofs.Ytipechbhhpagiaa
open Go.RowKit
theorem sm_flat (rows : List (List Int)) : sm rows rows.length = rows.flatten.length := by unfold sm; rw [List.take_length]
theorem one_small (room : List Int) (rows : List (List Int)) (x : ShV) : (oneR room rows x).length = rows.length ∧ sm (oneR room rows x) (oneR room rows x).length = sm rows rows.length := by
  unfold oneR
  split
  · exact ⟨leftS_len, by rw [sm_flat, sm_flat]; exact leftS_perm.length_eq⟩
  · exact ⟨rfl, rfl⟩
theorem SidO.ne {B : Nat} {w : World} {rv v : Value} {vs : List Value} {room : List Int} {rows : List (List Int)} (h : SidO B w rv v vs room rows) {b : Nat} {cs : Array Value} {t : TypeId} (hg : w.heap[b]? = some (.cells cs t (0, 0))) (h1 : t ≠ 3) (h2 : t ≠ 24) : ¬ SidB rv v vs b := by
  rintro (hk | hk | ⟨j, hj, hk⟩)
  · exact row_blk_ne h.room hg h1 b hk rfl
  · exact own_blk_ne h.tab.own hg h2 b hk rfl
  · exact row_blk_ne (h.tab.each j hj) hg h1 b hk rfl
theorem Fr.blk {P : Nat → Prop} {w w' : World} (f : Fr P w w') {b : Nat} {o : Obj} (h : w.heap[b]? = some o) (hn : ¬ P b) : w'.heap[b]? = some o := (f.block b (lt_of_block h) hn).trans h
set_option maxRecDepth 20000 in
set_option maxHeartbeats 12800000 in
theorem walkShuntOne (ra : Option Addr) (rc : Nat) (room : List Int) (a : Option Addr) (c : Nat) (us : List Value) (rows : List (List Int)) (x : ShV) (w : World) (hM : Ints w ra room) (nM : room.length ≤ maxLen) (hR : RowsW w a us rows) (nR : rows.length ≤ maxLen) (nr : ∀ i, i < rows.length → (rwA rows i).length ≤ maxLen) :
    Calls Try.prog 6 #[.agg #[.slice ra room.length rc, .slice a rows.length c], x.val] w fun e w' => e = .returned (.bool true) ∧ Below w.heap.size w w' := by
  have hsmO := one_small room rows x
  have CSp := fun ra rc a c us w hM hR lM lR lr => cOneS ra rc room a c us rows x w hM hR lM lR lr
  have CIm := fun ra rc a c us w hM hR lM lR lr => cOneI ra rc room a c us rows x w hM hR lM lR lr
  unfold OnePost at CSp
  have TM := fun w => cToShV x w
  unfold ShV.val at *
  generalize oneR room rows x = rows' at *
  generalize oneC room rows x = oc at *
  have HB := btrans (balloc w (.cells #[.slice ra room.length rc, .slice a rows.length c] 48)) (balloc _ (.cells #[.int .i64 x.f, .int .i64 x.t, .int .i64 x.m] 52))
  have A0 := blk_keep (balloc (w.alloc (.cells #[.slice ra room.length rc, .slice a rows.length c] 48)) (.cells #[.int .i64 x.f, .int .i64 x.t, .int .i64 x.m] 52)) (heap_alloc_new w (.cells #[.slice ra room.length rc, .slice a rows.length c] 48))
  have A1 := heap_alloc_new (w.alloc (.cells #[.slice ra room.length rc, .slice a rows.length c] 48)) (.cells #[.int .i64 x.f, .int .i64 x.t, .int .i64 x.m] 52)
  rw [sz1] at A1
  go_enter Try.func6, Try.ntmps6
  go_wp2_with fail
  refine (cSzSid ra rc room a c us rows 1048576 _ (hR.below HB) (by omega) (by omega) nM nR nr).mono ?_
  rintro e w1 ⟨r, rfl, hrr, hb⟩
  replace HB := btrans HB hb
  replace A0 := blk_keep hb A0
  replace A1 := blk_keep hb A1
  clear hb
  rcases hrr with rfl | ⟨r0, r1⟩
  · go_wp2
    go_ret
    exact ⟨rfl, HB⟩
  have hr5 : ¬ r < 0 := by omega
  have lM : room.length ≤ 1048576 := by omega
  have lR : rows.length ≤ 1048576 := by omega
  have hsm : sm rows rows.length ≤ 1048576 := by omega
  have lr : ∀ i, i < rows.length → (rwA rows i).length ≤ 1048576 := fun i hi => by have := sm_row hi; omega
  have hsm' : sm rows' rows'.length ≤ 1048576 := by rw [hsmO.2]; exact hsm
  have lR' : rows'.length ≤ 1048576 := by rw [hsmO.1]; exact lR
  have lr' : ∀ i, i < rows'.length → (rwA rows' i).length ≤ 1048576 := fun i hi => by have := sm_row hi; omega
  have hL8 : Hid (rows'.length = rows'.length) := hide rfl
  clear r1 nr hsmO
  have CT := fun w hM hR => cToSid ra rc room a c us rows w hM hR lM lR lr
  have CS := fun ra rc a c us w hM hR => CSp ra rc a c us w hM hR lM lR lr
  have CI := fun ra rc a c us w hM hR => CIm ra rc a c us w hM hR lM lR lr
  clear CSp CIm
  obtain ⟨⟨x0, x1⟩, -⟩ := blk2 A0
  obtain ⟨m0, m1, m2⟩ := blk3 A1
  go_upto_region 5 with fail
  go_cut [6, 7] from 29 (fun sv cv wc => GotS w1 room rows' sv wc ∧ cv = .int .i64 oc)
  case first =>
    refine wp_region_held_drew (S := (fun w' => w'.cell? ⟨w.heap.size, 0, none⟩ = some (.slice ra room.length rc) ∧ w'.cell? ⟨w.heap.size, 1, none⟩ = some (.slice a rows.length c) ∧ w'.cell? ⟨w.heap.size + 1, 0, none⟩ = some (.int .i64 x.f) ∧ w'.cell? ⟨w.heap.size + 1, 1, none⟩ = some (.int .i64 x.t) ∧ w'.cell? ⟨w.heap.size + 1, 2, none⟩ = some (.int .i64 x.m))) (by kernel_rfl) ?_ (fun hHeld => ?_)
    · go_keep
    have B0 : Below w1.heap.size w1 w1.drew := (Below.refl _ _).drew
    generalize w1.drew = wd at *
    refine wpAnyH_take (i := 0) (v := .agg #[.slice ra room.length rc, .slice a rows.length c]) rfl (by kernel_rfl) (by kernel_rfl) (by kernel_rfl) (fun _ _ _ h => h) (Or.inl ⟨by kernel_rfl, fun w hS => by (obtain ⟨hS0, hS1, hS2, hS3, hS4⟩ := hS; go_simp)⟩) hHeld ?_
    change wpAnyH _ _ _ _ _ _ _ { tmps := List.toArray (_ :: _ :: _ :: _ :: _ :: _ :: _ :: _ :: _ :: _ :: _ :: _ :: _ :: _ :: _ :: _ :: _ :: _ :: _ :: _ :: _ :: _ :: .agg #[.slice ra room.length rc, .slice a rows.length c] :: _ :: _ :: _ :: _ :: _ :: _ :: _ :: _ :: _ :: _ :: _ :: _ :: _ :: _ :: _ :: _ :: _ :: _ :: _ :: _ :: _ :: _ :: _ :: _ :: _ :: _ :: _ :: _ :: _ :: _ :: _ :: _ :: _ :: _ :: _ :: _ :: _ :: _ :: _ :: _ :: _ :: _ :: _ :: _ :: _ :: _ :: _ :: _ :: _ :: _ :: _ :: _ :: _ :: _ :: _ :: _ :: _ :: _ :: _ :: _ :: _ :: _ :: _ :: _ :: _ :: _ :: _ :: _ :: _ :: _ :: _ :: _ :: _ :: _ :: _ :: _ :: _ :: _ :: _ :: _ :: _ :: []), defers := [] } _
    refine wpAnyH_take (i := 2) (v := .agg #[.int .i64 x.f, .int .i64 x.t, .int .i64 x.m]) rfl (by kernel_rfl) (by kernel_rfl) (by kernel_rfl) (fun _ _ _ h => h) (Or.inl ⟨by kernel_rfl, fun w hS => by (obtain ⟨hS0, hS1, hS2, hS3, hS4⟩ := hS; go_simp)⟩) hHeld ?_
    change wpAnyH _ _ _ _ _ _ _ { tmps := List.toArray (_ :: _ :: _ :: _ :: _ :: _ :: _ :: _ :: _ :: _ :: _ :: _ :: _ :: _ :: _ :: _ :: _ :: _ :: _ :: _ :: _ :: _ :: .agg #[.slice ra room.length rc, .slice a rows.length c] :: _ :: .agg #[.int .i64 x.f, .int .i64 x.t, .int .i64 x.m] :: _ :: _ :: _ :: _ :: _ :: _ :: _ :: _ :: _ :: _ :: _ :: _ :: _ :: _ :: _ :: _ :: _ :: _ :: _ :: _ :: _ :: _ :: _ :: _ :: _ :: _ :: _ :: _ :: _ :: _ :: _ :: _ :: _ :: _ :: _ :: _ :: _ :: _ :: _ :: _ :: _ :: _ :: _ :: _ :: _ :: _ :: _ :: _ :: _ :: _ :: _ :: _ :: _ :: _ :: _ :: _ :: _ :: _ :: _ :: _ :: _ :: _ :: _ :: _ :: _ :: _ :: _ :: _ :: _ :: _ :: _ :: _ :: _ :: _ :: _ :: _ :: _ :: _ :: _ :: []), defers := [] } _
    refine wpAnyH_ready (rs := [1, 8]) (by kernel_rfl) (by simp) ?_
    refine (AllReadyH.cons rfl (fun KK hK => ?_) (AllReadyH.cons rfl (fun KK hK => ?_) AllReadyH.nil))
    · skip
      go_simp
      refine (CT _ (hM.below (btrans HB B0)) (hR.below (btrans HB B0))).mono ?_
      rintro e wp ⟨g1, T1, vs1, rfl, S1, hb⟩
      have Bp := btrans B0 hb
      clear hb
      go_wp2_with fail
      clear hHeld
      refine hK.out _ _ (by obtain ⟨⟨k0, k1⟩, -⟩ := blk2 (blk_keep Bp A0); obtain ⟨k2, k3, k4⟩ := blk3 (blk_keep Bp A1); exact ⟨k0, k1, k2, k3, k4⟩) (fun hHeld => ?_)
      clear hK KK
      change wpAnyH _ _ _ _ _ _ _ { tmps := List.toArray (_ :: _ :: _ :: _ :: _ :: _ :: _ :: _ :: _ :: _ :: _ :: _ :: _ :: _ :: _ :: _ :: _ :: _ :: _ :: _ :: _ :: _ :: .agg #[.slice ra room.length rc, .slice a rows.length c] :: .agg #[.slice (some ⟨g1, 0, none⟩) room.length room.length, .slice (some ⟨T1, 0, none⟩) rows.length rows.length] :: .agg #[.int .i64 x.f, .int .i64 x.t, .int .i64 x.m] :: _ :: _ :: _ :: _ :: _ :: _ :: _ :: _ :: _ :: _ :: _ :: _ :: _ :: _ :: _ :: _ :: _ :: _ :: _ :: _ :: _ :: _ :: _ :: _ :: _ :: _ :: _ :: _ :: _ :: _ :: _ :: _ :: _ :: _ :: _ :: _ :: _ :: _ :: _ :: _ :: _ :: _ :: _ :: _ :: _ :: _ :: _ :: _ :: _ :: _ :: _ :: _ :: _ :: _ :: _ :: _ :: _ :: _ :: _ :: _ :: _ :: _ :: _ :: _ :: _ :: _ :: _ :: _ :: _ :: _ :: _ :: _ :: _ :: _ :: _ :: _ :: _ :: _ :: _ :: []), defers := [] } _
      refine wpAnyH_ready (rs := [3, 8]) (by kernel_rfl) (by simp) ?_
      refine (AllReadyH.cons rfl (fun KK hK => ?_) (AllReadyH.cons rfl (fun KK hK => ?_) AllReadyH.nil))
      · skip
        go_simp
        refine (TM _).mono ?_
        rintro e wq ⟨rfl, hb⟩
        have Bq := btrans Bp hb
        have S1 := S1.below hb
        clear hb
        go_wp2_with fail
        clear hHeld
        refine hK.out _ _ (by obtain ⟨⟨k0, k1⟩, -⟩ := blk2 (blk_keep Bq A0); obtain ⟨k2, k3, k4⟩ := blk3 (blk_keep Bq A1); exact ⟨k0, k1, k2, k3, k4⟩) (fun hHeld => ?_)
        clear hK KK
        change wpAnyH _ _ _ _ _ _ _ { tmps := List.toArray (_ :: _ :: _ :: _ :: _ :: _ :: _ :: _ :: _ :: _ :: _ :: _ :: _ :: _ :: _ :: _ :: _ :: _ :: _ :: _ :: _ :: _ :: .agg #[.slice ra room.length rc, .slice a rows.length c] :: .agg #[.slice (some ⟨g1, 0, none⟩) room.length room.length, .slice (some ⟨T1, 0, none⟩) rows.length rows.length] :: .agg #[.int .i64 x.f, .int .i64 x.t, .int .i64 x.m] :: .agg #[.int .i64 x.f, .int .i64 x.t, .int .i64 x.m] :: _ :: _ :: _ :: _ :: _ :: _ :: _ :: _ :: _ :: _ :: _ :: _ :: _ :: _ :: _ :: _ :: _ :: _ :: _ :: _ :: _ :: _ :: _ :: _ :: _ :: _ :: _ :: _ :: _ :: _ :: _ :: _ :: _ :: _ :: _ :: _ :: _ :: _ :: _ :: _ :: _ :: _ :: _ :: _ :: _ :: _ :: _ :: _ :: _ :: _ :: _ :: _ :: _ :: _ :: _ :: _ :: _ :: _ :: _ :: _ :: _ :: _ :: _ :: _ :: _ :: _ :: _ :: _ :: _ :: _ :: _ :: _ :: _ :: _ :: _ :: _ :: _ :: _ :: []), defers := [] } _
        refine wpAnyH_ready (rs := [4, 8]) (by kernel_rfl) (by simp) ?_
        refine (AllReadyH.cons rfl (fun KK hK => ?_) (AllReadyH.cons rfl (fun KK hK => ?_) AllReadyH.nil))
        · skip
          go_simp
          obtain ⟨ra1, rc1, a1, c1, e1, e2, I1, R1, -⟩ := S1.arg
          have C := CS ra1 rc1 a1 c1 vs1 _ I1 R1
          rw [← e1, ← e2] at C
          clear e1 e2 I1 R1
          refine C.mono ?_
          rintro e wf ⟨rv8, v8, vs8, rfl, O8, hb⟩
          have Bf := btrans Bq hb
          replace O8 := O8.base Bq.size
          obtain ⟨ra8, rc8, a8, c8, rfl, rfl, -⟩ := O8.arg
          clear hb C
          go_wp2_with fail
          clear hHeld
          refine hK.out _ _ (by obtain ⟨⟨k0, k1⟩, -⟩ := blk2 (blk_keep Bf A0); obtain ⟨k2, k3, k4⟩ := blk3 (blk_keep Bf A1); exact ⟨k0, k1, k2, k3, k4⟩) (fun hHeld => ?_)
          clear hK KK
          change wpAnyH _ _ _ _ _ _ _ { tmps := List.toArray (_ :: _ :: _ :: _ :: _ :: _ :: _ :: _ :: _ :: _ :: _ :: _ :: _ :: _ :: _ :: _ :: _ :: _ :: _ :: _ :: _ :: _ :: .agg #[.slice ra room.length rc, .slice a rows.length c] :: .agg #[.slice (some ⟨g1, 0, none⟩) room.length room.length, .slice (some ⟨T1, 0, none⟩) rows.length rows.length] :: .agg #[.int .i64 x.f, .int .i64 x.t, .int .i64 x.m] :: .agg #[.int .i64 x.f, .int .i64 x.t, .int .i64 x.m] :: .tuple #[.agg #[.slice ra8 room.length rc8, .slice a8 rows'.length c8], .int .i64 oc] :: _ :: _ :: _ :: _ :: _ :: _ :: _ :: _ :: _ :: _ :: _ :: _ :: _ :: _ :: _ :: _ :: _ :: _ :: _ :: _ :: _ :: _ :: _ :: _ :: _ :: _ :: _ :: _ :: _ :: _ :: _ :: _ :: _ :: _ :: _ :: _ :: _ :: _ :: _ :: _ :: _ :: _ :: _ :: _ :: _ :: _ :: _ :: _ :: _ :: _ :: _ :: _ :: _ :: _ :: _ :: _ :: _ :: _ :: _ :: _ :: _ :: _ :: _ :: _ :: _ :: _ :: _ :: _ :: _ :: _ :: _ :: _ :: _ :: _ :: _ :: _ :: _ :: []), defers := [] } _
          refine wpAnyH_take (i := 5) (v := .tuple #[.agg #[.slice ra8 room.length rc8, .slice a8 rows'.length c8], .int .i64 oc]) rfl (by kernel_rfl) (by kernel_rfl) (by kernel_rfl) (fun _ _ _ h => h) (Or.inl ⟨by kernel_rfl, fun w hS => by go_simp⟩) hHeld ?_
          change wpAnyH _ _ _ _ _ _ _ { tmps := List.toArray (_ :: _ :: _ :: _ :: _ :: _ :: _ :: _ :: _ :: _ :: _ :: _ :: _ :: _ :: _ :: _ :: _ :: _ :: _ :: _ :: _ :: .tuple #[.agg #[.slice ra8 room.length rc8, .slice a8 rows'.length c8], .int .i64 oc] :: .agg #[.slice ra room.length rc, .slice a rows.length c] :: .agg #[.slice (some ⟨g1, 0, none⟩) room.length room.length, .slice (some ⟨T1, 0, none⟩) rows.length rows.length] :: .agg #[.int .i64 x.f, .int .i64 x.t, .int .i64 x.m] :: .agg #[.int .i64 x.f, .int .i64 x.t, .int .i64 x.m] :: .tuple #[.agg #[.slice ra8 room.length rc8, .slice a8 rows'.length c8], .int .i64 oc] :: _ :: _ :: _ :: _ :: _ :: _ :: _ :: _ :: _ :: _ :: _ :: _ :: _ :: _ :: _ :: _ :: _ :: _ :: _ :: _ :: _ :: _ :: _ :: _ :: _ :: _ :: _ :: _ :: _ :: _ :: _ :: _ :: _ :: _ :: _ :: _ :: _ :: _ :: _ :: _ :: _ :: _ :: _ :: _ :: _ :: _ :: _ :: _ :: _ :: _ :: _ :: _ :: _ :: _ :: _ :: _ :: _ :: _ :: _ :: _ :: _ :: _ :: _ :: _ :: _ :: _ :: _ :: _ :: _ :: _ :: _ :: _ :: _ :: _ :: _ :: _ :: _ :: []), defers := [] } _
          refine wpAnyH_take (i := 6) (v := .agg #[.slice ra8 room.length rc8, .slice a8 rows'.length c8]) rfl (by kernel_rfl) (by kernel_rfl) (by kernel_rfl) (fun _ _ _ h => h) (Or.inl ⟨by kernel_rfl, fun w hS => by go_simp⟩) hHeld ?_
          change wpAnyH _ _ _ _ _ _ _ { tmps := List.toArray (_ :: _ :: _ :: _ :: _ :: _ :: _ :: _ :: _ :: _ :: _ :: _ :: _ :: _ :: _ :: _ :: _ :: _ :: _ :: _ :: _ :: .tuple #[.agg #[.slice ra8 room.length rc8, .slice a8 rows'.length c8], .int .i64 oc] :: .agg #[.slice ra room.length rc, .slice a rows.length c] :: .agg #[.slice (some ⟨g1, 0, none⟩) room.length room.length, .slice (some ⟨T1, 0, none⟩) rows.length rows.length] :: .agg #[.int .i64 x.f, .int .i64 x.t, .int .i64 x.m] :: .agg #[.int .i64 x.f, .int .i64 x.t, .int .i64 x.m] :: .tuple #[.agg #[.slice ra8 room.length rc8, .slice a8 rows'.length c8], .int .i64 oc] :: .agg #[.slice ra8 room.length rc8, .slice a8 rows'.length c8] :: _ :: _ :: _ :: _ :: _ :: _ :: _ :: _ :: _ :: _ :: _ :: _ :: _ :: _ :: _ :: _ :: _ :: _ :: _ :: _ :: _ :: _ :: _ :: _ :: _ :: _ :: _ :: _ :: _ :: _ :: _ :: _ :: _ :: _ :: _ :: _ :: _ :: _ :: _ :: _ :: _ :: _ :: _ :: _ :: _ :: _ :: _ :: _ :: _ :: _ :: _ :: _ :: _ :: _ :: _ :: _ :: _ :: _ :: _ :: _ :: _ :: _ :: _ :: _ :: _ :: _ :: _ :: _ :: _ :: _ :: _ :: _ :: _ :: _ :: _ :: _ :: []), defers := [] } _
          refine wpAnyH_take (i := 7) (v := .int .i64 oc) rfl (by kernel_rfl) (by kernel_rfl) (by kernel_rfl) (fun _ _ _ h => h) (Or.inl ⟨by kernel_rfl, fun w hS => by go_simp⟩) hHeld ?_
          change wpAnyH _ _ _ _ _ _ _ { tmps := List.toArray (_ :: _ :: _ :: _ :: _ :: _ :: _ :: _ :: _ :: _ :: _ :: _ :: _ :: _ :: _ :: _ :: _ :: _ :: _ :: _ :: _ :: .tuple #[.agg #[.slice ra8 room.length rc8, .slice a8 rows'.length c8], .int .i64 oc] :: .agg #[.slice ra room.length rc, .slice a rows.length c] :: .agg #[.slice (some ⟨g1, 0, none⟩) room.length room.length, .slice (some ⟨T1, 0, none⟩) rows.length rows.length] :: .agg #[.int .i64 x.f, .int .i64 x.t, .int .i64 x.m] :: .agg #[.int .i64 x.f, .int .i64 x.t, .int .i64 x.m] :: .tuple #[.agg #[.slice ra8 room.length rc8, .slice a8 rows'.length c8], .int .i64 oc] :: .agg #[.slice ra8 room.length rc8, .slice a8 rows'.length c8] :: .int .i64 oc :: _ :: _ :: _ :: _ :: _ :: _ :: _ :: _ :: _ :: _ :: _ :: _ :: _ :: _ :: _ :: _ :: _ :: _ :: _ :: _ :: _ :: _ :: _ :: _ :: _ :: _ :: _ :: _ :: _ :: _ :: _ :: _ :: _ :: _ :: _ :: _ :: _ :: _ :: _ :: _ :: _ :: _ :: _ :: _ :: _ :: _ :: _ :: _ :: _ :: _ :: _ :: _ :: _ :: _ :: _ :: _ :: _ :: _ :: _ :: _ :: _ :: _ :: _ :: _ :: _ :: _ :: _ :: _ :: _ :: _ :: _ :: _ :: _ :: _ :: _ :: []), defers := [] } _
          refine wpAnyH_ready (rs := [8]) (by kernel_rfl) (by simp) ?_
          refine (AllReadyH.cons rfl (fun KK hK => ?_) AllReadyH.nil)
          go_simp
          have Ba := btrans Bf (balloc wf (.cells #[.slice none 0 0, .slice none 0 0] 27))
          have zB : (wf.alloc (.cells #[.slice none 0 0, .slice none 0 0] 27)).heap[wf.heap.size]? = some (.cells #[.slice none 0 0, .slice none 0 0] 27 (0, 0)) := heap_alloc_new wf _
          have zlo : w1.heap.size ≤ wf.heap.size := Bf.size
          clear hHeld
          refine hK.out _ _ (by obtain ⟨⟨k0, k1⟩, -⟩ := blk2 (blk_keep Ba A0); obtain ⟨k2, k3, k4⟩ := blk3 (blk_keep Ba A1); exact ⟨k0, k1, k2, k3, k4⟩) (fun hHeld => ?_)
          clear hK KK
          change wpAnyH _ _ _ _ _ _ _ { tmps := List.toArray (_ :: _ :: _ :: _ :: _ :: _ :: .pointer (some ⟨wf.heap.size, 0, none⟩) :: _ :: _ :: _ :: _ :: _ :: _ :: _ :: _ :: _ :: _ :: _ :: _ :: _ :: _ :: .tuple #[.agg #[.slice ra8 room.length rc8, .slice a8 rows'.length c8], .int .i64 oc] :: .agg #[.slice ra room.length rc, .slice a rows.length c] :: .agg #[.slice (some ⟨g1, 0, none⟩) room.length room.length, .slice (some ⟨T1, 0, none⟩) rows.length rows.length] :: .agg #[.int .i64 x.f, .int .i64 x.t, .int .i64 x.m] :: .agg #[.int .i64 x.f, .int .i64 x.t, .int .i64 x.m] :: .tuple #[.agg #[.slice ra8 room.length rc8, .slice a8 rows'.length c8], .int .i64 oc] :: .agg #[.slice ra8 room.length rc8, .slice a8 rows'.length c8] :: .int .i64 oc :: _ :: _ :: _ :: _ :: _ :: _ :: _ :: _ :: _ :: _ :: _ :: _ :: _ :: _ :: _ :: _ :: _ :: _ :: _ :: _ :: _ :: _ :: _ :: _ :: _ :: _ :: _ :: _ :: _ :: _ :: _ :: _ :: _ :: _ :: _ :: _ :: _ :: _ :: _ :: _ :: _ :: _ :: _ :: _ :: _ :: _ :: _ :: _ :: _ :: _ :: _ :: _ :: _ :: _ :: _ :: _ :: _ :: _ :: _ :: _ :: _ :: _ :: _ :: _ :: _ :: _ :: _ :: _ :: _ :: _ :: _ :: _ :: _ :: _ :: _ :: []), defers := [] } _
          refine wpAnyH_ready (rs := [9]) (by kernel_rfl) (by simp) ?_
          refine (AllReadyH.cons rfl (fun KK hK => ?_) AllReadyH.nil)
          have Bs := btrans Bf (balloc wf (.cells #[.slice ra8 room.length rc8, .slice a8 rows'.length c8] 27))
          go_simp
          clear hHeld
          refine hK.out _ _ (by obtain ⟨⟨k0, k1⟩, -⟩ := blk2 (blk_keep Bs A0); obtain ⟨k2, k3, k4⟩ := blk3 (blk_keep Bs A1); exact ⟨k0, k1, k2, k3, k4⟩) (fun hHeld => ?_)
          clear hK KK
          change wpAnyH _ _ _ _ _ _ _ { tmps := List.toArray (_ :: _ :: _ :: _ :: _ :: _ :: .pointer (some ⟨wf.heap.size, 0, none⟩) :: _ :: _ :: _ :: _ :: _ :: _ :: _ :: _ :: _ :: _ :: _ :: _ :: _ :: _ :: .tuple #[.agg #[.slice ra8 room.length rc8, .slice a8 rows'.length c8], .int .i64 oc] :: .agg #[.slice ra room.length rc, .slice a rows.length c] :: .agg #[.slice (some ⟨g1, 0, none⟩) room.length room.length, .slice (some ⟨T1, 0, none⟩) rows.length rows.length] :: .agg #[.int .i64 x.f, .int .i64 x.t, .int .i64 x.m] :: .agg #[.int .i64 x.f, .int .i64 x.t, .int .i64 x.m] :: .tuple #[.agg #[.slice ra8 room.length rc8, .slice a8 rows'.length c8], .int .i64 oc] :: .agg #[.slice ra8 room.length rc8, .slice a8 rows'.length c8] :: .int .i64 oc :: _ :: _ :: _ :: _ :: _ :: _ :: _ :: _ :: _ :: _ :: _ :: _ :: _ :: _ :: _ :: _ :: _ :: _ :: _ :: _ :: _ :: _ :: _ :: _ :: _ :: _ :: _ :: _ :: _ :: _ :: _ :: _ :: _ :: _ :: _ :: _ :: _ :: _ :: _ :: _ :: _ :: _ :: _ :: _ :: _ :: _ :: _ :: _ :: _ :: _ :: _ :: _ :: _ :: _ :: _ :: _ :: _ :: _ :: _ :: _ :: _ :: _ :: _ :: _ :: _ :: _ :: _ :: _ :: _ :: _ :: _ :: _ :: _ :: _ :: _ :: []), defers := [] } _
          refine wpAnyH_take (i := 10) (v := .int .i64 oc) rfl (by kernel_rfl) (by kernel_rfl) (by kernel_rfl) (fun _ _ _ h => h) (Or.inl ⟨by kernel_rfl, fun w hS => by go_simp⟩) hHeld ?_
          change wpAnyH _ _ _ _ _ _ _ { tmps := List.toArray (_ :: _ :: _ :: _ :: _ :: _ :: .pointer (some ⟨wf.heap.size, 0, none⟩) :: .int .i64 oc :: _ :: _ :: _ :: _ :: _ :: _ :: _ :: _ :: _ :: _ :: _ :: _ :: _ :: .tuple #[.agg #[.slice ra8 room.length rc8, .slice a8 rows'.length c8], .int .i64 oc] :: .agg #[.slice ra room.length rc, .slice a rows.length c] :: .agg #[.slice (some ⟨g1, 0, none⟩) room.length room.length, .slice (some ⟨T1, 0, none⟩) rows.length rows.length] :: .agg #[.int .i64 x.f, .int .i64 x.t, .int .i64 x.m] :: .agg #[.int .i64 x.f, .int .i64 x.t, .int .i64 x.m] :: .tuple #[.agg #[.slice ra8 room.length rc8, .slice a8 rows'.length c8], .int .i64 oc] :: .agg #[.slice ra8 room.length rc8, .slice a8 rows'.length c8] :: .int .i64 oc :: _ :: _ :: _ :: _ :: _ :: _ :: _ :: _ :: _ :: _ :: _ :: _ :: _ :: _ :: _ :: _ :: _ :: _ :: _ :: _ :: _ :: _ :: _ :: _ :: _ :: _ :: _ :: _ :: _ :: _ :: _ :: _ :: _ :: _ :: _ :: _ :: _ :: _ :: _ :: _ :: _ :: _ :: _ :: _ :: _ :: _ :: _ :: _ :: _ :: _ :: _ :: _ :: _ :: _ :: _ :: _ :: _ :: _ :: _ :: _ :: _ :: _ :: _ :: _ :: _ :: _ :: _ :: _ :: _ :: _ :: _ :: _ :: _ :: _ :: _ :: []), defers := [] } _
          refine wpAnyH_done (by kernel_rfl) ?_ _
          go_wp2_with fail
          go_meet
          exact ⟨gotN Bf O8, rfl⟩
        · skip
          go_simp
          have Ba := btrans Bq (balloc wq (.cells #[.slice none 0 0, .slice none 0 0] 27))
          have zB : (wq.alloc (.cells #[.slice none 0 0, .slice none 0 0] 27)).heap[wq.heap.size]? = some (.cells #[.slice none 0 0, .slice none 0 0] 27 (0, 0)) := heap_alloc_new wq _
          have zlo : w1.heap.size ≤ wq.heap.size := Bq.size
          have S1 := S1.below (balloc wq (.cells #[.slice none 0 0, .slice none 0 0] 27))
          clear hHeld
          refine hK.out _ _ (by obtain ⟨⟨k0, k1⟩, -⟩ := blk2 (blk_keep Ba A0); obtain ⟨k2, k3, k4⟩ := blk3 (blk_keep Ba A1); exact ⟨k0, k1, k2, k3, k4⟩) (fun hHeld => ?_)
          clear hK KK
          change wpAnyH _ _ _ _ _ _ _ { tmps := List.toArray (_ :: _ :: _ :: _ :: _ :: _ :: .pointer (some ⟨wq.heap.size, 0, none⟩) :: _ :: _ :: _ :: _ :: _ :: _ :: _ :: _ :: _ :: _ :: _ :: _ :: _ :: _ :: _ :: .agg #[.slice ra room.length rc, .slice a rows.length c] :: .agg #[.slice (some ⟨g1, 0, none⟩) room.length room.length, .slice (some ⟨T1, 0, none⟩) rows.length rows.length] :: .agg #[.int .i64 x.f, .int .i64 x.t, .int .i64 x.m] :: .agg #[.int .i64 x.f, .int .i64 x.t, .int .i64 x.m] :: _ :: _ :: _ :: _ :: _ :: _ :: _ :: _ :: _ :: _ :: _ :: _ :: _ :: _ :: _ :: _ :: _ :: _ :: _ :: _ :: _ :: _ :: _ :: _ :: _ :: _ :: _ :: _ :: _ :: _ :: _ :: _ :: _ :: _ :: _ :: _ :: _ :: _ :: _ :: _ :: _ :: _ :: _ :: _ :: _ :: _ :: _ :: _ :: _ :: _ :: _ :: _ :: _ :: _ :: _ :: _ :: _ :: _ :: _ :: _ :: _ :: _ :: _ :: _ :: _ :: _ :: _ :: _ :: _ :: _ :: _ :: _ :: _ :: _ :: _ :: _ :: _ :: _ :: []), defers := [] } _
          refine wpAnyH_ready (rs := [4]) (by kernel_rfl) (by simp) ?_
          refine (AllReadyH.cons rfl (fun KK hK => ?_) AllReadyH.nil)
          go_simp
          obtain ⟨ra1, rc1, a1, c1, e1, e2, I1, R1, -⟩ := S1.arg
          have C := CS ra1 rc1 a1 c1 vs1 _ I1 R1
          rw [← e1, ← e2] at C
          clear e1 e2 I1 R1
          refine C.mono ?_
          rintro e wf ⟨rv8, v8, vs8, rfl, O8, hb⟩
          have Bf := btrans Ba hb
          have zB := blk_keep hb zB
          replace O8 := O8.base Ba.size
          obtain ⟨ra8, rc8, a8, c8, rfl, rfl, -⟩ := O8.arg
          clear hb C
          go_wp2_with fail
          clear hHeld
          refine hK.out _ _ (by obtain ⟨⟨k0, k1⟩, -⟩ := blk2 (blk_keep Bf A0); obtain ⟨k2, k3, k4⟩ := blk3 (blk_keep Bf A1); exact ⟨k0, k1, k2, k3, k4⟩) (fun hHeld => ?_)
          clear hK KK
          change wpAnyH _ _ _ _ _ _ _ { tmps := List.toArray (_ :: _ :: _ :: _ :: _ :: _ :: .pointer (some ⟨wq.heap.size, 0, none⟩) :: _ :: _ :: _ :: _ :: _ :: _ :: _ :: _ :: _ :: _ :: _ :: _ :: _ :: _ :: _ :: .agg #[.slice ra room.length rc, .slice a rows.length c] :: .agg #[.slice (some ⟨g1, 0, none⟩) room.length room.length, .slice (some ⟨T1, 0, none⟩) rows.length rows.length] :: .agg #[.int .i64 x.f, .int .i64 x.t, .int .i64 x.m] :: .agg #[.int .i64 x.f, .int .i64 x.t, .int .i64 x.m] :: .tuple #[.agg #[.slice ra8 room.length rc8, .slice a8 rows'.length c8], .int .i64 oc] :: _ :: _ :: _ :: _ :: _ :: _ :: _ :: _ :: _ :: _ :: _ :: _ :: _ :: _ :: _ :: _ :: _ :: _ :: _ :: _ :: _ :: _ :: _ :: _ :: _ :: _ :: _ :: _ :: _ :: _ :: _ :: _ :: _ :: _ :: _ :: _ :: _ :: _ :: _ :: _ :: _ :: _ :: _ :: _ :: _ :: _ :: _ :: _ :: _ :: _ :: _ :: _ :: _ :: _ :: _ :: _ :: _ :: _ :: _ :: _ :: _ :: _ :: _ :: _ :: _ :: _ :: _ :: _ :: _ :: _ :: _ :: _ :: _ :: _ :: _ :: _ :: _ :: []), defers := [] } _
          refine wpAnyH_take (i := 5) (v := .tuple #[.agg #[.slice ra8 room.length rc8, .slice a8 rows'.length c8], .int .i64 oc]) rfl (by kernel_rfl) (by kernel_rfl) (by kernel_rfl) (fun _ _ _ h => h) (Or.inl ⟨by kernel_rfl, fun w hS => by go_simp⟩) hHeld ?_
          change wpAnyH _ _ _ _ _ _ _ { tmps := List.toArray (_ :: _ :: _ :: _ :: _ :: _ :: .pointer (some ⟨wq.heap.size, 0, none⟩) :: _ :: _ :: _ :: _ :: _ :: _ :: _ :: _ :: _ :: _ :: _ :: _ :: _ :: _ :: .tuple #[.agg #[.slice ra8 room.length rc8, .slice a8 rows'.length c8], .int .i64 oc] :: .agg #[.slice ra room.length rc, .slice a rows.length c] :: .agg #[.slice (some ⟨g1, 0, none⟩) room.length room.length, .slice (some ⟨T1, 0, none⟩) rows.length rows.length] :: .agg #[.int .i64 x.f, .int .i64 x.t, .int .i64 x.m] :: .agg #[.int .i64 x.f, .int .i64 x.t, .int .i64 x.m] :: .tuple #[.agg #[.slice ra8 room.length rc8, .slice a8 rows'.length c8], .int .i64 oc] :: _ :: _ :: _ :: _ :: _ :: _ :: _ :: _ :: _ :: _ :: _ :: _ :: _ :: _ :: _ :: _ :: _ :: _ :: _ :: _ :: _ :: _ :: _ :: _ :: _ :: _ :: _ :: _ :: _ :: _ :: _ :: _ :: _ :: _ :: _ :: _ :: _ :: _ :: _ :: _ :: _ :: _ :: _ :: _ :: _ :: _ :: _ :: _ :: _ :: _ :: _ :: _ :: _ :: _ :: _ :: _ :: _ :: _ :: _ :: _ :: _ :: _ :: _ :: _ :: _ :: _ :: _ :: _ :: _ :: _ :: _ :: _ :: _ :: _ :: _ :: _ :: _ :: []), defers := [] } _
          refine wpAnyH_take (i := 6) (v := .agg #[.slice ra8 room.length rc8, .slice a8 rows'.length c8]) rfl (by kernel_rfl) (by kernel_rfl) (by kernel_rfl) (fun _ _ _ h => h) (Or.inl ⟨by kernel_rfl, fun w hS => by go_simp⟩) hHeld ?_
          change wpAnyH _ _ _ _ _ _ _ { tmps := List.toArray (_ :: _ :: _ :: _ :: _ :: _ :: .pointer (some ⟨wq.heap.size, 0, none⟩) :: _ :: _ :: _ :: _ :: _ :: _ :: _ :: _ :: _ :: _ :: _ :: _ :: _ :: _ :: .tuple #[.agg #[.slice ra8 room.length rc8, .slice a8 rows'.length c8], .int .i64 oc] :: .agg #[.slice ra room.length rc, .slice a rows.length c] :: .agg #[.slice (some ⟨g1, 0, none⟩) room.length room.length, .slice (some ⟨T1, 0, none⟩) rows.length rows.length] :: .agg #[.int .i64 x.f, .int .i64 x.t, .int .i64 x.m] :: .agg #[.int .i64 x.f, .int .i64 x.t, .int .i64 x.m] :: .tuple #[.agg #[.slice ra8 room.length rc8, .slice a8 rows'.length c8], .int .i64 oc] :: .agg #[.slice ra8 room.length rc8, .slice a8 rows'.length c8] :: _ :: _ :: _ :: _ :: _ :: _ :: _ :: _ :: _ :: _ :: _ :: _ :: _ :: _ :: _ :: _ :: _ :: _ :: _ :: _ :: _ :: _ :: _ :: _ :: _ :: _ :: _ :: _ :: _ :: _ :: _ :: _ :: _ :: _ :: _ :: _ :: _ :: _ :: _ :: _ :: _ :: _ :: _ :: _ :: _ :: _ :: _ :: _ :: _ :: _ :: _ :: _ :: _ :: _ :: _ :: _ :: _ :: _ :: _ :: _ :: _ :: _ :: _ :: _ :: _ :: _ :: _ :: _ :: _ :: _ :: _ :: _ :: _ :: _ :: _ :: _ :: []), defers := [] } _
          refine wpAnyH_take (i := 7) (v := .int .i64 oc) rfl (by kernel_rfl) (by kernel_rfl) (by kernel_rfl) (fun _ _ _ h => h) (Or.inl ⟨by kernel_rfl, fun w hS => by go_simp⟩) hHeld ?_
          change wpAnyH _ _ _ _ _ _ _ { tmps := List.toArray (_ :: _ :: _ :: _ :: _ :: _ :: .pointer (some ⟨wq.heap.size, 0, none⟩) :: _ :: _ :: _ :: _ :: _ :: _ :: _ :: _ :: _ :: _ :: _ :: _ :: _ :: _ :: .tuple #[.agg #[.slice ra8 room.length rc8, .slice a8 rows'.length c8], .int .i64 oc] :: .agg #[.slice ra room.length rc, .slice a rows.length c] :: .agg #[.slice (some ⟨g1, 0, none⟩) room.length room.length, .slice (some ⟨T1, 0, none⟩) rows.length rows.length] :: .agg #[.int .i64 x.f, .int .i64 x.t, .int .i64 x.m] :: .agg #[.int .i64 x.f, .int .i64 x.t, .int .i64 x.m] :: .tuple #[.agg #[.slice ra8 room.length rc8, .slice a8 rows'.length c8], .int .i64 oc] :: .agg #[.slice ra8 room.length rc8, .slice a8 rows'.length c8] :: .int .i64 oc :: _ :: _ :: _ :: _ :: _ :: _ :: _ :: _ :: _ :: _ :: _ :: _ :: _ :: _ :: _ :: _ :: _ :: _ :: _ :: _ :: _ :: _ :: _ :: _ :: _ :: _ :: _ :: _ :: _ :: _ :: _ :: _ :: _ :: _ :: _ :: _ :: _ :: _ :: _ :: _ :: _ :: _ :: _ :: _ :: _ :: _ :: _ :: _ :: _ :: _ :: _ :: _ :: _ :: _ :: _ :: _ :: _ :: _ :: _ :: _ :: _ :: _ :: _ :: _ :: _ :: _ :: _ :: _ :: _ :: _ :: _ :: _ :: _ :: _ :: _ :: []), defers := [] } _
          refine wpAnyH_ready (rs := [9]) (by kernel_rfl) (by simp) ?_
          refine (AllReadyH.cons rfl (fun KK hK => ?_) AllReadyH.nil)
          obtain ⟨⟨z0, z1⟩, y0, y1⟩ := blk2 zB
          have Bs : Below w1.heap.size w1 ((wf.setCell ⟨wq.heap.size, 0, none⟩ (.slice ra8 room.length rc8)).setCell ⟨wq.heap.size, 1, none⟩ (.slice a8 rows'.length c8)) := below_set zlo (below_set zlo Bf)
          go_simp
          clear hHeld
          refine hK.out _ _ (by obtain ⟨⟨k0, k1⟩, -⟩ := blk2 (blk_keep Bs A0); obtain ⟨k2, k3, k4⟩ := blk3 (blk_keep Bs A1); exact ⟨k0, k1, k2, k3, k4⟩) (fun hHeld => ?_)
          clear hK KK
          change wpAnyH _ _ _ _ _ _ _ { tmps := List.toArray (_ :: _ :: _ :: _ :: _ :: _ :: .pointer (some ⟨wq.heap.size, 0, none⟩) :: _ :: _ :: _ :: _ :: _ :: _ :: _ :: _ :: _ :: _ :: _ :: _ :: _ :: _ :: .tuple #[.agg #[.slice ra8 room.length rc8, .slice a8 rows'.length c8], .int .i64 oc] :: .agg #[.slice ra room.length rc, .slice a rows.length c] :: .agg #[.slice (some ⟨g1, 0, none⟩) room.length room.length, .slice (some ⟨T1, 0, none⟩) rows.length rows.length] :: .agg #[.int .i64 x.f, .int .i64 x.t, .int .i64 x.m] :: .agg #[.int .i64 x.f, .int .i64 x.t, .int .i64 x.m] :: .tuple #[.agg #[.slice ra8 room.length rc8, .slice a8 rows'.length c8], .int .i64 oc] :: .agg #[.slice ra8 room.length rc8, .slice a8 rows'.length c8] :: .int .i64 oc :: _ :: _ :: _ :: _ :: _ :: _ :: _ :: _ :: _ :: _ :: _ :: _ :: _ :: _ :: _ :: _ :: _ :: _ :: _ :: _ :: _ :: _ :: _ :: _ :: _ :: _ :: _ :: _ :: _ :: _ :: _ :: _ :: _ :: _ :: _ :: _ :: _ :: _ :: _ :: _ :: _ :: _ :: _ :: _ :: _ :: _ :: _ :: _ :: _ :: _ :: _ :: _ :: _ :: _ :: _ :: _ :: _ :: _ :: _ :: _ :: _ :: _ :: _ :: _ :: _ :: _ :: _ :: _ :: _ :: _ :: _ :: _ :: _ :: _ :: _ :: []), defers := [] } _
          refine wpAnyH_take (i := 10) (v := .int .i64 oc) rfl (by kernel_rfl) (by kernel_rfl) (by kernel_rfl) (fun _ _ _ h => h) (Or.inl ⟨by kernel_rfl, fun w hS => by go_simp⟩) hHeld ?_
          change wpAnyH _ _ _ _ _ _ _ { tmps := List.toArray (_ :: _ :: _ :: _ :: _ :: _ :: .pointer (some ⟨wq.heap.size, 0, none⟩) :: .int .i64 oc :: _ :: _ :: _ :: _ :: _ :: _ :: _ :: _ :: _ :: _ :: _ :: _ :: _ :: .tuple #[.agg #[.slice ra8 room.length rc8, .slice a8 rows'.length c8], .int .i64 oc] :: .agg #[.slice ra room.length rc, .slice a rows.length c] :: .agg #[.slice (some ⟨g1, 0, none⟩) room.length room.length, .slice (some ⟨T1, 0, none⟩) rows.length rows.length] :: .agg #[.int .i64 x.f, .int .i64 x.t, .int .i64 x.m] :: .agg #[.int .i64 x.f, .int .i64 x.t, .int .i64 x.m] :: .tuple #[.agg #[.slice ra8 room.length rc8, .slice a8 rows'.length c8], .int .i64 oc] :: .agg #[.slice ra8 room.length rc8, .slice a8 rows'.length c8] :: .int .i64 oc :: _ :: _ :: _ :: _ :: _ :: _ :: _ :: _ :: _ :: _ :: _ :: _ :: _ :: _ :: _ :: _ :: _ :: _ :: _ :: _ :: _ :: _ :: _ :: _ :: _ :: _ :: _ :: _ :: _ :: _ :: _ :: _ :: _ :: _ :: _ :: _ :: _ :: _ :: _ :: _ :: _ :: _ :: _ :: _ :: _ :: _ :: _ :: _ :: _ :: _ :: _ :: _ :: _ :: _ :: _ :: _ :: _ :: _ :: _ :: _ :: _ :: _ :: _ :: _ :: _ :: _ :: _ :: _ :: _ :: _ :: _ :: _ :: _ :: _ :: _ :: []), defers := [] } _
          refine wpAnyH_done (by kernel_rfl) ?_ _
          go_wp2_with fail
          go_meet
          exact ⟨gotS Bf zB zlo O8, rfl⟩
      · skip
        go_simp
        have Ba := btrans Bp (balloc wp (.cells #[.slice none 0 0, .slice none 0 0] 27))
        have zB : (wp.alloc (.cells #[.slice none 0 0, .slice none 0 0] 27)).heap[wp.heap.size]? = some (.cells #[.slice none 0 0, .slice none 0 0] 27 (0, 0)) := heap_alloc_new wp _
        have zlo : w1.heap.size ≤ wp.heap.size := Bp.size
        have S1 := S1.below (balloc wp (.cells #[.slice none 0 0, .slice none 0 0] 27))
        clear hHeld
        refine hK.out _ _ (by obtain ⟨⟨k0, k1⟩, -⟩ := blk2 (blk_keep Ba A0); obtain ⟨k2, k3, k4⟩ := blk3 (blk_keep Ba A1); exact ⟨k0, k1, k2, k3, k4⟩) (fun hHeld => ?_)
        clear hK KK
        change wpAnyH _ _ _ _ _ _ _ { tmps := List.toArray (_ :: _ :: _ :: _ :: _ :: _ :: .pointer (some ⟨wp.heap.size, 0, none⟩) :: _ :: _ :: _ :: _ :: _ :: _ :: _ :: _ :: _ :: _ :: _ :: _ :: _ :: _ :: _ :: .agg #[.slice ra room.length rc, .slice a rows.length c] :: .agg #[.slice (some ⟨g1, 0, none⟩) room.length room.length, .slice (some ⟨T1, 0, none⟩) rows.length rows.length] :: .agg #[.int .i64 x.f, .int .i64 x.t, .int .i64 x.m] :: _ :: _ :: _ :: _ :: _ :: _ :: _ :: _ :: _ :: _ :: _ :: _ :: _ :: _ :: _ :: _ :: _ :: _ :: _ :: _ :: _ :: _ :: _ :: _ :: _ :: _ :: _ :: _ :: _ :: _ :: _ :: _ :: _ :: _ :: _ :: _ :: _ :: _ :: _ :: _ :: _ :: _ :: _ :: _ :: _ :: _ :: _ :: _ :: _ :: _ :: _ :: _ :: _ :: _ :: _ :: _ :: _ :: _ :: _ :: _ :: _ :: _ :: _ :: _ :: _ :: _ :: _ :: _ :: _ :: _ :: _ :: _ :: _ :: _ :: _ :: _ :: _ :: _ :: _ :: []), defers := [] } _
        refine wpAnyH_ready (rs := [3]) (by kernel_rfl) (by simp) ?_
        refine (AllReadyH.cons rfl (fun KK hK => ?_) AllReadyH.nil)
        go_simp
        refine (TM _).mono ?_
        rintro e wq ⟨rfl, hb⟩
        have Bq := btrans Ba hb
        have S1 := S1.below hb
        have zB := blk_keep hb zB
        clear hb
        go_wp2_with fail
        clear hHeld
        refine hK.out _ _ (by obtain ⟨⟨k0, k1⟩, -⟩ := blk2 (blk_keep Bq A0); obtain ⟨k2, k3, k4⟩ := blk3 (blk_keep Bq A1); exact ⟨k0, k1, k2, k3, k4⟩) (fun hHeld => ?_)
        clear hK KK
        change wpAnyH _ _ _ _ _ _ _ { tmps := List.toArray (_ :: _ :: _ :: _ :: _ :: _ :: .pointer (some ⟨wp.heap.size, 0, none⟩) :: _ :: _ :: _ :: _ :: _ :: _ :: _ :: _ :: _ :: _ :: _ :: _ :: _ :: _ :: _ :: .agg #[.slice ra room.length rc, .slice a rows.length c] :: .agg #[.slice (some ⟨g1, 0, none⟩) room.length room.length, .slice (some ⟨T1, 0, none⟩) rows.length rows.length] :: .agg #[.int .i64 x.f, .int .i64 x.t, .int .i64 x.m] :: .agg #[.int .i64 x.f, .int .i64 x.t, .int .i64 x.m] :: _ :: _ :: _ :: _ :: _ :: _ :: _ :: _ :: _ :: _ :: _ :: _ :: _ :: _ :: _ :: _ :: _ :: _ :: _ :: _ :: _ :: _ :: _ :: _ :: _ :: _ :: _ :: _ :: _ :: _ :: _ :: _ :: _ :: _ :: _ :: _ :: _ :: _ :: _ :: _ :: _ :: _ :: _ :: _ :: _ :: _ :: _ :: _ :: _ :: _ :: _ :: _ :: _ :: _ :: _ :: _ :: _ :: _ :: _ :: _ :: _ :: _ :: _ :: _ :: _ :: _ :: _ :: _ :: _ :: _ :: _ :: _ :: _ :: _ :: _ :: _ :: _ :: _ :: []), defers := [] } _
        refine wpAnyH_ready (rs := [4]) (by kernel_rfl) (by simp) ?_
        refine (AllReadyH.cons rfl (fun KK hK => ?_) AllReadyH.nil)
        go_simp
        obtain ⟨ra1, rc1, a1, c1, e1, e2, I1, R1, -⟩ := S1.arg
        have C := CS ra1 rc1 a1 c1 vs1 _ I1 R1
        rw [← e1, ← e2] at C
        clear e1 e2 I1 R1
        refine C.mono ?_
        rintro e wf ⟨rv8, v8, vs8, rfl, O8, hb⟩
        have Bf := btrans Bq hb
        have zB := blk_keep hb zB
        replace O8 := O8.base Bq.size
        obtain ⟨ra8, rc8, a8, c8, rfl, rfl, -⟩ := O8.arg
        clear hb C
        go_wp2_with fail
        clear hHeld
        refine hK.out _ _ (by obtain ⟨⟨k0, k1⟩, -⟩ := blk2 (blk_keep Bf A0); obtain ⟨k2, k3, k4⟩ := blk3 (blk_keep Bf A1); exact ⟨k0, k1, k2, k3, k4⟩) (fun hHeld => ?_)
        clear hK KK
        change wpAnyH _ _ _ _ _ _ _ { tmps := List.toArray (_ :: _ :: _ :: _ :: _ :: _ :: .pointer (some ⟨wp.heap.size, 0, none⟩) :: _ :: _ :: _ :: _ :: _ :: _ :: _ :: _ :: _ :: _ :: _ :: _ :: _ :: _ :: _ :: .agg #[.slice ra room.length rc, .slice a rows.length c] :: .agg #[.slice (some ⟨g1, 0, none⟩) room.length room.length, .slice (some ⟨T1, 0, none⟩) rows.length rows.length] :: .agg #[.int .i64 x.f, .int .i64 x.t, .int .i64 x.m] :: .agg #[.int .i64 x.f, .int .i64 x.t, .int .i64 x.m] :: .tuple #[.agg #[.slice ra8 room.length rc8, .slice a8 rows'.length c8], .int .i64 oc] :: _ :: _ :: _ :: _ :: _ :: _ :: _ :: _ :: _ :: _ :: _ :: _ :: _ :: _ :: _ :: _ :: _ :: _ :: _ :: _ :: _ :: _ :: _ :: _ :: _ :: _ :: _ :: _ :: _ :: _ :: _ :: _ :: _ :: _ :: _ :: _ :: _ :: _ :: _ :: _ :: _ :: _ :: _ :: _ :: _ :: _ :: _ :: _ :: _ :: _ :: _ :: _ :: _ :: _ :: _ :: _ :: _ :: _ :: _ :: _ :: _ :: _ :: _ :: _ :: _ :: _ :: _ :: _ :: _ :: _ :: _ :: _ :: _ :: _ :: _ :: _ :: _ :: []), defers := [] } _
        refine wpAnyH_take (i := 5) (v := .tuple #[.agg #[.slice ra8 room.length rc8, .slice a8 rows'.length c8], .int .i64 oc]) rfl (by kernel_rfl) (by kernel_rfl) (by kernel_rfl) (fun _ _ _ h => h) (Or.inl ⟨by kernel_rfl, fun w hS => by go_simp⟩) hHeld ?_
        change wpAnyH _ _ _ _ _ _ _ { tmps := List.toArray (_ :: _ :: _ :: _ :: _ :: _ :: .pointer (some ⟨wp.heap.size, 0, none⟩) :: _ :: _ :: _ :: _ :: _ :: _ :: _ :: _ :: _ :: _ :: _ :: _ :: _ :: _ :: .tuple #[.agg #[.slice ra8 room.length rc8, .slice a8 rows'.length c8], .int .i64 oc] :: .agg #[.slice ra room.length rc, .slice a rows.length c] :: .agg #[.slice (some ⟨g1, 0, none⟩) room.length room.length, .slice (some ⟨T1, 0, none⟩) rows.length rows.length] :: .agg #[.int .i64 x.f, .int .i64 x.t, .int .i64 x.m] :: .agg #[.int .i64 x.f, .int .i64 x.t, .int .i64 x.m] :: .tuple #[.agg #[.slice ra8 room.length rc8, .slice a8 rows'.length c8], .int .i64 oc] :: _ :: _ :: _ :: _ :: _ :: _ :: _ :: _ :: _ :: _ :: _ :: _ :: _ :: _ :: _ :: _ :: _ :: _ :: _ :: _ :: _ :: _ :: _ :: _ :: _ :: _ :: _ :: _ :: _ :: _ :: _ :: _ :: _ :: _ :: _ :: _ :: _ :: _ :: _ :: _ :: _ :: _ :: _ :: _ :: _ :: _ :: _ :: _ :: _ :: _ :: _ :: _ :: _ :: _ :: _ :: _ :: _ :: _ :: _ :: _ :: _ :: _ :: _ :: _ :: _ :: _ :: _ :: _ :: _ :: _ :: _ :: _ :: _ :: _ :: _ :: _ :: _ :: []), defers := [] } _
        refine wpAnyH_take (i := 6) (v := .agg #[.slice ra8 room.length rc8, .slice a8 rows'.length c8]) rfl (by kernel_rfl) (by kernel_rfl) (by kernel_rfl) (fun _ _ _ h => h) (Or.inl ⟨by kernel_rfl, fun w hS => by go_simp⟩) hHeld ?_
        change wpAnyH _ _ _ _ _ _ _ { tmps := List.toArray (_ :: _ :: _ :: _ :: _ :: _ :: .pointer (some ⟨wp.heap.size, 0, none⟩) :: _ :: _ :: _ :: _ :: _ :: _ :: _ :: _ :: _ :: _ :: _ :: _ :: _ :: _ :: .tuple #[.agg #[.slice ra8 room.length rc8, .slice a8 rows'.length c8], .int .i64 oc] :: .agg #[.slice ra room.length rc, .slice a rows.length c] :: .agg #[.slice (some ⟨g1, 0, none⟩) room.length room.length, .slice (some ⟨T1, 0, none⟩) rows.length rows.length] :: .agg #[.int .i64 x.f, .int .i64 x.t, .int .i64 x.m] :: .agg #[.int .i64 x.f, .int .i64 x.t, .int .i64 x.m] :: .tuple #[.agg #[.slice ra8 room.length rc8, .slice a8 rows'.length c8], .int .i64 oc] :: .agg #[.slice ra8 room.length rc8, .slice a8 rows'.length c8] :: _ :: _ :: _ :: _ :: _ :: _ :: _ :: _ :: _ :: _ :: _ :: _ :: _ :: _ :: _ :: _ :: _ :: _ :: _ :: _ :: _ :: _ :: _ :: _ :: _ :: _ :: _ :: _ :: _ :: _ :: _ :: _ :: _ :: _ :: _ :: _ :: _ :: _ :: _ :: _ :: _ :: _ :: _ :: _ :: _ :: _ :: _ :: _ :: _ :: _ :: _ :: _ :: _ :: _ :: _ :: _ :: _ :: _ :: _ :: _ :: _ :: _ :: _ :: _ :: _ :: _ :: _ :: _ :: _ :: _ :: _ :: _ :: _ :: _ :: _ :: _ :: []), defers := [] } _
        refine wpAnyH_take (i := 7) (v := .int .i64 oc) rfl (by kernel_rfl) (by kernel_rfl) (by kernel_rfl) (fun _ _ _ h => h) (Or.inl ⟨by kernel_rfl, fun w hS => by go_simp⟩) hHeld ?_
        change wpAnyH _ _ _ _ _ _ _ { tmps := List.toArray (_ :: _ :: _ :: _ :: _ :: _ :: .pointer (some ⟨wp.heap.size, 0, none⟩) :: _ :: _ :: _ :: _ :: _ :: _ :: _ :: _ :: _ :: _ :: _ :: _ :: _ :: _ :: .tuple #[.agg #[.slice ra8 room.length rc8, .slice a8 rows'.length c8], .int .i64 oc] :: .agg #[.slice ra room.length rc, .slice a rows.length c] :: .agg #[.slice (some ⟨g1, 0, none⟩) room.length room.length, .slice (some ⟨T1, 0, none⟩) rows.length rows.length] :: .agg #[.int .i64 x.f, .int .i64 x.t, .int .i64 x.m] :: .agg #[.int .i64 x.f, .int .i64 x.t, .int .i64 x.m] :: .tuple #[.agg #[.slice ra8 room.length rc8, .slice a8 rows'.length c8], .int .i64 oc] :: .agg #[.slice ra8 room.length rc8, .slice a8 rows'.length c8] :: .int .i64 oc :: _ :: _ :: _ :: _ :: _ :: _ :: _ :: _ :: _ :: _ :: _ :: _ :: _ :: _ :: _ :: _ :: _ :: _ :: _ :: _ :: _ :: _ :: _ :: _ :: _ :: _ :: _ :: _ :: _ :: _ :: _ :: _ :: _ :: _ :: _ :: _ :: _ :: _ :: _ :: _ :: _ :: _ :: _ :: _ :: _ :: _ :: _ :: _ :: _ :: _ :: _ :: _ :: _ :: _ :: _ :: _ :: _ :: _ :: _ :: _ :: _ :: _ :: _ :: _ :: _ :: _ :: _ :: _ :: _ :: _ :: _ :: _ :: _ :: _ :: _ :: []), defers := [] } _
        refine wpAnyH_ready (rs := [9]) (by kernel_rfl) (by simp) ?_
        refine (AllReadyH.cons rfl (fun KK hK => ?_) AllReadyH.nil)
        obtain ⟨⟨z0, z1⟩, y0, y1⟩ := blk2 zB
        have Bs : Below w1.heap.size w1 ((wf.setCell ⟨wp.heap.size, 0, none⟩ (.slice ra8 room.length rc8)).setCell ⟨wp.heap.size, 1, none⟩ (.slice a8 rows'.length c8)) := below_set zlo (below_set zlo Bf)
        go_simp
        clear hHeld
        refine hK.out _ _ (by obtain ⟨⟨k0, k1⟩, -⟩ := blk2 (blk_keep Bs A0); obtain ⟨k2, k3, k4⟩ := blk3 (blk_keep Bs A1); exact ⟨k0, k1, k2, k3, k4⟩) (fun hHeld => ?_)
        clear hK KK
        change wpAnyH _ _ _ _ _ _ _ { tmps := List.toArray (_ :: _ :: _ :: _ :: _ :: _ :: .pointer (some ⟨wp.heap.size, 0, none⟩) :: _ :: _ :: _ :: _ :: _ :: _ :: _ :: _ :: _ :: _ :: _ :: _ :: _ :: _ :: .tuple #[.agg #[.slice ra8 room.length rc8, .slice a8 rows'.length c8], .int .i64 oc] :: .agg #[.slice ra room.length rc, .slice a rows.length c] :: .agg #[.slice (some ⟨g1, 0, none⟩) room.length room.length, .slice (some ⟨T1, 0, none⟩) rows.length rows.length] :: .agg #[.int .i64 x.f, .int .i64 x.t, .int .i64 x.m] :: .agg #[.int .i64 x.f, .int .i64 x.t, .int .i64 x.m] :: .tuple #[.agg #[.slice ra8 room.length rc8, .slice a8 rows'.length c8], .int .i64 oc] :: .agg #[.slice ra8 room.length rc8, .slice a8 rows'.length c8] :: .int .i64 oc :: _ :: _ :: _ :: _ :: _ :: _ :: _ :: _ :: _ :: _ :: _ :: _ :: _ :: _ :: _ :: _ :: _ :: _ :: _ :: _ :: _ :: _ :: _ :: _ :: _ :: _ :: _ :: _ :: _ :: _ :: _ :: _ :: _ :: _ :: _ :: _ :: _ :: _ :: _ :: _ :: _ :: _ :: _ :: _ :: _ :: _ :: _ :: _ :: _ :: _ :: _ :: _ :: _ :: _ :: _ :: _ :: _ :: _ :: _ :: _ :: _ :: _ :: _ :: _ :: _ :: _ :: _ :: _ :: _ :: _ :: _ :: _ :: _ :: _ :: _ :: []), defers := [] } _
        refine wpAnyH_take (i := 10) (v := .int .i64 oc) rfl (by kernel_rfl) (by kernel_rfl) (by kernel_rfl) (fun _ _ _ h => h) (Or.inl ⟨by kernel_rfl, fun w hS => by go_simp⟩) hHeld ?_
        change wpAnyH _ _ _ _ _ _ _ { tmps := List.toArray (_ :: _ :: _ :: _ :: _ :: _ :: .pointer (some ⟨wp.heap.size, 0, none⟩) :: .int .i64 oc :: _ :: _ :: _ :: _ :: _ :: _ :: _ :: _ :: _ :: _ :: _ :: _ :: _ :: .tuple #[.agg #[.slice ra8 room.length rc8, .slice a8 rows'.length c8], .int .i64 oc] :: .agg #[.slice ra room.length rc, .slice a rows.length c] :: .agg #[.slice (some ⟨g1, 0, none⟩) room.length room.length, .slice (some ⟨T1, 0, none⟩) rows.length rows.length] :: .agg #[.int .i64 x.f, .int .i64 x.t, .int .i64 x.m] :: .agg #[.int .i64 x.f, .int .i64 x.t, .int .i64 x.m] :: .tuple #[.agg #[.slice ra8 room.length rc8, .slice a8 rows'.length c8], .int .i64 oc] :: .agg #[.slice ra8 room.length rc8, .slice a8 rows'.length c8] :: .int .i64 oc :: _ :: _ :: _ :: _ :: _ :: _ :: _ :: _ :: _ :: _ :: _ :: _ :: _ :: _ :: _ :: _ :: _ :: _ :: _ :: _ :: _ :: _ :: _ :: _ :: _ :: _ :: _ :: _ :: _ :: _ :: _ :: _ :: _ :: _ :: _ :: _ :: _ :: _ :: _ :: _ :: _ :: _ :: _ :: _ :: _ :: _ :: _ :: _ :: _ :: _ :: _ :: _ :: _ :: _ :: _ :: _ :: _ :: _ :: _ :: _ :: _ :: _ :: _ :: _ :: _ :: _ :: _ :: _ :: _ :: _ :: _ :: _ :: _ :: _ :: _ :: []), defers := [] } _
        refine wpAnyH_done (by kernel_rfl) ?_ _
        go_wp2_with fail
        go_meet
        exact ⟨gotS Bf zB zlo O8, rfl⟩
    · skip
      go_simp
      have Ba := btrans B0 (balloc wd (.cells #[.slice none 0 0, .slice none 0 0] 27))
      have zB : (wd.alloc (.cells #[.slice none 0 0, .slice none 0 0] 27)).heap[wd.heap.size]? = some (.cells #[.slice none 0 0, .slice none 0 0] 27 (0, 0)) := heap_alloc_new wd _
      have zlo : w1.heap.size ≤ wd.heap.size := B0.size
      clear hHeld
      refine hK.out _ _ (by obtain ⟨⟨k0, k1⟩, -⟩ := blk2 (blk_keep Ba A0); obtain ⟨k2, k3, k4⟩ := blk3 (blk_keep Ba A1); exact ⟨k0, k1, k2, k3, k4⟩) (fun hHeld => ?_)
      clear hK KK
      change wpAnyH _ _ _ _ _ _ _ { tmps := List.toArray (_ :: _ :: _ :: _ :: _ :: _ :: .pointer (some ⟨wd.heap.size, 0, none⟩) :: _ :: _ :: _ :: _ :: _ :: _ :: _ :: _ :: _ :: _ :: _ :: _ :: _ :: _ :: _ :: .agg #[.slice ra room.length rc, .slice a rows.length c] :: _ :: .agg #[.int .i64 x.f, .int .i64 x.t, .int .i64 x.m] :: _ :: _ :: _ :: _ :: _ :: _ :: _ :: _ :: _ :: _ :: _ :: _ :: _ :: _ :: _ :: _ :: _ :: _ :: _ :: _ :: _ :: _ :: _ :: _ :: _ :: _ :: _ :: _ :: _ :: _ :: _ :: _ :: _ :: _ :: _ :: _ :: _ :: _ :: _ :: _ :: _ :: _ :: _ :: _ :: _ :: _ :: _ :: _ :: _ :: _ :: _ :: _ :: _ :: _ :: _ :: _ :: _ :: _ :: _ :: _ :: _ :: _ :: _ :: _ :: _ :: _ :: _ :: _ :: _ :: _ :: _ :: _ :: _ :: _ :: _ :: _ :: _ :: _ :: _ :: []), defers := [] } _
      refine wpAnyH_ready (rs := [1]) (by kernel_rfl) (by simp) ?_
      refine (AllReadyH.cons rfl (fun KK hK => ?_) AllReadyH.nil)
      go_simp
      refine (CT _ (hM.below (btrans HB Ba)) (hR.below (btrans HB Ba))).mono ?_
      rintro e wp ⟨g1, T1, vs1, rfl, S1, hb⟩
      have Bp := btrans Ba hb
      have zB := blk_keep hb zB
      clear hb
      go_wp2_with fail
      clear hHeld
      refine hK.out _ _ (by obtain ⟨⟨k0, k1⟩, -⟩ := blk2 (blk_keep Bp A0); obtain ⟨k2, k3, k4⟩ := blk3 (blk_keep Bp A1); exact ⟨k0, k1, k2, k3, k4⟩) (fun hHeld => ?_)
      clear hK KK
      change wpAnyH _ _ _ _ _ _ _ { tmps := List.toArray (_ :: _ :: _ :: _ :: _ :: _ :: .pointer (some ⟨wd.heap.size, 0, none⟩) :: _ :: _ :: _ :: _ :: _ :: _ :: _ :: _ :: _ :: _ :: _ :: _ :: _ :: _ :: _ :: .agg #[.slice ra room.length rc, .slice a rows.length c] :: .agg #[.slice (some ⟨g1, 0, none⟩) room.length room.length, .slice (some ⟨T1, 0, none⟩) rows.length rows.length] :: .agg #[.int .i64 x.f, .int .i64 x.t, .int .i64 x.m] :: _ :: _ :: _ :: _ :: _ :: _ :: _ :: _ :: _ :: _ :: _ :: _ :: _ :: _ :: _ :: _ :: _ :: _ :: _ :: _ :: _ :: _ :: _ :: _ :: _ :: _ :: _ :: _ :: _ :: _ :: _ :: _ :: _ :: _ :: _ :: _ :: _ :: _ :: _ :: _ :: _ :: _ :: _ :: _ :: _ :: _ :: _ :: _ :: _ :: _ :: _ :: _ :: _ :: _ :: _ :: _ :: _ :: _ :: _ :: _ :: _ :: _ :: _ :: _ :: _ :: _ :: _ :: _ :: _ :: _ :: _ :: _ :: _ :: _ :: _ :: _ :: _ :: _ :: _ :: []), defers := [] } _
      refine wpAnyH_ready (rs := [3]) (by kernel_rfl) (by simp) ?_
      refine (AllReadyH.cons rfl (fun KK hK => ?_) AllReadyH.nil)
      go_simp
      refine (TM _).mono ?_
      rintro e wq ⟨rfl, hb⟩
      have Bq := btrans Bp hb
      have S1 := S1.below hb
      have zB := blk_keep hb zB
      clear hb
      go_wp2_with fail
      clear hHeld
      refine hK.out _ _ (by obtain ⟨⟨k0, k1⟩, -⟩ := blk2 (blk_keep Bq A0); obtain ⟨k2, k3, k4⟩ := blk3 (blk_keep Bq A1); exact ⟨k0, k1, k2, k3, k4⟩) (fun hHeld => ?_)
      clear hK KK
      change wpAnyH _ _ _ _ _ _ _ { tmps := List.toArray (_ :: _ :: _ :: _ :: _ :: _ :: .pointer (some ⟨wd.heap.size, 0, none⟩) :: _ :: _ :: _ :: _ :: _ :: _ :: _ :: _ :: _ :: _ :: _ :: _ :: _ :: _ :: _ :: .agg #[.slice ra room.length rc, .slice a rows.length c] :: .agg #[.slice (some ⟨g1, 0, none⟩) room.length room.length, .slice (some ⟨T1, 0, none⟩) rows.length rows.length] :: .agg #[.int .i64 x.f, .int .i64 x.t, .int .i64 x.m] :: .agg #[.int .i64 x.f, .int .i64 x.t, .int .i64 x.m] :: _ :: _ :: _ :: _ :: _ :: _ :: _ :: _ :: _ :: _ :: _ :: _ :: _ :: _ :: _ :: _ :: _ :: _ :: _ :: _ :: _ :: _ :: _ :: _ :: _ :: _ :: _ :: _ :: _ :: _ :: _ :: _ :: _ :: _ :: _ :: _ :: _ :: _ :: _ :: _ :: _ :: _ :: _ :: _ :: _ :: _ :: _ :: _ :: _ :: _ :: _ :: _ :: _ :: _ :: _ :: _ :: _ :: _ :: _ :: _ :: _ :: _ :: _ :: _ :: _ :: _ :: _ :: _ :: _ :: _ :: _ :: _ :: _ :: _ :: _ :: _ :: _ :: _ :: []), defers := [] } _
      refine wpAnyH_ready (rs := [4]) (by kernel_rfl) (by simp) ?_
      refine (AllReadyH.cons rfl (fun KK hK => ?_) AllReadyH.nil)
      go_simp
      obtain ⟨ra1, rc1, a1, c1, e1, e2, I1, R1, -⟩ := S1.arg
      have C := CS ra1 rc1 a1 c1 vs1 _ I1 R1
      rw [← e1, ← e2] at C
      clear e1 e2 I1 R1
      refine C.mono ?_
      rintro e wf ⟨rv8, v8, vs8, rfl, O8, hb⟩
      have Bf := btrans Bq hb
      have zB := blk_keep hb zB
      replace O8 := O8.base Bq.size
      obtain ⟨ra8, rc8, a8, c8, rfl, rfl, -⟩ := O8.arg
      clear hb C
      go_wp2_with fail
      clear hHeld
      refine hK.out _ _ (by obtain ⟨⟨k0, k1⟩, -⟩ := blk2 (blk_keep Bf A0); obtain ⟨k2, k3, k4⟩ := blk3 (blk_keep Bf A1); exact ⟨k0, k1, k2, k3, k4⟩) (fun hHeld => ?_)
      clear hK KK
      change wpAnyH _ _ _ _ _ _ _ { tmps := List.toArray (_ :: _ :: _ :: _ :: _ :: _ :: .pointer (some ⟨wd.heap.size, 0, none⟩) :: _ :: _ :: _ :: _ :: _ :: _ :: _ :: _ :: _ :: _ :: _ :: _ :: _ :: _ :: _ :: .agg #[.slice ra room.length rc, .slice a rows.length c] :: .agg #[.slice (some ⟨g1, 0, none⟩) room.length room.length, .slice (some ⟨T1, 0, none⟩) rows.length rows.length] :: .agg #[.int .i64 x.f, .int .i64 x.t, .int .i64 x.m] :: .agg #[.int .i64 x.f, .int .i64 x.t, .int .i64 x.m] :: .tuple #[.agg #[.slice ra8 room.length rc8, .slice a8 rows'.length c8], .int .i64 oc] :: _ :: _ :: _ :: _ :: _ :: _ :: _ :: _ :: _ :: _ :: _ :: _ :: _ :: _ :: _ :: _ :: _ :: _ :: _ :: _ :: _ :: _ :: _ :: _ :: _ :: _ :: _ :: _ :: _ :: _ :: _ :: _ :: _ :: _ :: _ :: _ :: _ :: _ :: _ :: _ :: _ :: _ :: _ :: _ :: _ :: _ :: _ :: _ :: _ :: _ :: _ :: _ :: _ :: _ :: _ :: _ :: _ :: _ :: _ :: _ :: _ :: _ :: _ :: _ :: _ :: _ :: _ :: _ :: _ :: _ :: _ :: _ :: _ :: _ :: _ :: _ :: _ :: []), defers := [] } _
      refine wpAnyH_take (i := 5) (v := .tuple #[.agg #[.slice ra8 room.length rc8, .slice a8 rows'.length c8], .int .i64 oc]) rfl (by kernel_rfl) (by kernel_rfl) (by kernel_rfl) (fun _ _ _ h => h) (Or.inl ⟨by kernel_rfl, fun w hS => by go_simp⟩) hHeld ?_
      change wpAnyH _ _ _ _ _ _ _ { tmps := List.toArray (_ :: _ :: _ :: _ :: _ :: _ :: .pointer (some ⟨wd.heap.size, 0, none⟩) :: _ :: _ :: _ :: _ :: _ :: _ :: _ :: _ :: _ :: _ :: _ :: _ :: _ :: _ :: .tuple #[.agg #[.slice ra8 room.length rc8, .slice a8 rows'.length c8], .int .i64 oc] :: .agg #[.slice ra room.length rc, .slice a rows.length c] :: .agg #[.slice (some ⟨g1, 0, none⟩) room.length room.length, .slice (some ⟨T1, 0, none⟩) rows.length rows.length] :: .agg #[.int .i64 x.f, .int .i64 x.t, .int .i64 x.m] :: .agg #[.int .i64 x.f, .int .i64 x.t, .int .i64 x.m] :: .tuple #[.agg #[.slice ra8 room.length rc8, .slice a8 rows'.length c8], .int .i64 oc] :: _ :: _ :: _ :: _ :: _ :: _ :: _ :: _ :: _ :: _ :: _ :: _ :: _ :: _ :: _ :: _ :: _ :: _ :: _ :: _ :: _ :: _ :: _ :: _ :: _ :: _ :: _ :: _ :: _ :: _ :: _ :: _ :: _ :: _ :: _ :: _ :: _ :: _ :: _ :: _ :: _ :: _ :: _ :: _ :: _ :: _ :: _ :: _ :: _ :: _ :: _ :: _ :: _ :: _ :: _ :: _ :: _ :: _ :: _ :: _ :: _ :: _ :: _ :: _ :: _ :: _ :: _ :: _ :: _ :: _ :: _ :: _ :: _ :: _ :: _ :: _ :: _ :: []), defers := [] } _
      refine wpAnyH_take (i := 6) (v := .agg #[.slice ra8 room.length rc8, .slice a8 rows'.length c8]) rfl (by kernel_rfl) (by kernel_rfl) (by kernel_rfl) (fun _ _ _ h => h) (Or.inl ⟨by kernel_rfl, fun w hS => by go_simp⟩) hHeld ?_
      change wpAnyH _ _ _ _ _ _ _ { tmps := List.toArray (_ :: _ :: _ :: _ :: _ :: _ :: .pointer (some ⟨wd.heap.size, 0, none⟩) :: _ :: _ :: _ :: _ :: _ :: _ :: _ :: _ :: _ :: _ :: _ :: _ :: _ :: _ :: .tuple #[.agg #[.slice ra8 room.length rc8, .slice a8 rows'.length c8], .int .i64 oc] :: .agg #[.slice ra room.length rc, .slice a rows.length c] :: .agg #[.slice (some ⟨g1, 0, none⟩) room.length room.length, .slice (some ⟨T1, 0, none⟩) rows.length rows.length] :: .agg #[.int .i64 x.f, .int .i64 x.t, .int .i64 x.m] :: .agg #[.int .i64 x.f, .int .i64 x.t, .int .i64 x.m] :: .tuple #[.agg #[.slice ra8 room.length rc8, .slice a8 rows'.length c8], .int .i64 oc] :: .agg #[.slice ra8 room.length rc8, .slice a8 rows'.length c8] :: _ :: _ :: _ :: _ :: _ :: _ :: _ :: _ :: _ :: _ :: _ :: _ :: _ :: _ :: _ :: _ :: _ :: _ :: _ :: _ :: _ :: _ :: _ :: _ :: _ :: _ :: _ :: _ :: _ :: _ :: _ :: _ :: _ :: _ :: _ :: _ :: _ :: _ :: _ :: _ :: _ :: _ :: _ :: _ :: _ :: _ :: _ :: _ :: _ :: _ :: _ :: _ :: _ :: _ :: _ :: _ :: _ :: _ :: _ :: _ :: _ :: _ :: _ :: _ :: _ :: _ :: _ :: _ :: _ :: _ :: _ :: _ :: _ :: _ :: _ :: _ :: []), defers := [] } _
      refine wpAnyH_take (i := 7) (v := .int .i64 oc) rfl (by kernel_rfl) (by kernel_rfl) (by kernel_rfl) (fun _ _ _ h => h) (Or.inl ⟨by kernel_rfl, fun w hS => by go_simp⟩) hHeld ?_
      change wpAnyH _ _ _ _ _ _ _ { tmps := List.toArray (_ :: _ :: _ :: _ :: _ :: _ :: .pointer (some ⟨wd.heap.size, 0, none⟩) :: _ :: _ :: _ :: _ :: _ :: _ :: _ :: _ :: _ :: _ :: _ :: _ :: _ :: _ :: .tuple #[.agg #[.slice ra8 room.length rc8, .slice a8 rows'.length c8], .int .i64 oc] :: .agg #[.slice ra room.length rc, .slice a rows.length c] :: .agg #[.slice (some ⟨g1, 0, none⟩) room.length room.length, .slice (some ⟨T1, 0, none⟩) rows.length rows.length] :: .agg #[.int .i64 x.f, .int .i64 x.t, .int .i64 x.m] :: .agg #[.int .i64 x.f, .int .i64 x.t, .int .i64 x.m] :: .tuple #[.agg #[.slice ra8 room.length rc8, .slice a8 rows'.length c8], .int .i64 oc] :: .agg #[.slice ra8 room.length rc8, .slice a8 rows'.length c8] :: .int .i64 oc :: _ :: _ :: _ :: _ :: _ :: _ :: _ :: _ :: _ :: _ :: _ :: _ :: _ :: _ :: _ :: _ :: _ :: _ :: _ :: _ :: _ :: _ :: _ :: _ :: _ :: _ :: _ :: _ :: _ :: _ :: _ :: _ :: _ :: _ :: _ :: _ :: _ :: _ :: _ :: _ :: _ :: _ :: _ :: _ :: _ :: _ :: _ :: _ :: _ :: _ :: _ :: _ :: _ :: _ :: _ :: _ :: _ :: _ :: _ :: _ :: _ :: _ :: _ :: _ :: _ :: _ :: _ :: _ :: _ :: _ :: _ :: _ :: _ :: _ :: _ :: []), defers := [] } _
      refine wpAnyH_ready (rs := [9]) (by kernel_rfl) (by simp) ?_
      refine (AllReadyH.cons rfl (fun KK hK => ?_) AllReadyH.nil)
      obtain ⟨⟨z0, z1⟩, y0, y1⟩ := blk2 zB
      have Bs : Below w1.heap.size w1 ((wf.setCell ⟨wd.heap.size, 0, none⟩ (.slice ra8 room.length rc8)).setCell ⟨wd.heap.size, 1, none⟩ (.slice a8 rows'.length c8)) := below_set zlo (below_set zlo Bf)
      go_simp
      clear hHeld
      refine hK.out _ _ (by obtain ⟨⟨k0, k1⟩, -⟩ := blk2 (blk_keep Bs A0); obtain ⟨k2, k3, k4⟩ := blk3 (blk_keep Bs A1); exact ⟨k0, k1, k2, k3, k4⟩) (fun hHeld => ?_)
      clear hK KK
      change wpAnyH _ _ _ _ _ _ _ { tmps := List.toArray (_ :: _ :: _ :: _ :: _ :: _ :: .pointer (some ⟨wd.heap.size, 0, none⟩) :: _ :: _ :: _ :: _ :: _ :: _ :: _ :: _ :: _ :: _ :: _ :: _ :: _ :: _ :: .tuple #[.agg #[.slice ra8 room.length rc8, .slice a8 rows'.length c8], .int .i64 oc] :: .agg #[.slice ra room.length rc, .slice a rows.length c] :: .agg #[.slice (some ⟨g1, 0, none⟩) room.length room.length, .slice (some ⟨T1, 0, none⟩) rows.length rows.length] :: .agg #[.int .i64 x.f, .int .i64 x.t, .int .i64 x.m] :: .agg #[.int .i64 x.f, .int .i64 x.t, .int .i64 x.m] :: .tuple #[.agg #[.slice ra8 room.length rc8, .slice a8 rows'.length c8], .int .i64 oc] :: .agg #[.slice ra8 room.length rc8, .slice a8 rows'.length c8] :: .int .i64 oc :: _ :: _ :: _ :: _ :: _ :: _ :: _ :: _ :: _ :: _ :: _ :: _ :: _ :: _ :: _ :: _ :: _ :: _ :: _ :: _ :: _ :: _ :: _ :: _ :: _ :: _ :: _ :: _ :: _ :: _ :: _ :: _ :: _ :: _ :: _ :: _ :: _ :: _ :: _ :: _ :: _ :: _ :: _ :: _ :: _ :: _ :: _ :: _ :: _ :: _ :: _ :: _ :: _ :: _ :: _ :: _ :: _ :: _ :: _ :: _ :: _ :: _ :: _ :: _ :: _ :: _ :: _ :: _ :: _ :: _ :: _ :: _ :: _ :: _ :: _ :: []), defers := [] } _
      refine wpAnyH_take (i := 10) (v := .int .i64 oc) rfl (by kernel_rfl) (by kernel_rfl) (by kernel_rfl) (fun _ _ _ h => h) (Or.inl ⟨by kernel_rfl, fun w hS => by go_simp⟩) hHeld ?_
      change wpAnyH _ _ _ _ _ _ _ { tmps := List.toArray (_ :: _ :: _ :: _ :: _ :: _ :: .pointer (some ⟨wd.heap.size, 0, none⟩) :: .int .i64 oc :: _ :: _ :: _ :: _ :: _ :: _ :: _ :: _ :: _ :: _ :: _ :: _ :: _ :: .tuple #[.agg #[.slice ra8 room.length rc8, .slice a8 rows'.length c8], .int .i64 oc] :: .agg #[.slice ra room.length rc, .slice a rows.length c] :: .agg #[.slice (some ⟨g1, 0, none⟩) room.length room.length, .slice (some ⟨T1, 0, none⟩) rows.length rows.length] :: .agg #[.int .i64 x.f, .int .i64 x.t, .int .i64 x.m] :: .agg #[.int .i64 x.f, .int .i64 x.t, .int .i64 x.m] :: .tuple #[.agg #[.slice ra8 room.length rc8, .slice a8 rows'.length c8], .int .i64 oc] :: .agg #[.slice ra8 room.length rc8, .slice a8 rows'.length c8] :: .int .i64 oc :: _ :: _ :: _ :: _ :: _ :: _ :: _ :: _ :: _ :: _ :: _ :: _ :: _ :: _ :: _ :: _ :: _ :: _ :: _ :: _ :: _ :: _ :: _ :: _ :: _ :: _ :: _ :: _ :: _ :: _ :: _ :: _ :: _ :: _ :: _ :: _ :: _ :: _ :: _ :: _ :: _ :: _ :: _ :: _ :: _ :: _ :: _ :: _ :: _ :: _ :: _ :: _ :: _ :: _ :: _ :: _ :: _ :: _ :: _ :: _ :: _ :: _ :: _ :: _ :: _ :: _ :: _ :: _ :: _ :: _ :: _ :: _ :: _ :: _ :: _ :: []), defers := [] } _
      refine wpAnyH_done (by kernel_rfl) ?_ _
      go_wp2_with fail
      go_meet
      exact ⟨gotS Bf zB zlo O8, rfl⟩
  case rest =>
  clear x0 x1 m0 m1 m2
  obtain ⟨⟨⟨bW, rvW, vW, vsW, rfl, KW, SW, loW⟩, hb⟩, rfl⟩ := hcut
  have hWl : w1.heap.size ≤ wc.heap.size := hb.size
  replace HB := btrans HB hb
  replace A0 := blk_keep hb A0
  replace A1 := blk_keep hb A1
  clear hb
  have hWlt := fun k hk => (SW.blk k hk).2
  have hw0 : w.heap.size ≤ wc.heap.size := HB.size
  generalize hnW : wc.heap.size = nW at *
  obtain ⟨⟨x0, x1⟩, -⟩ := blk2 A0
  go_wp2_with fail
  refine (CT _ (hM.below HB) (hR.below HB)).mono ?_
  rintro e w2 ⟨g1, T1, vs1, rfl, S1, hb⟩
  have hnx0 := hb.size
  replace HB := btrans HB hb
  replace A0 := blk_keep hb A0
  replace A1 := blk_keep hb A1
  replace KW := blk_keep hb KW
  replace SW := SW.below hb
  clear hb
  clear x0 x1
  rw [hnW] at S1 hnx0
  have X0 := heap_alloc_new w2 (.cells #[.slice (some ⟨g1, 0, none⟩) room.length room.length, .slice (some ⟨T1, 0, none⟩) rows.length rows.length] 27)
  have hb := balloc w2 (.cells #[.slice (some ⟨g1, 0, none⟩) room.length room.length, .slice (some ⟨T1, 0, none⟩) rows.length rows.length] 27)
  replace HB := btrans HB hb
  replace A0 := blk_keep hb A0
  replace A1 := blk_keep hb A1
  replace KW := blk_keep hb KW
  replace SW := SW.below hb
  replace S1 := S1.below hb
  clear hb
  have hXb := fun k hk => (S1.blk k hk)
  have hnx1 : w2.heap.size ≤ (w2.alloc (.cells #[.slice (some ⟨g1, 0, none⟩) room.length room.length, .slice (some ⟨T1, 0, none⟩) rows.length rows.length] 27)).heap.size := by rw [sz1]; omega
  generalize hxB : w2.heap.size = xB at *
  obtain ⟨⟨x0, x1⟩, -⟩ := blk2 X0
  obtain ⟨m0, m1, m2⟩ := blk3 A1
  go_upto_region 7 with fail
  generalize w2.alloc (.cells #[.slice (some ⟨g1, 0, none⟩) room.length room.length, .slice (some ⟨T1, 0, none⟩) rows.length rows.length] 27) = wx at *
  go_cut [9, 10] from 38 (fun sv cv wc => GotS wx room rows' sv wc ∧ cv = .int .i64 oc)
  case first =>
    refine wp_region_held_drew (S := (fun w' => w'.cell? ⟨xB, 0, none⟩ = some (.slice (some ⟨g1, 0, none⟩) room.length room.length) ∧ w'.cell? ⟨xB, 1, none⟩ = some (.slice (some ⟨T1, 0, none⟩) rows.length rows.length) ∧ w'.cell? ⟨w.heap.size + 1, 0, none⟩ = some (.int .i64 x.f) ∧ w'.cell? ⟨w.heap.size + 1, 1, none⟩ = some (.int .i64 x.t) ∧ w'.cell? ⟨w.heap.size + 1, 2, none⟩ = some (.int .i64 x.m))) (by kernel_rfl) ?_ (fun hHeld => ?_)
    · go_keep
    have B0 : Below wx.heap.size wx wx.drew := (Below.refl _ _).drew
    generalize wx.drew = wd at *
    refine wpAnyH_take (i := 0) (v := .agg #[.slice (some ⟨g1, 0, none⟩) room.length room.length, .slice (some ⟨T1, 0, none⟩) rows.length rows.length]) rfl (by kernel_rfl) (by kernel_rfl) (by kernel_rfl) (fun _ _ _ h => h) (Or.inl ⟨by kernel_rfl, fun w hS => by (obtain ⟨hS0, hS1, hS2, hS3, hS4⟩ := hS; go_simp)⟩) hHeld ?_
    change wpAnyH _ _ _ _ _ _ _ { tmps := List.toArray (_ :: _ :: _ :: _ :: _ :: _ :: _ :: _ :: _ :: _ :: _ :: _ :: _ :: _ :: _ :: _ :: _ :: _ :: _ :: _ :: _ :: _ :: _ :: _ :: _ :: _ :: _ :: _ :: _ :: _ :: _ :: _ :: .agg #[.slice (some ⟨g1, 0, none⟩) room.length room.length, .slice (some ⟨T1, 0, none⟩) rows.length rows.length] :: _ :: _ :: _ :: _ :: _ :: _ :: _ :: _ :: _ :: _ :: _ :: _ :: _ :: _ :: _ :: _ :: _ :: _ :: _ :: _ :: _ :: _ :: _ :: _ :: _ :: _ :: _ :: _ :: _ :: _ :: _ :: _ :: _ :: _ :: _ :: _ :: _ :: _ :: _ :: _ :: _ :: _ :: _ :: _ :: _ :: _ :: _ :: _ :: _ :: _ :: _ :: _ :: _ :: _ :: _ :: _ :: _ :: _ :: _ :: _ :: _ :: _ :: _ :: _ :: _ :: _ :: _ :: _ :: _ :: _ :: _ :: []), defers := [] } _
    refine wpAnyH_take (i := 1) (v := .agg #[.int .i64 x.f, .int .i64 x.t, .int .i64 x.m]) rfl (by kernel_rfl) (by kernel_rfl) (by kernel_rfl) (fun _ _ _ h => h) (Or.inl ⟨by kernel_rfl, fun w hS => by (obtain ⟨hS0, hS1, hS2, hS3, hS4⟩ := hS; go_simp)⟩) hHeld ?_
    change wpAnyH _ _ _ _ _ _ _ { tmps := List.toArray (_ :: _ :: _ :: _ :: _ :: _ :: _ :: _ :: _ :: _ :: _ :: _ :: _ :: _ :: _ :: _ :: _ :: _ :: _ :: _ :: _ :: _ :: _ :: _ :: _ :: _ :: _ :: _ :: _ :: _ :: _ :: _ :: .agg #[.slice (some ⟨g1, 0, none⟩) room.length room.length, .slice (some ⟨T1, 0, none⟩) rows.length rows.length] :: .agg #[.int .i64 x.f, .int .i64 x.t, .int .i64 x.m] :: _ :: _ :: _ :: _ :: _ :: _ :: _ :: _ :: _ :: _ :: _ :: _ :: _ :: _ :: _ :: _ :: _ :: _ :: _ :: _ :: _ :: _ :: _ :: _ :: _ :: _ :: _ :: _ :: _ :: _ :: _ :: _ :: _ :: _ :: _ :: _ :: _ :: _ :: _ :: _ :: _ :: _ :: _ :: _ :: _ :: _ :: _ :: _ :: _ :: _ :: _ :: _ :: _ :: _ :: _ :: _ :: _ :: _ :: _ :: _ :: _ :: _ :: _ :: _ :: _ :: _ :: _ :: _ :: _ :: _ :: []), defers := [] } _
    refine wpAnyH_ready (rs := [2, 7]) (by kernel_rfl) (by simp) ?_
    refine (AllReadyH.cons rfl (fun KK hK => ?_) (AllReadyH.cons rfl (fun KK hK => ?_) AllReadyH.nil))
    · skip
      go_simp
      refine (TM _).mono ?_
      rintro e wq ⟨rfl, hb⟩
      have Bq := btrans B0 hb
      have S1q := S1.below Bq
      clear hb
      go_wp2_with fail
      clear hHeld
      refine hK.out _ _ (by obtain ⟨⟨k0, k1⟩, -⟩ := blk2 (blk_keep Bq X0); obtain ⟨k2, k3, k4⟩ := blk3 (blk_keep Bq A1); exact ⟨k0, k1, k2, k3, k4⟩) (fun hHeld => ?_)
      clear hK KK
      change wpAnyH _ _ _ _ _ _ _ { tmps := List.toArray (_ :: _ :: _ :: _ :: _ :: _ :: _ :: _ :: _ :: _ :: _ :: _ :: _ :: _ :: _ :: _ :: _ :: _ :: _ :: _ :: _ :: _ :: _ :: _ :: _ :: _ :: _ :: _ :: _ :: _ :: _ :: _ :: .agg #[.slice (some ⟨g1, 0, none⟩) room.length room.length, .slice (some ⟨T1, 0, none⟩) rows.length rows.length] :: .agg #[.int .i64 x.f, .int .i64 x.t, .int .i64 x.m] :: .agg #[.int .i64 x.f, .int .i64 x.t, .int .i64 x.m] :: _ :: _ :: _ :: _ :: _ :: _ :: _ :: _ :: _ :: _ :: _ :: _ :: _ :: _ :: _ :: _ :: _ :: _ :: _ :: _ :: _ :: _ :: _ :: _ :: _ :: _ :: _ :: _ :: _ :: _ :: _ :: _ :: _ :: _ :: _ :: _ :: _ :: _ :: _ :: _ :: _ :: _ :: _ :: _ :: _ :: _ :: _ :: _ :: _ :: _ :: _ :: _ :: _ :: _ :: _ :: _ :: _ :: _ :: _ :: _ :: _ :: _ :: _ :: _ :: _ :: _ :: _ :: _ :: _ :: []), defers := [] } _
      refine wpAnyH_ready (rs := [3, 7]) (by kernel_rfl) (by simp) ?_
      refine (AllReadyH.cons rfl (fun KK hK => ?_) (AllReadyH.cons rfl (fun KK hK => ?_) AllReadyH.nil))
      · skip
        go_simp
        obtain ⟨ra1, rc1, a1, c1, e1, e2, I1, R1, -⟩ := S1q.arg
        have C := CI ra1 rc1 a1 c1 vs1 _ I1 R1
        rw [← e1, ← e2] at C
        clear e1 e2 I1 R1
        refine C.mono ?_
        rintro e wf ⟨rv8, v8, vs8, rfl, O8, hb⟩
        have Bf := btrans Bq hb
        replace O8 := O8.base Bq.size
        obtain ⟨ra8, rc8, a8, c8, rfl, rfl, -⟩ := O8.arg
        clear hb C
        go_wp2_with fail
        clear hHeld
        refine hK.out _ _ (by obtain ⟨⟨k0, k1⟩, -⟩ := blk2 (blk_keep Bf X0); obtain ⟨k2, k3, k4⟩ := blk3 (blk_keep Bf A1); exact ⟨k0, k1, k2, k3, k4⟩) (fun hHeld => ?_)
        clear hK KK
        change wpAnyH _ _ _ _ _ _ _ { tmps := List.toArray (_ :: _ :: _ :: _ :: _ :: _ :: _ :: _ :: _ :: _ :: _ :: _ :: _ :: _ :: _ :: _ :: _ :: _ :: _ :: _ :: _ :: _ :: _ :: _ :: _ :: _ :: _ :: _ :: _ :: _ :: _ :: _ :: .agg #[.slice (some ⟨g1, 0, none⟩) room.length room.length, .slice (some ⟨T1, 0, none⟩) rows.length rows.length] :: .agg #[.int .i64 x.f, .int .i64 x.t, .int .i64 x.m] :: .agg #[.int .i64 x.f, .int .i64 x.t, .int .i64 x.m] :: .tuple #[.agg #[.slice ra8 room.length rc8, .slice a8 rows'.length c8], .int .i64 oc] :: _ :: _ :: _ :: _ :: _ :: _ :: _ :: _ :: _ :: _ :: _ :: _ :: _ :: _ :: _ :: _ :: _ :: _ :: _ :: _ :: _ :: _ :: _ :: _ :: _ :: _ :: _ :: _ :: _ :: _ :: _ :: _ :: _ :: _ :: _ :: _ :: _ :: _ :: _ :: _ :: _ :: _ :: _ :: _ :: _ :: _ :: _ :: _ :: _ :: _ :: _ :: _ :: _ :: _ :: _ :: _ :: _ :: _ :: _ :: _ :: _ :: _ :: _ :: _ :: _ :: _ :: _ :: _ :: []), defers := [] } _
        refine wpAnyH_take (i := 4) (v := .tuple #[.agg #[.slice ra8 room.length rc8, .slice a8 rows'.length c8], .int .i64 oc]) rfl (by kernel_rfl) (by kernel_rfl) (by kernel_rfl) (fun _ _ _ h => h) (Or.inl ⟨by kernel_rfl, fun w hS => by go_simp⟩) hHeld ?_
        change wpAnyH _ _ _ _ _ _ _ { tmps := List.toArray (_ :: _ :: _ :: _ :: _ :: _ :: _ :: _ :: _ :: _ :: _ :: _ :: _ :: _ :: _ :: _ :: _ :: _ :: _ :: _ :: _ :: _ :: _ :: _ :: _ :: _ :: _ :: _ :: _ :: _ :: _ :: .tuple #[.agg #[.slice ra8 room.length rc8, .slice a8 rows'.length c8], .int .i64 oc] :: .agg #[.slice (some ⟨g1, 0, none⟩) room.length room.length, .slice (some ⟨T1, 0, none⟩) rows.length rows.length] :: .agg #[.int .i64 x.f, .int .i64 x.t, .int .i64 x.m] :: .agg #[.int .i64 x.f, .int .i64 x.t, .int .i64 x.m] :: .tuple #[.agg #[.slice ra8 room.length rc8, .slice a8 rows'.length c8], .int .i64 oc] :: _ :: _ :: _ :: _ :: _ :: _ :: _ :: _ :: _ :: _ :: _ :: _ :: _ :: _ :: _ :: _ :: _ :: _ :: _ :: _ :: _ :: _ :: _ :: _ :: _ :: _ :: _ :: _ :: _ :: _ :: _ :: _ :: _ :: _ :: _ :: _ :: _ :: _ :: _ :: _ :: _ :: _ :: _ :: _ :: _ :: _ :: _ :: _ :: _ :: _ :: _ :: _ :: _ :: _ :: _ :: _ :: _ :: _ :: _ :: _ :: _ :: _ :: _ :: _ :: _ :: _ :: _ :: _ :: []), defers := [] } _
        refine wpAnyH_take (i := 5) (v := .agg #[.slice ra8 room.length rc8, .slice a8 rows'.length c8]) rfl (by kernel_rfl) (by kernel_rfl) (by kernel_rfl) (fun _ _ _ h => h) (Or.inl ⟨by kernel_rfl, fun w hS => by go_simp⟩) hHeld ?_
        change wpAnyH _ _ _ _ _ _ _ { tmps := List.toArray (_ :: _ :: _ :: _ :: _ :: _ :: _ :: _ :: _ :: _ :: _ :: _ :: _ :: _ :: _ :: _ :: _ :: _ :: _ :: _ :: _ :: _ :: _ :: _ :: _ :: _ :: _ :: _ :: _ :: _ :: _ :: .tuple #[.agg #[.slice ra8 room.length rc8, .slice a8 rows'.length c8], .int .i64 oc] :: .agg #[.slice (some ⟨g1, 0, none⟩) room.length room.length, .slice (some ⟨T1, 0, none⟩) rows.length rows.length] :: .agg #[.int .i64 x.f, .int .i64 x.t, .int .i64 x.m] :: .agg #[.int .i64 x.f, .int .i64 x.t, .int .i64 x.m] :: .tuple #[.agg #[.slice ra8 room.length rc8, .slice a8 rows'.length c8], .int .i64 oc] :: .agg #[.slice ra8 room.length rc8, .slice a8 rows'.length c8] :: _ :: _ :: _ :: _ :: _ :: _ :: _ :: _ :: _ :: _ :: _ :: _ :: _ :: _ :: _ :: _ :: _ :: _ :: _ :: _ :: _ :: _ :: _ :: _ :: _ :: _ :: _ :: _ :: _ :: _ :: _ :: _ :: _ :: _ :: _ :: _ :: _ :: _ :: _ :: _ :: _ :: _ :: _ :: _ :: _ :: _ :: _ :: _ :: _ :: _ :: _ :: _ :: _ :: _ :: _ :: _ :: _ :: _ :: _ :: _ :: _ :: _ :: _ :: _ :: _ :: _ :: _ :: []), defers := [] } _
        refine wpAnyH_take (i := 6) (v := .int .i64 oc) rfl (by kernel_rfl) (by kernel_rfl) (by kernel_rfl) (fun _ _ _ h => h) (Or.inl ⟨by kernel_rfl, fun w hS => by go_simp⟩) hHeld ?_
        change wpAnyH _ _ _ _ _ _ _ { tmps := List.toArray (_ :: _ :: _ :: _ :: _ :: _ :: _ :: _ :: _ :: _ :: _ :: _ :: _ :: _ :: _ :: _ :: _ :: _ :: _ :: _ :: _ :: _ :: _ :: _ :: _ :: _ :: _ :: _ :: _ :: _ :: _ :: .tuple #[.agg #[.slice ra8 room.length rc8, .slice a8 rows'.length c8], .int .i64 oc] :: .agg #[.slice (some ⟨g1, 0, none⟩) room.length room.length, .slice (some ⟨T1, 0, none⟩) rows.length rows.length] :: .agg #[.int .i64 x.f, .int .i64 x.t, .int .i64 x.m] :: .agg #[.int .i64 x.f, .int .i64 x.t, .int .i64 x.m] :: .tuple #[.agg #[.slice ra8 room.length rc8, .slice a8 rows'.length c8], .int .i64 oc] :: .agg #[.slice ra8 room.length rc8, .slice a8 rows'.length c8] :: .int .i64 oc :: _ :: _ :: _ :: _ :: _ :: _ :: _ :: _ :: _ :: _ :: _ :: _ :: _ :: _ :: _ :: _ :: _ :: _ :: _ :: _ :: _ :: _ :: _ :: _ :: _ :: _ :: _ :: _ :: _ :: _ :: _ :: _ :: _ :: _ :: _ :: _ :: _ :: _ :: _ :: _ :: _ :: _ :: _ :: _ :: _ :: _ :: _ :: _ :: _ :: _ :: _ :: _ :: _ :: _ :: _ :: _ :: _ :: _ :: _ :: _ :: _ :: _ :: _ :: _ :: _ :: _ :: []), defers := [] } _
        refine wpAnyH_ready (rs := [7]) (by kernel_rfl) (by simp) ?_
        refine (AllReadyH.cons rfl (fun KK hK => ?_) AllReadyH.nil)
        go_simp
        have Ba := btrans Bf (balloc wf (.cells #[.slice none 0 0, .slice none 0 0] 27))
        have zB : (wf.alloc (.cells #[.slice none 0 0, .slice none 0 0] 27)).heap[wf.heap.size]? = some (.cells #[.slice none 0 0, .slice none 0 0] 27 (0, 0)) := heap_alloc_new wf _
        have zlo : wx.heap.size ≤ wf.heap.size := Bf.size
        clear hHeld
        refine hK.out _ _ (by obtain ⟨⟨k0, k1⟩, -⟩ := blk2 (blk_keep Ba X0); obtain ⟨k2, k3, k4⟩ := blk3 (blk_keep Ba A1); exact ⟨k0, k1, k2, k3, k4⟩) (fun hHeld => ?_)
        clear hK KK
        change wpAnyH _ _ _ _ _ _ _ { tmps := List.toArray (_ :: _ :: _ :: _ :: _ :: _ :: _ :: _ :: _ :: .pointer (some ⟨wf.heap.size, 0, none⟩) :: _ :: _ :: _ :: _ :: _ :: _ :: _ :: _ :: _ :: _ :: _ :: _ :: _ :: _ :: _ :: _ :: _ :: _ :: _ :: _ :: _ :: .tuple #[.agg #[.slice ra8 room.length rc8, .slice a8 rows'.length c8], .int .i64 oc] :: .agg #[.slice (some ⟨g1, 0, none⟩) room.length room.length, .slice (some ⟨T1, 0, none⟩) rows.length rows.length] :: .agg #[.int .i64 x.f, .int .i64 x.t, .int .i64 x.m] :: .agg #[.int .i64 x.f, .int .i64 x.t, .int .i64 x.m] :: .tuple #[.agg #[.slice ra8 room.length rc8, .slice a8 rows'.length c8], .int .i64 oc] :: .agg #[.slice ra8 room.length rc8, .slice a8 rows'.length c8] :: .int .i64 oc :: _ :: _ :: _ :: _ :: _ :: _ :: _ :: _ :: _ :: _ :: _ :: _ :: _ :: _ :: _ :: _ :: _ :: _ :: _ :: _ :: _ :: _ :: _ :: _ :: _ :: _ :: _ :: _ :: _ :: _ :: _ :: _ :: _ :: _ :: _ :: _ :: _ :: _ :: _ :: _ :: _ :: _ :: _ :: _ :: _ :: _ :: _ :: _ :: _ :: _ :: _ :: _ :: _ :: _ :: _ :: _ :: _ :: _ :: _ :: _ :: _ :: _ :: _ :: _ :: _ :: _ :: []), defers := [] } _
        refine wpAnyH_ready (rs := [8]) (by kernel_rfl) (by simp) ?_
        refine (AllReadyH.cons rfl (fun KK hK => ?_) AllReadyH.nil)
        have Bs := btrans Bf (balloc wf (.cells #[.slice ra8 room.length rc8, .slice a8 rows'.length c8] 27))
        go_simp
        clear hHeld
        refine hK.out _ _ (by obtain ⟨⟨k0, k1⟩, -⟩ := blk2 (blk_keep Bs X0); obtain ⟨k2, k3, k4⟩ := blk3 (blk_keep Bs A1); exact ⟨k0, k1, k2, k3, k4⟩) (fun hHeld => ?_)
        clear hK KK
        change wpAnyH _ _ _ _ _ _ _ { tmps := List.toArray (_ :: _ :: _ :: _ :: _ :: _ :: _ :: _ :: _ :: .pointer (some ⟨wf.heap.size, 0, none⟩) :: _ :: _ :: _ :: _ :: _ :: _ :: _ :: _ :: _ :: _ :: _ :: _ :: _ :: _ :: _ :: _ :: _ :: _ :: _ :: _ :: _ :: .tuple #[.agg #[.slice ra8 room.length rc8, .slice a8 rows'.length c8], .int .i64 oc] :: .agg #[.slice (some ⟨g1, 0, none⟩) room.length room.length, .slice (some ⟨T1, 0, none⟩) rows.length rows.length] :: .agg #[.int .i64 x.f, .int .i64 x.t, .int .i64 x.m] :: .agg #[.int .i64 x.f, .int .i64 x.t, .int .i64 x.m] :: .tuple #[.agg #[.slice ra8 room.length rc8, .slice a8 rows'.length c8], .int .i64 oc] :: .agg #[.slice ra8 room.length rc8, .slice a8 rows'.length c8] :: .int .i64 oc :: _ :: _ :: _ :: _ :: _ :: _ :: _ :: _ :: _ :: _ :: _ :: _ :: _ :: _ :: _ :: _ :: _ :: _ :: _ :: _ :: _ :: _ :: _ :: _ :: _ :: _ :: _ :: _ :: _ :: _ :: _ :: _ :: _ :: _ :: _ :: _ :: _ :: _ :: _ :: _ :: _ :: _ :: _ :: _ :: _ :: _ :: _ :: _ :: _ :: _ :: _ :: _ :: _ :: _ :: _ :: _ :: _ :: _ :: _ :: _ :: _ :: _ :: _ :: _ :: _ :: _ :: []), defers := [] } _
        refine wpAnyH_take (i := 9) (v := .int .i64 oc) rfl (by kernel_rfl) (by kernel_rfl) (by kernel_rfl) (fun _ _ _ h => h) (Or.inl ⟨by kernel_rfl, fun w hS => by go_simp⟩) hHeld ?_
        change wpAnyH _ _ _ _ _ _ _ { tmps := List.toArray (_ :: _ :: _ :: _ :: _ :: _ :: _ :: _ :: _ :: .pointer (some ⟨wf.heap.size, 0, none⟩) :: .int .i64 oc :: _ :: _ :: _ :: _ :: _ :: _ :: _ :: _ :: _ :: _ :: _ :: _ :: _ :: _ :: _ :: _ :: _ :: _ :: _ :: _ :: .tuple #[.agg #[.slice ra8 room.length rc8, .slice a8 rows'.length c8], .int .i64 oc] :: .agg #[.slice (some ⟨g1, 0, none⟩) room.length room.length, .slice (some ⟨T1, 0, none⟩) rows.length rows.length] :: .agg #[.int .i64 x.f, .int .i64 x.t, .int .i64 x.m] :: .agg #[.int .i64 x.f, .int .i64 x.t, .int .i64 x.m] :: .tuple #[.agg #[.slice ra8 room.length rc8, .slice a8 rows'.length c8], .int .i64 oc] :: .agg #[.slice ra8 room.length rc8, .slice a8 rows'.length c8] :: .int .i64 oc :: _ :: _ :: _ :: _ :: _ :: _ :: _ :: _ :: _ :: _ :: _ :: _ :: _ :: _ :: _ :: _ :: _ :: _ :: _ :: _ :: _ :: _ :: _ :: _ :: _ :: _ :: _ :: _ :: _ :: _ :: _ :: _ :: _ :: _ :: _ :: _ :: _ :: _ :: _ :: _ :: _ :: _ :: _ :: _ :: _ :: _ :: _ :: _ :: _ :: _ :: _ :: _ :: _ :: _ :: _ :: _ :: _ :: _ :: _ :: _ :: _ :: _ :: _ :: _ :: _ :: _ :: []), defers := [] } _
        refine wpAnyH_done (by kernel_rfl) ?_ _
        go_wp2_with fail
        go_meet
        exact ⟨gotN Bf O8, rfl⟩
      · skip
        go_simp
        have Ba := btrans Bq (balloc wq (.cells #[.slice none 0 0, .slice none 0 0] 27))
        have zB : (wq.alloc (.cells #[.slice none 0 0, .slice none 0 0] 27)).heap[wq.heap.size]? = some (.cells #[.slice none 0 0, .slice none 0 0] 27 (0, 0)) := heap_alloc_new wq _
        have zlo : wx.heap.size ≤ wq.heap.size := Bq.size
        have S1q := S1q.below (balloc wq (.cells #[.slice none 0 0, .slice none 0 0] 27))
        clear hHeld
        refine hK.out _ _ (by obtain ⟨⟨k0, k1⟩, -⟩ := blk2 (blk_keep Ba X0); obtain ⟨k2, k3, k4⟩ := blk3 (blk_keep Ba A1); exact ⟨k0, k1, k2, k3, k4⟩) (fun hHeld => ?_)
        clear hK KK
        change wpAnyH _ _ _ _ _ _ _ { tmps := List.toArray (_ :: _ :: _ :: _ :: _ :: _ :: _ :: _ :: _ :: .pointer (some ⟨wq.heap.size, 0, none⟩) :: _ :: _ :: _ :: _ :: _ :: _ :: _ :: _ :: _ :: _ :: _ :: _ :: _ :: _ :: _ :: _ :: _ :: _ :: _ :: _ :: _ :: _ :: .agg #[.slice (some ⟨g1, 0, none⟩) room.length room.length, .slice (some ⟨T1, 0, none⟩) rows.length rows.length] :: .agg #[.int .i64 x.f, .int .i64 x.t, .int .i64 x.m] :: .agg #[.int .i64 x.f, .int .i64 x.t, .int .i64 x.m] :: _ :: _ :: _ :: _ :: _ :: _ :: _ :: _ :: _ :: _ :: _ :: _ :: _ :: _ :: _ :: _ :: _ :: _ :: _ :: _ :: _ :: _ :: _ :: _ :: _ :: _ :: _ :: _ :: _ :: _ :: _ :: _ :: _ :: _ :: _ :: _ :: _ :: _ :: _ :: _ :: _ :: _ :: _ :: _ :: _ :: _ :: _ :: _ :: _ :: _ :: _ :: _ :: _ :: _ :: _ :: _ :: _ :: _ :: _ :: _ :: _ :: _ :: _ :: _ :: _ :: _ :: _ :: _ :: _ :: []), defers := [] } _
        refine wpAnyH_ready (rs := [3]) (by kernel_rfl) (by simp) ?_
        refine (AllReadyH.cons rfl (fun KK hK => ?_) AllReadyH.nil)
        go_simp
        obtain ⟨ra1, rc1, a1, c1, e1, e2, I1, R1, -⟩ := S1q.arg
        have C := CI ra1 rc1 a1 c1 vs1 _ I1 R1
        rw [← e1, ← e2] at C
        clear e1 e2 I1 R1
        refine C.mono ?_
        rintro e wf ⟨rv8, v8, vs8, rfl, O8, hb⟩
        have Bf := btrans Ba hb
        have zB := blk_keep hb zB
        replace O8 := O8.base Ba.size
        obtain ⟨ra8, rc8, a8, c8, rfl, rfl, -⟩ := O8.arg
        clear hb C
        go_wp2_with fail
        clear hHeld
        refine hK.out _ _ (by obtain ⟨⟨k0, k1⟩, -⟩ := blk2 (blk_keep Bf X0); obtain ⟨k2, k3, k4⟩ := blk3 (blk_keep Bf A1); exact ⟨k0, k1, k2, k3, k4⟩) (fun hHeld => ?_)
        clear hK KK
        change wpAnyH _ _ _ _ _ _ _ { tmps := List.toArray (_ :: _ :: _ :: _ :: _ :: _ :: _ :: _ :: _ :: .pointer (some ⟨wq.heap.size, 0, none⟩) :: _ :: _ :: _ :: _ :: _ :: _ :: _ :: _ :: _ :: _ :: _ :: _ :: _ :: _ :: _ :: _ :: _ :: _ :: _ :: _ :: _ :: _ :: .agg #[.slice (some ⟨g1, 0, none⟩) room.length room.length, .slice (some ⟨T1, 0, none⟩) rows.length rows.length] :: .agg #[.int .i64 x.f, .int .i64 x.t, .int .i64 x.m] :: .agg #[.int .i64 x.f, .int .i64 x.t, .int .i64 x.m] :: .tuple #[.agg #[.slice ra8 room.length rc8, .slice a8 rows'.length c8], .int .i64 oc] :: _ :: _ :: _ :: _ :: _ :: _ :: _ :: _ :: _ :: _ :: _ :: _ :: _ :: _ :: _ :: _ :: _ :: _ :: _ :: _ :: _ :: _ :: _ :: _ :: _ :: _ :: _ :: _ :: _ :: _ :: _ :: _ :: _ :: _ :: _ :: _ :: _ :: _ :: _ :: _ :: _ :: _ :: _ :: _ :: _ :: _ :: _ :: _ :: _ :: _ :: _ :: _ :: _ :: _ :: _ :: _ :: _ :: _ :: _ :: _ :: _ :: _ :: _ :: _ :: _ :: _ :: _ :: _ :: []), defers := [] } _
        refine wpAnyH_take (i := 4) (v := .tuple #[.agg #[.slice ra8 room.length rc8, .slice a8 rows'.length c8], .int .i64 oc]) rfl (by kernel_rfl) (by kernel_rfl) (by kernel_rfl) (fun _ _ _ h => h) (Or.inl ⟨by kernel_rfl, fun w hS => by go_simp⟩) hHeld ?_
        change wpAnyH _ _ _ _ _ _ _ { tmps := List.toArray (_ :: _ :: _ :: _ :: _ :: _ :: _ :: _ :: _ :: .pointer (some ⟨wq.heap.size, 0, none⟩) :: _ :: _ :: _ :: _ :: _ :: _ :: _ :: _ :: _ :: _ :: _ :: _ :: _ :: _ :: _ :: _ :: _ :: _ :: _ :: _ :: _ :: .tuple #[.agg #[.slice ra8 room.length rc8, .slice a8 rows'.length c8], .int .i64 oc] :: .agg #[.slice (some ⟨g1, 0, none⟩) room.length room.length, .slice (some ⟨T1, 0, none⟩) rows.length rows.length] :: .agg #[.int .i64 x.f, .int .i64 x.t, .int .i64 x.m] :: .agg #[.int .i64 x.f, .int .i64 x.t, .int .i64 x.m] :: .tuple #[.agg #[.slice ra8 room.length rc8, .slice a8 rows'.length c8], .int .i64 oc] :: _ :: _ :: _ :: _ :: _ :: _ :: _ :: _ :: _ :: _ :: _ :: _ :: _ :: _ :: _ :: _ :: _ :: _ :: _ :: _ :: _ :: _ :: _ :: _ :: _ :: _ :: _ :: _ :: _ :: _ :: _ :: _ :: _ :: _ :: _ :: _ :: _ :: _ :: _ :: _ :: _ :: _ :: _ :: _ :: _ :: _ :: _ :: _ :: _ :: _ :: _ :: _ :: _ :: _ :: _ :: _ :: _ :: _ :: _ :: _ :: _ :: _ :: _ :: _ :: _ :: _ :: _ :: _ :: []), defers := [] } _
        refine wpAnyH_take (i := 5) (v := .agg #[.slice ra8 room.length rc8, .slice a8 rows'.length c8]) rfl (by kernel_rfl) (by kernel_rfl) (by kernel_rfl) (fun _ _ _ h => h) (Or.inl ⟨by kernel_rfl, fun w hS => by go_simp⟩) hHeld ?_
        change wpAnyH _ _ _ _ _ _ _ { tmps := List.toArray (_ :: _ :: _ :: _ :: _ :: _ :: _ :: _ :: _ :: .pointer (some ⟨wq.heap.size, 0, none⟩) :: _ :: _ :: _ :: _ :: _ :: _ :: _ :: _ :: _ :: _ :: _ :: _ :: _ :: _ :: _ :: _ :: _ :: _ :: _ :: _ :: _ :: .tuple #[.agg #[.slice ra8 room.length rc8, .slice a8 rows'.length c8], .int .i64 oc] :: .agg #[.slice (some ⟨g1, 0, none⟩) room.length room.length, .slice (some ⟨T1, 0, none⟩) rows.length rows.length] :: .agg #[.int .i64 x.f, .int .i64 x.t, .int .i64 x.m] :: .agg #[.int .i64 x.f, .int .i64 x.t, .int .i64 x.m] :: .tuple #[.agg #[.slice ra8 room.length rc8, .slice a8 rows'.length c8], .int .i64 oc] :: .agg #[.slice ra8 room.length rc8, .slice a8 rows'.length c8] :: _ :: _ :: _ :: _ :: _ :: _ :: _ :: _ :: _ :: _ :: _ :: _ :: _ :: _ :: _ :: _ :: _ :: _ :: _ :: _ :: _ :: _ :: _ :: _ :: _ :: _ :: _ :: _ :: _ :: _ :: _ :: _ :: _ :: _ :: _ :: _ :: _ :: _ :: _ :: _ :: _ :: _ :: _ :: _ :: _ :: _ :: _ :: _ :: _ :: _ :: _ :: _ :: _ :: _ :: _ :: _ :: _ :: _ :: _ :: _ :: _ :: _ :: _ :: _ :: _ :: _ :: _ :: []), defers := [] } _
        refine wpAnyH_take (i := 6) (v := .int .i64 oc) rfl (by kernel_rfl) (by kernel_rfl) (by kernel_rfl) (fun _ _ _ h => h) (Or.inl ⟨by kernel_rfl, fun w hS => by go_simp⟩) hHeld ?_
        change wpAnyH _ _ _ _ _ _ _ { tmps := List.toArray (_ :: _ :: _ :: _ :: _ :: _ :: _ :: _ :: _ :: .pointer (some ⟨wq.heap.size, 0, none⟩) :: _ :: _ :: _ :: _ :: _ :: _ :: _ :: _ :: _ :: _ :: _ :: _ :: _ :: _ :: _ :: _ :: _ :: _ :: _ :: _ :: _ :: .tuple #[.agg #[.slice ra8 room.length rc8, .slice a8 rows'.length c8], .int .i64 oc] :: .agg #[.slice (some ⟨g1, 0, none⟩) room.length room.length, .slice (some ⟨T1, 0, none⟩) rows.length rows.length] :: .agg #[.int .i64 x.f, .int .i64 x.t, .int .i64 x.m] :: .agg #[.int .i64 x.f, .int .i64 x.t, .int .i64 x.m] :: .tuple #[.agg #[.slice ra8 room.length rc8, .slice a8 rows'.length c8], .int .i64 oc] :: .agg #[.slice ra8 room.length rc8, .slice a8 rows'.length c8] :: .int .i64 oc :: _ :: _ :: _ :: _ :: _ :: _ :: _ :: _ :: _ :: _ :: _ :: _ :: _ :: _ :: _ :: _ :: _ :: _ :: _ :: _ :: _ :: _ :: _ :: _ :: _ :: _ :: _ :: _ :: _ :: _ :: _ :: _ :: _ :: _ :: _ :: _ :: _ :: _ :: _ :: _ :: _ :: _ :: _ :: _ :: _ :: _ :: _ :: _ :: _ :: _ :: _ :: _ :: _ :: _ :: _ :: _ :: _ :: _ :: _ :: _ :: _ :: _ :: _ :: _ :: _ :: _ :: []), defers := [] } _
        refine wpAnyH_ready (rs := [8]) (by kernel_rfl) (by simp) ?_
        refine (AllReadyH.cons rfl (fun KK hK => ?_) AllReadyH.nil)
        obtain ⟨⟨z0, z1⟩, y0, y1⟩ := blk2 zB
        have Bs : Below wx.heap.size wx ((wf.setCell ⟨wq.heap.size, 0, none⟩ (.slice ra8 room.length rc8)).setCell ⟨wq.heap.size, 1, none⟩ (.slice a8 rows'.length c8)) := below_set zlo (below_set zlo Bf)
        go_simp
        clear hHeld
        refine hK.out _ _ (by obtain ⟨⟨k0, k1⟩, -⟩ := blk2 (blk_keep Bs X0); obtain ⟨k2, k3, k4⟩ := blk3 (blk_keep Bs A1); exact ⟨k0, k1, k2, k3, k4⟩) (fun hHeld => ?_)
        clear hK KK
        change wpAnyH _ _ _ _ _ _ _ { tmps := List.toArray (_ :: _ :: _ :: _ :: _ :: _ :: _ :: _ :: _ :: .pointer (some ⟨wq.heap.size, 0, none⟩) :: _ :: _ :: _ :: _ :: _ :: _ :: _ :: _ :: _ :: _ :: _ :: _ :: _ :: _ :: _ :: _ :: _ :: _ :: _ :: _ :: _ :: .tuple #[.agg #[.slice ra8 room.length rc8, .slice a8 rows'.length c8], .int .i64 oc] :: .agg #[.slice (some ⟨g1, 0, none⟩) room.length room.length, .slice (some ⟨T1, 0, none⟩) rows.length rows.length] :: .agg #[.int .i64 x.f, .int .i64 x.t, .int .i64 x.m] :: .agg #[.int .i64 x.f, .int .i64 x.t, .int .i64 x.m] :: .tuple #[.agg #[.slice ra8 room.length rc8, .slice a8 rows'.length c8], .int .i64 oc] :: .agg #[.slice ra8 room.length rc8, .slice a8 rows'.length c8] :: .int .i64 oc :: _ :: _ :: _ :: _ :: _ :: _ :: _ :: _ :: _ :: _ :: _ :: _ :: _ :: _ :: _ :: _ :: _ :: _ :: _ :: _ :: _ :: _ :: _ :: _ :: _ :: _ :: _ :: _ :: _ :: _ :: _ :: _ :: _ :: _ :: _ :: _ :: _ :: _ :: _ :: _ :: _ :: _ :: _ :: _ :: _ :: _ :: _ :: _ :: _ :: _ :: _ :: _ :: _ :: _ :: _ :: _ :: _ :: _ :: _ :: _ :: _ :: _ :: _ :: _ :: _ :: _ :: []), defers := [] } _
        refine wpAnyH_take (i := 9) (v := .int .i64 oc) rfl (by kernel_rfl) (by kernel_rfl) (by kernel_rfl) (fun _ _ _ h => h) (Or.inl ⟨by kernel_rfl, fun w hS => by go_simp⟩) hHeld ?_
        change wpAnyH _ _ _ _ _ _ _ { tmps := List.toArray (_ :: _ :: _ :: _ :: _ :: _ :: _ :: _ :: _ :: .pointer (some ⟨wq.heap.size, 0, none⟩) :: .int .i64 oc :: _ :: _ :: _ :: _ :: _ :: _ :: _ :: _ :: _ :: _ :: _ :: _ :: _ :: _ :: _ :: _ :: _ :: _ :: _ :: _ :: .tuple #[.agg #[.slice ra8 room.length rc8, .slice a8 rows'.length c8], .int .i64 oc] :: .agg #[.slice (some ⟨g1, 0, none⟩) room.length room.length, .slice (some ⟨T1, 0, none⟩) rows.length rows.length] :: .agg #[.int .i64 x.f, .int .i64 x.t, .int .i64 x.m] :: .agg #[.int .i64 x.f, .int .i64 x.t, .int .i64 x.m] :: .tuple #[.agg #[.slice ra8 room.length rc8, .slice a8 rows'.length c8], .int .i64 oc] :: .agg #[.slice ra8 room.length rc8, .slice a8 rows'.length c8] :: .int .i64 oc :: _ :: _ :: _ :: _ :: _ :: _ :: _ :: _ :: _ :: _ :: _ :: _ :: _ :: _ :: _ :: _ :: _ :: _ :: _ :: _ :: _ :: _ :: _ :: _ :: _ :: _ :: _ :: _ :: _ :: _ :: _ :: _ :: _ :: _ :: _ :: _ :: _ :: _ :: _ :: _ :: _ :: _ :: _ :: _ :: _ :: _ :: _ :: _ :: _ :: _ :: _ :: _ :: _ :: _ :: _ :: _ :: _ :: _ :: _ :: _ :: _ :: _ :: _ :: _ :: _ :: _ :: []), defers := [] } _
        refine wpAnyH_done (by kernel_rfl) ?_ _
        go_wp2_with fail
        go_meet
        exact ⟨gotS Bf zB zlo O8, rfl⟩
    · skip
      go_simp
      have Ba := btrans B0 (balloc wd (.cells #[.slice none 0 0, .slice none 0 0] 27))
      have zB : (wd.alloc (.cells #[.slice none 0 0, .slice none 0 0] 27)).heap[wd.heap.size]? = some (.cells #[.slice none 0 0, .slice none 0 0] 27 (0, 0)) := heap_alloc_new wd _
      have zlo : wx.heap.size ≤ wd.heap.size := B0.size
      clear hHeld
      refine hK.out _ _ (by obtain ⟨⟨k0, k1⟩, -⟩ := blk2 (blk_keep Ba X0); obtain ⟨k2, k3, k4⟩ := blk3 (blk_keep Ba A1); exact ⟨k0, k1, k2, k3, k4⟩) (fun hHeld => ?_)
      clear hK KK
      change wpAnyH _ _ _ _ _ _ _ { tmps := List.toArray (_ :: _ :: _ :: _ :: _ :: _ :: _ :: _ :: _ :: .pointer (some ⟨wd.heap.size, 0, none⟩) :: _ :: _ :: _ :: _ :: _ :: _ :: _ :: _ :: _ :: _ :: _ :: _ :: _ :: _ :: _ :: _ :: _ :: _ :: _ :: _ :: _ :: _ :: .agg #[.slice (some ⟨g1, 0, none⟩) room.length room.length, .slice (some ⟨T1, 0, none⟩) rows.length rows.length] :: .agg #[.int .i64 x.f, .int .i64 x.t, .int .i64 x.m] :: _ :: _ :: _ :: _ :: _ :: _ :: _ :: _ :: _ :: _ :: _ :: _ :: _ :: _ :: _ :: _ :: _ :: _ :: _ :: _ :: _ :: _ :: _ :: _ :: _ :: _ :: _ :: _ :: _ :: _ :: _ :: _ :: _ :: _ :: _ :: _ :: _ :: _ :: _ :: _ :: _ :: _ :: _ :: _ :: _ :: _ :: _ :: _ :: _ :: _ :: _ :: _ :: _ :: _ :: _ :: _ :: _ :: _ :: _ :: _ :: _ :: _ :: _ :: _ :: _ :: _ :: _ :: _ :: _ :: _ :: []), defers := [] } _
      refine wpAnyH_ready (rs := [2]) (by kernel_rfl) (by simp) ?_
      refine (AllReadyH.cons rfl (fun KK hK => ?_) AllReadyH.nil)
      go_simp
      refine (TM _).mono ?_
      rintro e wq ⟨rfl, hb⟩
      have Bq := btrans Ba hb
      have S1q := S1.below Bq
      have zB := blk_keep hb zB
      clear hb
      go_wp2_with fail
      clear hHeld
      refine hK.out _ _ (by obtain ⟨⟨k0, k1⟩, -⟩ := blk2 (blk_keep Bq X0); obtain ⟨k2, k3, k4⟩ := blk3 (blk_keep Bq A1); exact ⟨k0, k1, k2, k3, k4⟩) (fun hHeld => ?_)
      clear hK KK
      change wpAnyH _ _ _ _ _ _ _ { tmps := List.toArray (_ :: _ :: _ :: _ :: _ :: _ :: _ :: _ :: _ :: .pointer (some ⟨wd.heap.size, 0, none⟩) :: _ :: _ :: _ :: _ :: _ :: _ :: _ :: _ :: _ :: _ :: _ :: _ :: _ :: _ :: _ :: _ :: _ :: _ :: _ :: _ :: _ :: _ :: .agg #[.slice (some ⟨g1, 0, none⟩) room.length room.length, .slice (some ⟨T1, 0, none⟩) rows.length rows.length] :: .agg #[.int .i64 x.f, .int .i64 x.t, .int .i64 x.m] :: .agg #[.int .i64 x.f, .int .i64 x.t, .int .i64 x.m] :: _ :: _ :: _ :: _ :: _ :: _ :: _ :: _ :: _ :: _ :: _ :: _ :: _ :: _ :: _ :: _ :: _ :: _ :: _ :: _ :: _ :: _ :: _ :: _ :: _ :: _ :: _ :: _ :: _ :: _ :: _ :: _ :: _ :: _ :: _ :: _ :: _ :: _ :: _ :: _ :: _ :: _ :: _ :: _ :: _ :: _ :: _ :: _ :: _ :: _ :: _ :: _ :: _ :: _ :: _ :: _ :: _ :: _ :: _ :: _ :: _ :: _ :: _ :: _ :: _ :: _ :: _ :: _ :: _ :: []), defers := [] } _
      refine wpAnyH_ready (rs := [3]) (by kernel_rfl) (by simp) ?_
      refine (AllReadyH.cons rfl (fun KK hK => ?_) AllReadyH.nil)
      go_simp
      obtain ⟨ra1, rc1, a1, c1, e1, e2, I1, R1, -⟩ := S1q.arg
      have C := CI ra1 rc1 a1 c1 vs1 _ I1 R1
      rw [← e1, ← e2] at C
      clear e1 e2 I1 R1
      refine C.mono ?_
      rintro e wf ⟨rv8, v8, vs8, rfl, O8, hb⟩
      have Bf := btrans Bq hb
      have zB := blk_keep hb zB
      replace O8 := O8.base Bq.size
      obtain ⟨ra8, rc8, a8, c8, rfl, rfl, -⟩ := O8.arg
      clear hb C
      go_wp2_with fail
      clear hHeld
      refine hK.out _ _ (by obtain ⟨⟨k0, k1⟩, -⟩ := blk2 (blk_keep Bf X0); obtain ⟨k2, k3, k4⟩ := blk3 (blk_keep Bf A1); exact ⟨k0, k1, k2, k3, k4⟩) (fun hHeld => ?_)
      clear hK KK
      change wpAnyH _ _ _ _ _ _ _ { tmps := List.toArray (_ :: _ :: _ :: _ :: _ :: _ :: _ :: _ :: _ :: .pointer (some ⟨wd.heap.size, 0, none⟩) :: _ :: _ :: _ :: _ :: _ :: _ :: _ :: _ :: _ :: _ :: _ :: _ :: _ :: _ :: _ :: _ :: _ :: _ :: _ :: _ :: _ :: _ :: .agg #[.slice (some ⟨g1, 0, none⟩) room.length room.length, .slice (some ⟨T1, 0, none⟩) rows.length rows.length] :: .agg #[.int .i64 x.f, .int .i64 x.t, .int .i64 x.m] :: .agg #[.int .i64 x.f, .int .i64 x.t, .int .i64 x.m] :: .tuple #[.agg #[.slice ra8 room.length rc8, .slice a8 rows'.length c8], .int .i64 oc] :: _ :: _ :: _ :: _ :: _ :: _ :: _ :: _ :: _ :: _ :: _ :: _ :: _ :: _ :: _ :: _ :: _ :: _ :: _ :: _ :: _ :: _ :: _ :: _ :: _ :: _ :: _ :: _ :: _ :: _ :: _ :: _ :: _ :: _ :: _ :: _ :: _ :: _ :: _ :: _ :: _ :: _ :: _ :: _ :: _ :: _ :: _ :: _ :: _ :: _ :: _ :: _ :: _ :: _ :: _ :: _ :: _ :: _ :: _ :: _ :: _ :: _ :: _ :: _ :: _ :: _ :: _ :: _ :: []), defers := [] } _
      refine wpAnyH_take (i := 4) (v := .tuple #[.agg #[.slice ra8 room.length rc8, .slice a8 rows'.length c8], .int .i64 oc]) rfl (by kernel_rfl) (by kernel_rfl) (by kernel_rfl) (fun _ _ _ h => h) (Or.inl ⟨by kernel_rfl, fun w hS => by go_simp⟩) hHeld ?_
      change wpAnyH _ _ _ _ _ _ _ { tmps := List.toArray (_ :: _ :: _ :: _ :: _ :: _ :: _ :: _ :: _ :: .pointer (some ⟨wd.heap.size, 0, none⟩) :: _ :: _ :: _ :: _ :: _ :: _ :: _ :: _ :: _ :: _ :: _ :: _ :: _ :: _ :: _ :: _ :: _ :: _ :: _ :: _ :: _ :: .tuple #[.agg #[.slice ra8 room.length rc8, .slice a8 rows'.length c8], .int .i64 oc] :: .agg #[.slice (some ⟨g1, 0, none⟩) room.length room.length, .slice (some ⟨T1, 0, none⟩) rows.length rows.length] :: .agg #[.int .i64 x.f, .int .i64 x.t, .int .i64 x.m] :: .agg #[.int .i64 x.f, .int .i64 x.t, .int .i64 x.m] :: .tuple #[.agg #[.slice ra8 room.length rc8, .slice a8 rows'.length c8], .int .i64 oc] :: _ :: _ :: _ :: _ :: _ :: _ :: _ :: _ :: _ :: _ :: _ :: _ :: _ :: _ :: _ :: _ :: _ :: _ :: _ :: _ :: _ :: _ :: _ :: _ :: _ :: _ :: _ :: _ :: _ :: _ :: _ :: _ :: _ :: _ :: _ :: _ :: _ :: _ :: _ :: _ :: _ :: _ :: _ :: _ :: _ :: _ :: _ :: _ :: _ :: _ :: _ :: _ :: _ :: _ :: _ :: _ :: _ :: _ :: _ :: _ :: _ :: _ :: _ :: _ :: _ :: _ :: _ :: _ :: []), defers := [] } _
      refine wpAnyH_take (i := 5) (v := .agg #[.slice ra8 room.length rc8, .slice a8 rows'.length c8]) rfl (by kernel_rfl) (by kernel_rfl) (by kernel_rfl) (fun _ _ _ h => h) (Or.inl ⟨by kernel_rfl, fun w hS => by go_simp⟩) hHeld ?_
      change wpAnyH _ _ _ _ _ _ _ { tmps := List.toArray (_ :: _ :: _ :: _ :: _ :: _ :: _ :: _ :: _ :: .pointer (some ⟨wd.heap.size, 0, none⟩) :: _ :: _ :: _ :: _ :: _ :: _ :: _ :: _ :: _ :: _ :: _ :: _ :: _ :: _ :: _ :: _ :: _ :: _ :: _ :: _ :: _ :: .tuple #[.agg #[.slice ra8 room.length rc8, .slice a8 rows'.length c8], .int .i64 oc] :: .agg #[.slice (some ⟨g1, 0, none⟩) room.length room.length, .slice (some ⟨T1, 0, none⟩) rows.length rows.length] :: .agg #[.int .i64 x.f, .int .i64 x.t, .int .i64 x.m] :: .agg #[.int .i64 x.f, .int .i64 x.t, .int .i64 x.m] :: .tuple #[.agg #[.slice ra8 room.length rc8, .slice a8 rows'.length c8], .int .i64 oc] :: .agg #[.slice ra8 room.length rc8, .slice a8 rows'.length c8] :: _ :: _ :: _ :: _ :: _ :: _ :: _ :: _ :: _ :: _ :: _ :: _ :: _ :: _ :: _ :: _ :: _ :: _ :: _ :: _ :: _ :: _ :: _ :: _ :: _ :: _ :: _ :: _ :: _ :: _ :: _ :: _ :: _ :: _ :: _ :: _ :: _ :: _ :: _ :: _ :: _ :: _ :: _ :: _ :: _ :: _ :: _ :: _ :: _ :: _ :: _ :: _ :: _ :: _ :: _ :: _ :: _ :: _ :: _ :: _ :: _ :: _ :: _ :: _ :: _ :: _ :: _ :: []), defers := [] } _
      refine wpAnyH_take (i := 6) (v := .int .i64 oc) rfl (by kernel_rfl) (by kernel_rfl) (by kernel_rfl) (fun _ _ _ h => h) (Or.inl ⟨by kernel_rfl, fun w hS => by go_simp⟩) hHeld ?_
      change wpAnyH _ _ _ _ _ _ _ { tmps := List.toArray (_ :: _ :: _ :: _ :: _ :: _ :: _ :: _ :: _ :: .pointer (some ⟨wd.heap.size, 0, none⟩) :: _ :: _ :: _ :: _ :: _ :: _ :: _ :: _ :: _ :: _ :: _ :: _ :: _ :: _ :: _ :: _ :: _ :: _ :: _ :: _ :: _ :: .tuple #[.agg #[.slice ra8 room.length rc8, .slice a8 rows'.length c8], .int .i64 oc] :: .agg #[.slice (some ⟨g1, 0, none⟩) room.length room.length, .slice (some ⟨T1, 0, none⟩) rows.length rows.length] :: .agg #[.int .i64 x.f, .int .i64 x.t, .int .i64 x.m] :: .agg #[.int .i64 x.f, .int .i64 x.t, .int .i64 x.m] :: .tuple #[.agg #[.slice ra8 room.length rc8, .slice a8 rows'.length c8], .int .i64 oc] :: .agg #[.slice ra8 room.length rc8, .slice a8 rows'.length c8] :: .int .i64 oc :: _ :: _ :: _ :: _ :: _ :: _ :: _ :: _ :: _ :: _ :: _ :: _ :: _ :: _ :: _ :: _ :: _ :: _ :: _ :: _ :: _ :: _ :: _ :: _ :: _ :: _ :: _ :: _ :: _ :: _ :: _ :: _ :: _ :: _ :: _ :: _ :: _ :: _ :: _ :: _ :: _ :: _ :: _ :: _ :: _ :: _ :: _ :: _ :: _ :: _ :: _ :: _ :: _ :: _ :: _ :: _ :: _ :: _ :: _ :: _ :: _ :: _ :: _ :: _ :: _ :: _ :: []), defers := [] } _
      refine wpAnyH_ready (rs := [8]) (by kernel_rfl) (by simp) ?_
      refine (AllReadyH.cons rfl (fun KK hK => ?_) AllReadyH.nil)
      obtain ⟨⟨z0, z1⟩, y0, y1⟩ := blk2 zB
      have Bs : Below wx.heap.size wx ((wf.setCell ⟨wd.heap.size, 0, none⟩ (.slice ra8 room.length rc8)).setCell ⟨wd.heap.size, 1, none⟩ (.slice a8 rows'.length c8)) := below_set zlo (below_set zlo Bf)
      go_simp
      clear hHeld
      refine hK.out _ _ (by obtain ⟨⟨k0, k1⟩, -⟩ := blk2 (blk_keep Bs X0); obtain ⟨k2, k3, k4⟩ := blk3 (blk_keep Bs A1); exact ⟨k0, k1, k2, k3, k4⟩) (fun hHeld => ?_)
      clear hK KK
      change wpAnyH _ _ _ _ _ _ _ { tmps := List.toArray (_ :: _ :: _ :: _ :: _ :: _ :: _ :: _ :: _ :: .pointer (some ⟨wd.heap.size, 0, none⟩) :: _ :: _ :: _ :: _ :: _ :: _ :: _ :: _ :: _ :: _ :: _ :: _ :: _ :: _ :: _ :: _ :: _ :: _ :: _ :: _ :: _ :: .tuple #[.agg #[.slice ra8 room.length rc8, .slice a8 rows'.length c8], .int .i64 oc] :: .agg #[.slice (some ⟨g1, 0, none⟩) room.length room.length, .slice (some ⟨T1, 0, none⟩) rows.length rows.length] :: .agg #[.int .i64 x.f, .int .i64 x.t, .int .i64 x.m] :: .agg #[.int .i64 x.f, .int .i64 x.t, .int .i64 x.m] :: .tuple #[.agg #[.slice ra8 room.length rc8, .slice a8 rows'.length c8], .int .i64 oc] :: .agg #[.slice ra8 room.length rc8, .slice a8 rows'.length c8] :: .int .i64 oc :: _ :: _ :: _ :: _ :: _ :: _ :: _ :: _ :: _ :: _ :: _ :: _ :: _ :: _ :: _ :: _ :: _ :: _ :: _ :: _ :: _ :: _ :: _ :: _ :: _ :: _ :: _ :: _ :: _ :: _ :: _ :: _ :: _ :: _ :: _ :: _ :: _ :: _ :: _ :: _ :: _ :: _ :: _ :: _ :: _ :: _ :: _ :: _ :: _ :: _ :: _ :: _ :: _ :: _ :: _ :: _ :: _ :: _ :: _ :: _ :: _ :: _ :: _ :: _ :: _ :: _ :: []), defers := [] } _
      refine wpAnyH_take (i := 9) (v := .int .i64 oc) rfl (by kernel_rfl) (by kernel_rfl) (by kernel_rfl) (fun _ _ _ h => h) (Or.inl ⟨by kernel_rfl, fun w hS => by go_simp⟩) hHeld ?_
      change wpAnyH _ _ _ _ _ _ _ { tmps := List.toArray (_ :: _ :: _ :: _ :: _ :: _ :: _ :: _ :: _ :: .pointer (some ⟨wd.heap.size, 0, none⟩) :: .int .i64 oc :: _ :: _ :: _ :: _ :: _ :: _ :: _ :: _ :: _ :: _ :: _ :: _ :: _ :: _ :: _ :: _ :: _ :: _ :: _ :: _ :: .tuple #[.agg #[.slice ra8 room.length rc8, .slice a8 rows'.length c8], .int .i64 oc] :: .agg #[.slice (some ⟨g1, 0, none⟩) room.length room.length, .slice (some ⟨T1, 0, none⟩) rows.length rows.length] :: .agg #[.int .i64 x.f, .int .i64 x.t, .int .i64 x.m] :: .agg #[.int .i64 x.f, .int .i64 x.t, .int .i64 x.m] :: .tuple #[.agg #[.slice ra8 room.length rc8, .slice a8 rows'.length c8], .int .i64 oc] :: .agg #[.slice ra8 room.length rc8, .slice a8 rows'.length c8] :: .int .i64 oc :: _ :: _ :: _ :: _ :: _ :: _ :: _ :: _ :: _ :: _ :: _ :: _ :: _ :: _ :: _ :: _ :: _ :: _ :: _ :: _ :: _ :: _ :: _ :: _ :: _ :: _ :: _ :: _ :: _ :: _ :: _ :: _ :: _ :: _ :: _ :: _ :: _ :: _ :: _ :: _ :: _ :: _ :: _ :: _ :: _ :: _ :: _ :: _ :: _ :: _ :: _ :: _ :: _ :: _ :: _ :: _ :: _ :: _ :: _ :: _ :: _ :: _ :: _ :: _ :: _ :: _ :: []), defers := [] } _
      refine wpAnyH_done (by kernel_rfl) ?_ _
      go_wp2_with fail
      go_meet
      exact ⟨gotS Bf zB zlo O8, rfl⟩
  case rest =>
  clear x0 x1 m0 m1 m2
  obtain ⟨⟨⟨bG, rvG, vG, vsG, rfl, KG, SG, loG⟩, hb⟩, rfl⟩ := hcut
  replace HB := btrans HB hb
  replace A0 := blk_keep hb A0
  replace A1 := blk_keep hb A1
  replace KW := blk_keep hb KW
  replace X0 := blk_keep hb X0
  replace SW := SW.below hb
  replace S1 := S1.below hb
  clear hb
  have hGlo := fun k hk => (SG.blk k hk).1
  have hXlt : ∀ k, SidB (.slice (some ⟨g1, 0, none⟩) room.length room.length) (.slice (some ⟨T1, 0, none⟩) rows.length rows.length) vs1 k → nW ≤ k ∧ k < wx.heap.size := hXb
  clear hXb
  obtain ⟨raW, rcW, aW, cW, rfl, rfl, -⟩ := SW.arg
  obtain ⟨raG, rcG, aG, cG, rfl, rfl, -⟩ := SG.arg
  obtain ⟨⟨kg0, kg1⟩, -⟩ := blk2 KG
  obtain ⟨⟨kw0, kw1⟩, -⟩ := blk2 KW
  go_wp2_with fail
  refine (cEqSid _ _ _ _ _ _ _ _ room rows' _ SG SW lM lR' lr').mono ?_
  rintro e w3 ⟨rfl, hb⟩
  replace HB := btrans HB hb
  replace A0 := blk_keep hb A0
  replace A1 := blk_keep hb A1
  replace KW := blk_keep hb KW
  replace X0 := blk_keep hb X0
  replace KG := blk_keep hb KG
  replace SW := SW.below hb
  replace S1 := S1.below hb
  replace SG := SG.below hb
  clear hb
  clear kg0 kg1 kw0 kw1
  go_wp2_with fail
  obtain ⟨⟨x0, x1⟩, -⟩ := blk2 A0
  obtain ⟨⟨y0, y1⟩, -⟩ := blk2 X0
  have hMd : Ints w3.drew ra room := (hM.below HB).below (bdraw (Below.refl _ _) 1)
  have hRd : RowsW w3.drew a us rows := (hR.below HB).below (bdraw (Below.refl _ _) 1)
  have CTd := CT w3.drew hMd hRd
  clear hMd hRd
  go_region_held3 (fun w' => w'.cell? ⟨w.heap.size, 0, none⟩ = some (.slice ra room.length rc) ∧ w'.cell? ⟨w.heap.size, 1, none⟩ = some (.slice a rows.length c) ∧ w'.cell? ⟨xB, 0, none⟩ = some (.slice (some ⟨g1, 0, none⟩) room.length room.length) ∧ w'.cell? ⟨xB, 1, none⟩ = some (.slice (some ⟨T1, 0, none⟩) rows.length rows.length)) (go_keep) (first
    | (go_at_call 30; with_reducible refine CTd.mono ?_; rintro e wa ⟨g2, T2, vs2, rfl, S2, hba⟩; have Ba := undrew hba; have i0 := ble Ba x0; have i1 := ble Ba x1; have i2 := ble Ba y0; have i3 := ble Ba y1; have S1a := S1.below Ba)
    | (go_at_call 31; with_reducible refine (cEqSid _ _ _ _ _ _ _ _ room rows _ S1a S2 lM lR lr).mono ?_; rintro e wb ⟨rfl, hbb⟩; have Bb := btrans Ba hbb; have j0 := ble Bb x0; have j1 := ble Bb x1; have j2 := ble Bb y0; have j3 := ble Bb y1))
  clear CTd S1a S2 hba hbb Ba x0 x1 y0 y1 i0 i1 i2 i3 j0 j1 j2 j3
  replace HB := btrans HB Bb
  replace A0 := blk_keep Bb A0
  replace A1 := blk_keep Bb A1
  replace KW := blk_keep Bb KW
  replace X0 := blk_keep Bb X0
  replace KG := blk_keep Bb KG
  replace SW := SW.below Bb
  replace S1 := S1.below Bb
  replace SG := SG.below Bb
  clear Bb
  obtain ⟨⟨x0, x1⟩, -⟩ := blk2 X0
  go_wp2_with fail
  have S10 := S1
  refine (cMarkSid _ _ _ _ room rows 1 _ S1 lM lR hsm (by omega) (by omega)).mono ?_
  rintro e w4 ⟨rfl, -, F⟩
  clear x0 x1 S1
  replace HB := F.to_below HB HB.size (fun k hk => by have := hXlt k hk; omega)
  replace A0 := F.blk A0 (S10.ne A0 (by decide) (by decide))
  replace A1 := F.blk A1 (S10.ne A1 (by decide) (by decide))
  replace KW := F.blk KW (S10.ne KW (by decide) (by decide))
  replace X0 := F.blk X0 (S10.ne X0 (by decide) (by decide))
  replace KG := F.blk KG (S10.ne KG (by decide) (by decide))
  replace SW := SW.fr F (fun k hk hp => by have := hWlt k hk; have := hXlt k hp; omega)
  replace SG := SG.fr F (fun k hk hp => by have := hGlo k hk; have := hXlt k hp; omega)
  clear F S10
  have hk9 : ¬ ((1 : Int) + (room.length : Int) + (sm rows rows.length : Int) < 0) := by omega
  have hk8 : ¬ ((1 : Int) + ((room.length : Int) + (sm rows rows.length : Int)) < 0) := by omega
  generalize sm rows rows.length = Z at *
  obtain ⟨⟨kg0, kg1⟩, -⟩ := blk2 KG
  obtain ⟨⟨kw0, kw1⟩, -⟩ := blk2 KW
  go_wp2_with fail
  refine (cEqSid _ _ _ _ _ _ _ _ room rows' _ SG SW lM lR' lr').mono ?_
  rintro e w5 ⟨rfl, hb⟩
  replace HB := btrans HB hb
  replace A0 := blk_keep hb A0
  replace A1 := blk_keep hb A1
  replace KW := blk_keep hb KW
  replace X0 := blk_keep hb X0
  replace KG := blk_keep hb KG
  replace SW := SW.below hb
  replace SG := SG.below hb
  clear hb
  clear kg0 kg1 kw0 kw1
  obtain ⟨⟨x0, x1⟩, -⟩ := blk2 KG
  go_wp2_with fail
  have SG0 := SG
  refine (cMarkSid _ _ _ _ room rows' 1 _ SG lM lR' hsm' (by omega) (by omega)).mono ?_
  rintro e w6 ⟨rfl, QG, F⟩
  clear x0 x1 SG
  replace HB := F.to_below HB HB.size (fun k hk => by have := hGlo k hk; omega)
  replace A0 := F.blk A0 (SG0.ne A0 (by decide) (by decide))
  replace A1 := F.blk A1 (SG0.ne A1 (by decide) (by decide))
  replace KW := F.blk KW (SG0.ne KW (by decide) (by decide))
  replace X0 := F.blk X0 (SG0.ne X0 (by decide) (by decide))
  replace KG := F.blk KG (SG0.ne KG (by decide) (by decide))
  replace SW := SW.fr F (fun k hk hp => by have := hWlt k hk; have := hGlo k hp; omega)
  clear F SG0
  have hq9 : ¬ ((1 : Int) + (room.length : Int) + (sm rows' rows'.length : Int) < 0) := by omega
  have hq8 : ¬ ((1 : Int) + ((room.length : Int) + (sm rows' rows'.length : Int)) < 0) := by omega
  have CHd := fun w9 h => cHeldSid wx.heap.size (.slice raG room.length rcG) (.slice aG rows'.length cG) vsG room.length rows' 1 w9 h lM lR' hsm' (by omega) (by omega)
  generalize sm rows' rows'.length = Z' at *
  obtain ⟨⟨x0, x1⟩, -⟩ := blk2 KG
  go_wp2_with fail
  refine (CHd _ QG).mono ?_
  rintro e w7 ⟨rfl, hb⟩
  replace HB := btrans HB hb
  replace A0 := blk_keep hb A0
  replace A1 := blk_keep hb A1
  replace KW := blk_keep hb KW
  replace X0 := blk_keep hb X0
  replace KG := blk_keep hb KG
  replace SW := SW.below hb
  replace QG := QG.below hb
  clear hb
  clear x0 x1
  obtain ⟨⟨x0, x1⟩, -⟩ := blk2 A0
  obtain ⟨m0, m1, m2⟩ := blk3 A1
  go_upto_region 24 with fail
  go_cut [14, 15] from 87 (fun sv cv wc => GotS w7 room rows' sv wc ∧ cv = .int .i64 oc)
  case first =>
    refine wp_region_held_drew (S := (fun w' => w'.cell? ⟨w.heap.size, 0, none⟩ = some (.slice ra room.length rc) ∧ w'.cell? ⟨w.heap.size, 1, none⟩ = some (.slice a rows.length c) ∧ w'.cell? ⟨w.heap.size + 1, 0, none⟩ = some (.int .i64 x.f) ∧ w'.cell? ⟨w.heap.size + 1, 1, none⟩ = some (.int .i64 x.t) ∧ w'.cell? ⟨w.heap.size + 1, 2, none⟩ = some (.int .i64 x.m))) (by kernel_rfl) ?_ (fun hHeld => ?_)
    · go_keep
    have B0 : Below w7.heap.size w7 w7.drew := (Below.refl _ _).drew
    generalize w7.drew = wd at *
    refine wpAnyH_take (i := 0) (v := .agg #[.slice ra room.length rc, .slice a rows.length c]) rfl (by kernel_rfl) (by kernel_rfl) (by kernel_rfl) (fun _ _ _ h => h) (Or.inl ⟨by kernel_rfl, fun w hS => by (obtain ⟨hS0, hS1, hS2, hS3, hS4⟩ := hS; go_simp)⟩) hHeld ?_
    change wpAnyH _ _ _ _ _ _ _ { tmps := List.toArray (_ :: _ :: _ :: _ :: _ :: _ :: _ :: _ :: _ :: _ :: _ :: _ :: _ :: _ :: _ :: _ :: _ :: _ :: _ :: _ :: _ :: _ :: _ :: _ :: _ :: _ :: _ :: _ :: _ :: _ :: _ :: _ :: _ :: _ :: _ :: _ :: _ :: _ :: _ :: _ :: _ :: _ :: _ :: _ :: _ :: _ :: _ :: _ :: _ :: _ :: _ :: _ :: _ :: _ :: _ :: _ :: _ :: _ :: _ :: _ :: _ :: _ :: _ :: _ :: _ :: _ :: _ :: _ :: _ :: _ :: _ :: _ :: _ :: _ :: _ :: _ :: _ :: _ :: _ :: _ :: .agg #[.slice ra room.length rc, .slice a rows.length c] :: _ :: _ :: _ :: _ :: _ :: _ :: _ :: _ :: _ :: _ :: _ :: _ :: _ :: _ :: _ :: _ :: _ :: _ :: _ :: _ :: _ :: _ :: _ :: []), defers := [] } _
    refine wpAnyH_take (i := 2) (v := .agg #[.int .i64 x.f, .int .i64 x.t, .int .i64 x.m]) rfl (by kernel_rfl) (by kernel_rfl) (by kernel_rfl) (fun _ _ _ h => h) (Or.inl ⟨by kernel_rfl, fun w hS => by (obtain ⟨hS0, hS1, hS2, hS3, hS4⟩ := hS; go_simp)⟩) hHeld ?_
    change wpAnyH _ _ _ _ _ _ _ { tmps := List.toArray (_ :: _ :: _ :: _ :: _ :: _ :: _ :: _ :: _ :: _ :: _ :: _ :: _ :: _ :: _ :: _ :: _ :: _ :: _ :: _ :: _ :: _ :: _ :: _ :: _ :: _ :: _ :: _ :: _ :: _ :: _ :: _ :: _ :: _ :: _ :: _ :: _ :: _ :: _ :: _ :: _ :: _ :: _ :: _ :: _ :: _ :: _ :: _ :: _ :: _ :: _ :: _ :: _ :: _ :: _ :: _ :: _ :: _ :: _ :: _ :: _ :: _ :: _ :: _ :: _ :: _ :: _ :: _ :: _ :: _ :: _ :: _ :: _ :: _ :: _ :: _ :: _ :: _ :: _ :: _ :: .agg #[.slice ra room.length rc, .slice a rows.length c] :: _ :: .agg #[.int .i64 x.f, .int .i64 x.t, .int .i64 x.m] :: _ :: _ :: _ :: _ :: _ :: _ :: _ :: _ :: _ :: _ :: _ :: _ :: _ :: _ :: _ :: _ :: _ :: _ :: _ :: _ :: _ :: []), defers := [] } _
    refine wpAnyH_ready (rs := [1, 8]) (by kernel_rfl) (by simp) ?_
    refine (AllReadyH.cons rfl (fun KK hK => ?_) (AllReadyH.cons rfl (fun KK hK => ?_) AllReadyH.nil))
    · skip
      go_simp
      refine (CT _ (hM.below (btrans HB B0)) (hR.below (btrans HB B0))).mono ?_
      rintro e wp ⟨g1, T1, vs1, rfl, S1, hb⟩
      have Bp := btrans B0 hb
      clear hb
      go_wp2_with fail
      clear hHeld
      refine hK.out _ _ (by obtain ⟨⟨k0, k1⟩, -⟩ := blk2 (blk_keep Bp A0); obtain ⟨k2, k3, k4⟩ := blk3 (blk_keep Bp A1); exact ⟨k0, k1, k2, k3, k4⟩) (fun hHeld => ?_)
      clear hK KK
      change wpAnyH _ _ _ _ _ _ _ { tmps := List.toArray (_ :: _ :: _ :: _ :: _ :: _ :: _ :: _ :: _ :: _ :: _ :: _ :: _ :: _ :: _ :: _ :: _ :: _ :: _ :: _ :: _ :: _ :: _ :: _ :: _ :: _ :: _ :: _ :: _ :: _ :: _ :: _ :: _ :: _ :: _ :: _ :: _ :: _ :: _ :: _ :: _ :: _ :: _ :: _ :: _ :: _ :: _ :: _ :: _ :: _ :: _ :: _ :: _ :: _ :: _ :: _ :: _ :: _ :: _ :: _ :: _ :: _ :: _ :: _ :: _ :: _ :: _ :: _ :: _ :: _ :: _ :: _ :: _ :: _ :: _ :: _ :: _ :: _ :: _ :: _ :: .agg #[.slice ra room.length rc, .slice a rows.length c] :: .agg #[.slice (some ⟨g1, 0, none⟩) room.length room.length, .slice (some ⟨T1, 0, none⟩) rows.length rows.length] :: .agg #[.int .i64 x.f, .int .i64 x.t, .int .i64 x.m] :: _ :: _ :: _ :: _ :: _ :: _ :: _ :: _ :: _ :: _ :: _ :: _ :: _ :: _ :: _ :: _ :: _ :: _ :: _ :: _ :: _ :: []), defers := [] } _
      refine wpAnyH_ready (rs := [3, 8]) (by kernel_rfl) (by simp) ?_
      refine (AllReadyH.cons rfl (fun KK hK => ?_) (AllReadyH.cons rfl (fun KK hK => ?_) AllReadyH.nil))
      · skip
        go_simp
        refine (TM _).mono ?_
        rintro e wq ⟨rfl, hb⟩
        have Bq := btrans Bp hb
        have S1 := S1.below hb
        clear hb
        go_wp2_with fail
        clear hHeld
        refine hK.out _ _ (by obtain ⟨⟨k0, k1⟩, -⟩ := blk2 (blk_keep Bq A0); obtain ⟨k2, k3, k4⟩ := blk3 (blk_keep Bq A1); exact ⟨k0, k1, k2, k3, k4⟩) (fun hHeld => ?_)
        clear hK KK
        change wpAnyH _ _ _ _ _ _ _ { tmps := List.toArray (_ :: _ :: _ :: _ :: _ :: _ :: _ :: _ :: _ :: _ :: _ :: _ :: _ :: _ :: _ :: _ :: _ :: _ :: _ :: _ :: _ :: _ :: _ :: _ :: _ :: _ :: _ :: _ :: _ :: _ :: _ :: _ :: _ :: _ :: _ :: _ :: _ :: _ :: _ :: _ :: _ :: _ :: _ :: _ :: _ :: _ :: _ :: _ :: _ :: _ :: _ :: _ :: _ :: _ :: _ :: _ :: _ :: _ :: _ :: _ :: _ :: _ :: _ :: _ :: _ :: _ :: _ :: _ :: _ :: _ :: _ :: _ :: _ :: _ :: _ :: _ :: _ :: _ :: _ :: _ :: .agg #[.slice ra room.length rc, .slice a rows.length c] :: .agg #[.slice (some ⟨g1, 0, none⟩) room.length room.length, .slice (some ⟨T1, 0, none⟩) rows.length rows.length] :: .agg #[.int .i64 x.f, .int .i64 x.t, .int .i64 x.m] :: .agg #[.int .i64 x.f, .int .i64 x.t, .int .i64 x.m] :: _ :: _ :: _ :: _ :: _ :: _ :: _ :: _ :: _ :: _ :: _ :: _ :: _ :: _ :: _ :: _ :: _ :: _ :: _ :: _ :: []), defers := [] } _
        refine wpAnyH_ready (rs := [4, 8]) (by kernel_rfl) (by simp) ?_
        refine (AllReadyH.cons rfl (fun KK hK => ?_) (AllReadyH.cons rfl (fun KK hK => ?_) AllReadyH.nil))
        · skip
          go_simp
          obtain ⟨ra1, rc1, a1, c1, e1, e2, I1, R1, -⟩ := S1.arg
          have C := CI ra1 rc1 a1 c1 vs1 _ I1 R1
          rw [← e1, ← e2] at C
          clear e1 e2 I1 R1
          refine C.mono ?_
          rintro e wf ⟨rv8, v8, vs8, rfl, O8, hb⟩
          have Bf := btrans Bq hb
          replace O8 := O8.base Bq.size
          obtain ⟨ra8, rc8, a8, c8, rfl, rfl, -⟩ := O8.arg
          clear hb C
          go_wp2_with fail
          clear hHeld
          refine hK.out _ _ (by obtain ⟨⟨k0, k1⟩, -⟩ := blk2 (blk_keep Bf A0); obtain ⟨k2, k3, k4⟩ := blk3 (blk_keep Bf A1); exact ⟨k0, k1, k2, k3, k4⟩) (fun hHeld => ?_)
          clear hK KK
          change wpAnyH _ _ _ _ _ _ _ { tmps := List.toArray (_ :: _ :: _ :: _ :: _ :: _ :: _ :: _ :: _ :: _ :: _ :: _ :: _ :: _ :: _ :: _ :: _ :: _ :: _ :: _ :: _ :: _ :: _ :: _ :: _ :: _ :: _ :: _ :: _ :: _ :: _ :: _ :: _ :: _ :: _ :: _ :: _ :: _ :: _ :: _ :: _ :: _ :: _ :: _ :: _ :: _ :: _ :: _ :: _ :: _ :: _ :: _ :: _ :: _ :: _ :: _ :: _ :: _ :: _ :: _ :: _ :: _ :: _ :: _ :: _ :: _ :: _ :: _ :: _ :: _ :: _ :: _ :: _ :: _ :: _ :: _ :: _ :: _ :: _ :: _ :: .agg #[.slice ra room.length rc, .slice a rows.length c] :: .agg #[.slice (some ⟨g1, 0, none⟩) room.length room.length, .slice (some ⟨T1, 0, none⟩) rows.length rows.length] :: .agg #[.int .i64 x.f, .int .i64 x.t, .int .i64 x.m] :: .agg #[.int .i64 x.f, .int .i64 x.t, .int .i64 x.m] :: .tuple #[.agg #[.slice ra8 room.length rc8, .slice a8 rows'.length c8], .int .i64 oc] :: _ :: _ :: _ :: _ :: _ :: _ :: _ :: _ :: _ :: _ :: _ :: _ :: _ :: _ :: _ :: _ :: _ :: _ :: _ :: []), defers := [] } _
          refine wpAnyH_take (i := 5) (v := .tuple #[.agg #[.slice ra8 room.length rc8, .slice a8 rows'.length c8], .int .i64 oc]) rfl (by kernel_rfl) (by kernel_rfl) (by kernel_rfl) (fun _ _ _ h => h) (Or.inl ⟨by kernel_rfl, fun w hS => by go_simp⟩) hHeld ?_
          change wpAnyH _ _ _ _ _ _ _ { tmps := List.toArray (_ :: _ :: _ :: _ :: _ :: _ :: _ :: _ :: _ :: _ :: _ :: _ :: _ :: _ :: _ :: _ :: _ :: _ :: _ :: _ :: _ :: _ :: _ :: _ :: _ :: _ :: _ :: _ :: _ :: _ :: _ :: _ :: _ :: _ :: _ :: _ :: _ :: _ :: _ :: _ :: _ :: _ :: _ :: _ :: _ :: _ :: _ :: _ :: _ :: _ :: _ :: _ :: _ :: _ :: _ :: _ :: _ :: _ :: _ :: _ :: _ :: _ :: _ :: _ :: _ :: _ :: _ :: _ :: _ :: _ :: _ :: _ :: _ :: _ :: _ :: _ :: _ :: _ :: _ :: .tuple #[.agg #[.slice ra8 room.length rc8, .slice a8 rows'.length c8], .int .i64 oc] :: .agg #[.slice ra room.length rc, .slice a rows.length c] :: .agg #[.slice (some ⟨g1, 0, none⟩) room.length room.length, .slice (some ⟨T1, 0, none⟩) rows.length rows.length] :: .agg #[.int .i64 x.f, .int .i64 x.t, .int .i64 x.m] :: .agg #[.int .i64 x.f, .int .i64 x.t, .int .i64 x.m] :: .tuple #[.agg #[.slice ra8 room.length rc8, .slice a8 rows'.length c8], .int .i64 oc] :: _ :: _ :: _ :: _ :: _ :: _ :: _ :: _ :: _ :: _ :: _ :: _ :: _ :: _ :: _ :: _ :: _ :: _ :: _ :: []), defers := [] } _
          refine wpAnyH_take (i := 6) (v := .agg #[.slice ra8 room.length rc8, .slice a8 rows'.length c8]) rfl (by kernel_rfl) (by kernel_rfl) (by kernel_rfl) (fun _ _ _ h => h) (Or.inl ⟨by kernel_rfl, fun w hS => by go_simp⟩) hHeld ?_
          change wpAnyH _ _ _ _ _ _ _ { tmps := List.toArray (_ :: _ :: _ :: _ :: _ :: _ :: _ :: _ :: _ :: _ :: _ :: _ :: _ :: _ :: _ :: _ :: _ :: _ :: _ :: _ :: _ :: _ :: _ :: _ :: _ :: _ :: _ :: _ :: _ :: _ :: _ :: _ :: _ :: _ :: _ :: _ :: _ :: _ :: _ :: _ :: _ :: _ :: _ :: _ :: _ :: _ :: _ :: _ :: _ :: _ :: _ :: _ :: _ :: _ :: _ :: _ :: _ :: _ :: _ :: _ :: _ :: _ :: _ :: _ :: _ :: _ :: _ :: _ :: _ :: _ :: _ :: _ :: _ :: _ :: _ :: _ :: _ :: _ :: _ :: .tuple #[.agg #[.slice ra8 room.length rc8, .slice a8 rows'.length c8], .int .i64 oc] :: .agg #[.slice ra room.length rc, .slice a rows.length c] :: .agg #[.slice (some ⟨g1, 0, none⟩) room.length room.length, .slice (some ⟨T1, 0, none⟩) rows.length rows.length] :: .agg #[.int .i64 x.f, .int .i64 x.t, .int .i64 x.m] :: .agg #[.int .i64 x.f, .int .i64 x.t, .int .i64 x.m] :: .tuple #[.agg #[.slice ra8 room.length rc8, .slice a8 rows'.length c8], .int .i64 oc] :: .agg #[.slice ra8 room.length rc8, .slice a8 rows'.length c8] :: _ :: _ :: _ :: _ :: _ :: _ :: _ :: _ :: _ :: _ :: _ :: _ :: _ :: _ :: _ :: _ :: _ :: _ :: []), defers := [] } _
          refine wpAnyH_take (i := 7) (v := .int .i64 oc) rfl (by kernel_rfl) (by kernel_rfl) (by kernel_rfl) (fun _ _ _ h => h) (Or.inl ⟨by kernel_rfl, fun w hS => by go_simp⟩) hHeld ?_
          change wpAnyH _ _ _ _ _ _ _ { tmps := List.toArray (_ :: _ :: _ :: _ :: _ :: _ :: _ :: _ :: _ :: _ :: _ :: _ :: _ :: _ :: _ :: _ :: _ :: _ :: _ :: _ :: _ :: _ :: _ :: _ :: _ :: _ :: _ :: _ :: _ :: _ :: _ :: _ :: _ :: _ :: _ :: _ :: _ :: _ :: _ :: _ :: _ :: _ :: _ :: _ :: _ :: _ :: _ :: _ :: _ :: _ :: _ :: _ :: _ :: _ :: _ :: _ :: _ :: _ :: _ :: _ :: _ :: _ :: _ :: _ :: _ :: _ :: _ :: _ :: _ :: _ :: _ :: _ :: _ :: _ :: _ :: _ :: _ :: _ :: _ :: .tuple #[.agg #[.slice ra8 room.length rc8, .slice a8 rows'.length c8], .int .i64 oc] :: .agg #[.slice ra room.length rc, .slice a rows.length c] :: .agg #[.slice (some ⟨g1, 0, none⟩) room.length room.length, .slice (some ⟨T1, 0, none⟩) rows.length rows.length] :: .agg #[.int .i64 x.f, .int .i64 x.t, .int .i64 x.m] :: .agg #[.int .i64 x.f, .int .i64 x.t, .int .i64 x.m] :: .tuple #[.agg #[.slice ra8 room.length rc8, .slice a8 rows'.length c8], .int .i64 oc] :: .agg #[.slice ra8 room.length rc8, .slice a8 rows'.length c8] :: .int .i64 oc :: _ :: _ :: _ :: _ :: _ :: _ :: _ :: _ :: _ :: _ :: _ :: _ :: _ :: _ :: _ :: _ :: _ :: []), defers := [] } _
          refine wpAnyH_ready (rs := [8]) (by kernel_rfl) (by simp) ?_
          refine (AllReadyH.cons rfl (fun KK hK => ?_) AllReadyH.nil)
          go_simp
          have Ba := btrans Bf (balloc wf (.cells #[.slice none 0 0, .slice none 0 0] 27))
          have zB : (wf.alloc (.cells #[.slice none 0 0, .slice none 0 0] 27)).heap[wf.heap.size]? = some (.cells #[.slice none 0 0, .slice none 0 0] 27 (0, 0)) := heap_alloc_new wf _
          have zlo : w7.heap.size ≤ wf.heap.size := Bf.size
          clear hHeld
          refine hK.out _ _ (by obtain ⟨⟨k0, k1⟩, -⟩ := blk2 (blk_keep Ba A0); obtain ⟨k2, k3, k4⟩ := blk3 (blk_keep Ba A1); exact ⟨k0, k1, k2, k3, k4⟩) (fun hHeld => ?_)
          clear hK KK
          change wpAnyH _ _ _ _ _ _ _ { tmps := List.toArray (_ :: _ :: _ :: _ :: _ :: _ :: _ :: _ :: _ :: _ :: _ :: _ :: _ :: _ :: .pointer (some ⟨wf.heap.size, 0, none⟩) :: _ :: _ :: _ :: _ :: _ :: _ :: _ :: _ :: _ :: _ :: _ :: _ :: _ :: _ :: _ :: _ :: _ :: _ :: _ :: _ :: _ :: _ :: _ :: _ :: _ :: _ :: _ :: _ :: _ :: _ :: _ :: _ :: _ :: _ :: _ :: _ :: _ :: _ :: _ :: _ :: _ :: _ :: _ :: _ :: _ :: _ :: _ :: _ :: _ :: _ :: _ :: _ :: _ :: _ :: _ :: _ :: _ :: _ :: _ :: _ :: _ :: _ :: _ :: _ :: .tuple #[.agg #[.slice ra8 room.length rc8, .slice a8 rows'.length c8], .int .i64 oc] :: .agg #[.slice ra room.length rc, .slice a rows.length c] :: .agg #[.slice (some ⟨g1, 0, none⟩) room.length room.length, .slice (some ⟨T1, 0, none⟩) rows.length rows.length] :: .agg #[.int .i64 x.f, .int .i64 x.t, .int .i64 x.m] :: .agg #[.int .i64 x.f, .int .i64 x.t, .int .i64 x.m] :: .tuple #[.agg #[.slice ra8 room.length rc8, .slice a8 rows'.length c8], .int .i64 oc] :: .agg #[.slice ra8 room.length rc8, .slice a8 rows'.length c8] :: .int .i64 oc :: _ :: _ :: _ :: _ :: _ :: _ :: _ :: _ :: _ :: _ :: _ :: _ :: _ :: _ :: _ :: _ :: _ :: []), defers := [] } _
          refine wpAnyH_ready (rs := [9]) (by kernel_rfl) (by simp) ?_
          refine (AllReadyH.cons rfl (fun KK hK => ?_) AllReadyH.nil)
          have Bs := btrans Bf (balloc wf (.cells #[.slice ra8 room.length rc8, .slice a8 rows'.length c8] 27))
          go_simp
          clear hHeld
          refine hK.out _ _ (by obtain ⟨⟨k0, k1⟩, -⟩ := blk2 (blk_keep Bs A0); obtain ⟨k2, k3, k4⟩ := blk3 (blk_keep Bs A1); exact ⟨k0, k1, k2, k3, k4⟩) (fun hHeld => ?_)
          clear hK KK
          change wpAnyH _ _ _ _ _ _ _ { tmps := List.toArray (_ :: _ :: _ :: _ :: _ :: _ :: _ :: _ :: _ :: _ :: _ :: _ :: _ :: _ :: .pointer (some ⟨wf.heap.size, 0, none⟩) :: _ :: _ :: _ :: _ :: _ :: _ :: _ :: _ :: _ :: _ :: _ :: _ :: _ :: _ :: _ :: _ :: _ :: _ :: _ :: _ :: _ :: _ :: _ :: _ :: _ :: _ :: _ :: _ :: _ :: _ :: _ :: _ :: _ :: _ :: _ :: _ :: _ :: _ :: _ :: _ :: _ :: _ :: _ :: _ :: _ :: _ :: _ :: _ :: _ :: _ :: _ :: _ :: _ :: _ :: _ :: _ :: _ :: _ :: _ :: _ :: _ :: _ :: _ :: _ :: .tuple #[.agg #[.slice ra8 room.length rc8, .slice a8 rows'.length c8], .int .i64 oc] :: .agg #[.slice ra room.length rc, .slice a rows.length c] :: .agg #[.slice (some ⟨g1, 0, none⟩) room.length room.length, .slice (some ⟨T1, 0, none⟩) rows.length rows.length] :: .agg #[.int .i64 x.f, .int .i64 x.t, .int .i64 x.m] :: .agg #[.int .i64 x.f, .int .i64 x.t, .int .i64 x.m] :: .tuple #[.agg #[.slice ra8 room.length rc8, .slice a8 rows'.length c8], .int .i64 oc] :: .agg #[.slice ra8 room.length rc8, .slice a8 rows'.length c8] :: .int .i64 oc :: _ :: _ :: _ :: _ :: _ :: _ :: _ :: _ :: _ :: _ :: _ :: _ :: _ :: _ :: _ :: _ :: _ :: []), defers := [] } _
          refine wpAnyH_take (i := 10) (v := .int .i64 oc) rfl (by kernel_rfl) (by kernel_rfl) (by kernel_rfl) (fun _ _ _ h => h) (Or.inl ⟨by kernel_rfl, fun w hS => by go_simp⟩) hHeld ?_
          change wpAnyH _ _ _ _ _ _ _ { tmps := List.toArray (_ :: _ :: _ :: _ :: _ :: _ :: _ :: _ :: _ :: _ :: _ :: _ :: _ :: _ :: .pointer (some ⟨wf.heap.size, 0, none⟩) :: .int .i64 oc :: _ :: _ :: _ :: _ :: _ :: _ :: _ :: _ :: _ :: _ :: _ :: _ :: _ :: _ :: _ :: _ :: _ :: _ :: _ :: _ :: _ :: _ :: _ :: _ :: _ :: _ :: _ :: _ :: _ :: _ :: _ :: _ :: _ :: _ :: _ :: _ :: _ :: _ :: _ :: _ :: _ :: _ :: _ :: _ :: _ :: _ :: _ :: _ :: _ :: _ :: _ :: _ :: _ :: _ :: _ :: _ :: _ :: _ :: _ :: _ :: _ :: _ :: _ :: .tuple #[.agg #[.slice ra8 room.length rc8, .slice a8 rows'.length c8], .int .i64 oc] :: .agg #[.slice ra room.length rc, .slice a rows.length c] :: .agg #[.slice (some ⟨g1, 0, none⟩) room.length room.length, .slice (some ⟨T1, 0, none⟩) rows.length rows.length] :: .agg #[.int .i64 x.f, .int .i64 x.t, .int .i64 x.m] :: .agg #[.int .i64 x.f, .int .i64 x.t, .int .i64 x.m] :: .tuple #[.agg #[.slice ra8 room.length rc8, .slice a8 rows'.length c8], .int .i64 oc] :: .agg #[.slice ra8 room.length rc8, .slice a8 rows'.length c8] :: .int .i64 oc :: _ :: _ :: _ :: _ :: _ :: _ :: _ :: _ :: _ :: _ :: _ :: _ :: _ :: _ :: _ :: _ :: _ :: []), defers := [] } _
          refine wpAnyH_done (by kernel_rfl) ?_ _
          go_wp2_with fail
          go_meet
          exact ⟨gotN Bf O8, rfl⟩
        · skip
          go_simp
          have Ba := btrans Bq (balloc wq (.cells #[.slice none 0 0, .slice none 0 0] 27))
          have zB : (wq.alloc (.cells #[.slice none 0 0, .slice none 0 0] 27)).heap[wq.heap.size]? = some (.cells #[.slice none 0 0, .slice none 0 0] 27 (0, 0)) := heap_alloc_new wq _
          have zlo : w7.heap.size ≤ wq.heap.size := Bq.size
          have S1 := S1.below (balloc wq (.cells #[.slice none 0 0, .slice none 0 0] 27))
          clear hHeld
          refine hK.out _ _ (by obtain ⟨⟨k0, k1⟩, -⟩ := blk2 (blk_keep Ba A0); obtain ⟨k2, k3, k4⟩ := blk3 (blk_keep Ba A1); exact ⟨k0, k1, k2, k3, k4⟩) (fun hHeld => ?_)
          clear hK KK
          change wpAnyH _ _ _ _ _ _ _ { tmps := List.toArray (_ :: _ :: _ :: _ :: _ :: _ :: _ :: _ :: _ :: _ :: _ :: _ :: _ :: _ :: .pointer (some ⟨wq.heap.size, 0, none⟩) :: _ :: _ :: _ :: _ :: _ :: _ :: _ :: _ :: _ :: _ :: _ :: _ :: _ :: _ :: _ :: _ :: _ :: _ :: _ :: _ :: _ :: _ :: _ :: _ :: _ :: _ :: _ :: _ :: _ :: _ :: _ :: _ :: _ :: _ :: _ :: _ :: _ :: _ :: _ :: _ :: _ :: _ :: _ :: _ :: _ :: _ :: _ :: _ :: _ :: _ :: _ :: _ :: _ :: _ :: _ :: _ :: _ :: _ :: _ :: _ :: _ :: _ :: _ :: _ :: _ :: .agg #[.slice ra room.length rc, .slice a rows.length c] :: .agg #[.slice (some ⟨g1, 0, none⟩) room.length room.length, .slice (some ⟨T1, 0, none⟩) rows.length rows.length] :: .agg #[.int .i64 x.f, .int .i64 x.t, .int .i64 x.m] :: .agg #[.int .i64 x.f, .int .i64 x.t, .int .i64 x.m] :: _ :: _ :: _ :: _ :: _ :: _ :: _ :: _ :: _ :: _ :: _ :: _ :: _ :: _ :: _ :: _ :: _ :: _ :: _ :: _ :: []), defers := [] } _
          refine wpAnyH_ready (rs := [4]) (by kernel_rfl) (by simp) ?_
          refine (AllReadyH.cons rfl (fun KK hK => ?_) AllReadyH.nil)
          go_simp
          obtain ⟨ra1, rc1, a1, c1, e1, e2, I1, R1, -⟩ := S1.arg
          have C := CI ra1 rc1 a1 c1 vs1 _ I1 R1
          rw [← e1, ← e2] at C
          clear e1 e2 I1 R1
          refine C.mono ?_
          rintro e wf ⟨rv8, v8, vs8, rfl, O8, hb⟩
          have Bf := btrans Ba hb
          have zB := blk_keep hb zB
          replace O8 := O8.base Ba.size
          obtain ⟨ra8, rc8, a8, c8, rfl, rfl, -⟩ := O8.arg
          clear hb C
          go_wp2_with fail
          clear hHeld
          refine hK.out _ _ (by obtain ⟨⟨k0, k1⟩, -⟩ := blk2 (blk_keep Bf A0); obtain ⟨k2, k3, k4⟩ := blk3 (blk_keep Bf A1); exact ⟨k0, k1, k2, k3, k4⟩) (fun hHeld => ?_)
          clear hK KK
          change wpAnyH _ _ _ _ _ _ _ { tmps := List.toArray (_ :: _ :: _ :: _ :: _ :: _ :: _ :: _ :: _ :: _ :: _ :: _ :: _ :: _ :: .pointer (some ⟨wq.heap.size, 0, none⟩) :: _ :: _ :: _ :: _ :: _ :: _ :: _ :: _ :: _ :: _ :: _ :: _ :: _ :: _ :: _ :: _ :: _ :: _ :: _ :: _ :: _ :: _ :: _ :: _ :: _ :: _ :: _ :: _ :: _ :: _ :: _ :: _ :: _ :: _ :: _ :: _ :: _ :: _ :: _ :: _ :: _ :: _ :: _ :: _ :: _ :: _ :: _ :: _ :: _ :: _ :: _ :: _ :: _ :: _ :: _ :: _ :: _ :: _ :: _ :: _ :: _ :: _ :: _ :: _ :: _ :: .agg #[.slice ra room.length rc, .slice a rows.length c] :: .agg #[.slice (some ⟨g1, 0, none⟩) room.length room.length, .slice (some ⟨T1, 0, none⟩) rows.length rows.length] :: .agg #[.int .i64 x.f, .int .i64 x.t, .int .i64 x.m] :: .agg #[.int .i64 x.f, .int .i64 x.t, .int .i64 x.m] :: .tuple #[.agg #[.slice ra8 room.length rc8, .slice a8 rows'.length c8], .int .i64 oc] :: _ :: _ :: _ :: _ :: _ :: _ :: _ :: _ :: _ :: _ :: _ :: _ :: _ :: _ :: _ :: _ :: _ :: _ :: _ :: []), defers := [] } _
          refine wpAnyH_take (i := 5) (v := .tuple #[.agg #[.slice ra8 room.length rc8, .slice a8 rows'.length c8], .int .i64 oc]) rfl (by kernel_rfl) (by kernel_rfl) (by kernel_rfl) (fun _ _ _ h => h) (Or.inl ⟨by kernel_rfl, fun w hS => by go_simp⟩) hHeld ?_
          change wpAnyH _ _ _ _ _ _ _ { tmps := List.toArray (_ :: _ :: _ :: _ :: _ :: _ :: _ :: _ :: _ :: _ :: _ :: _ :: _ :: _ :: .pointer (some ⟨wq.heap.size, 0, none⟩) :: _ :: _ :: _ :: _ :: _ :: _ :: _ :: _ :: _ :: _ :: _ :: _ :: _ :: _ :: _ :: _ :: _ :: _ :: _ :: _ :: _ :: _ :: _ :: _ :: _ :: _ :: _ :: _ :: _ :: _ :: _ :: _ :: _ :: _ :: _ :: _ :: _ :: _ :: _ :: _ :: _ :: _ :: _ :: _ :: _ :: _ :: _ :: _ :: _ :: _ :: _ :: _ :: _ :: _ :: _ :: _ :: _ :: _ :: _ :: _ :: _ :: _ :: _ :: _ :: .tuple #[.agg #[.slice ra8 room.length rc8, .slice a8 rows'.length c8], .int .i64 oc] :: .agg #[.slice ra room.length rc, .slice a rows.length c] :: .agg #[.slice (some ⟨g1, 0, none⟩) room.length room.length, .slice (some ⟨T1, 0, none⟩) rows.length rows.length] :: .agg #[.int .i64 x.f, .int .i64 x.t, .int .i64 x.m] :: .agg #[.int .i64 x.f, .int .i64 x.t, .int .i64 x.m] :: .tuple #[.agg #[.slice ra8 room.length rc8, .slice a8 rows'.length c8], .int .i64 oc] :: _ :: _ :: _ :: _ :: _ :: _ :: _ :: _ :: _ :: _ :: _ :: _ :: _ :: _ :: _ :: _ :: _ :: _ :: _ :: []), defers := [] } _
          refine wpAnyH_take (i := 6) (v := .agg #[.slice ra8 room.length rc8, .slice a8 rows'.length c8]) rfl (by kernel_rfl) (by kernel_rfl) (by kernel_rfl) (fun _ _ _ h => h) (Or.inl ⟨by kernel_rfl, fun w hS => by go_simp⟩) hHeld ?_
          change wpAnyH _ _ _ _ _ _ _ { tmps := List.toArray (_ :: _ :: _ :: _ :: _ :: _ :: _ :: _ :: _ :: _ :: _ :: _ :: _ :: _ :: .pointer (some ⟨wq.heap.size, 0, none⟩) :: _ :: _ :: _ :: _ :: _ :: _ :: _ :: _ :: _ :: _ :: _ :: _ :: _ :: _ :: _ :: _ :: _ :: _ :: _ :: _ :: _ :: _ :: _ :: _ :: _ :: _ :: _ :: _ :: _ :: _ :: _ :: _ :: _ :: _ :: _ :: _ :: _ :: _ :: _ :: _ :: _ :: _ :: _ :: _ :: _ :: _ :: _ :: _ :: _ :: _ :: _ :: _ :: _ :: _ :: _ :: _ :: _ :: _ :: _ :: _ :: _ :: _ :: _ :: _ :: .tuple #[.agg #[.slice ra8 room.length rc8, .slice a8 rows'.length c8], .int .i64 oc] :: .agg #[.slice ra room.length rc, .slice a rows.length c] :: .agg #[.slice (some ⟨g1, 0, none⟩) room.length room.length, .slice (some ⟨T1, 0, none⟩) rows.length rows.length] :: .agg #[.int .i64 x.f, .int .i64 x.t, .int .i64 x.m] :: .agg #[.int .i64 x.f, .int .i64 x.t, .int .i64 x.m] :: .tuple #[.agg #[.slice ra8 room.length rc8, .slice a8 rows'.length c8], .int .i64 oc] :: .agg #[.slice ra8 room.length rc8, .slice a8 rows'.length c8] :: _ :: _ :: _ :: _ :: _ :: _ :: _ :: _ :: _ :: _ :: _ :: _ :: _ :: _ :: _ :: _ :: _ :: _ :: []), defers := [] } _
          refine wpAnyH_take (i := 7) (v := .int .i64 oc) rfl (by kernel_rfl) (by kernel_rfl) (by kernel_rfl) (fun _ _ _ h => h) (Or.inl ⟨by kernel_rfl, fun w hS => by go_simp⟩) hHeld ?_
          change wpAnyH _ _ _ _ _ _ _ { tmps := List.toArray (_ :: _ :: _ :: _ :: _ :: _ :: _ :: _ :: _ :: _ :: _ :: _ :: _ :: _ :: .pointer (some ⟨wq.heap.size, 0, none⟩) :: _ :: _ :: _ :: _ :: _ :: _ :: _ :: _ :: _ :: _ :: _ :: _ :: _ :: _ :: _ :: _ :: _ :: _ :: _ :: _ :: _ :: _ :: _ :: _ :: _ :: _ :: _ :: _ :: _ :: _ :: _ :: _ :: _ :: _ :: _ :: _ :: _ :: _ :: _ :: _ :: _ :: _ :: _ :: _ :: _ :: _ :: _ :: _ :: _ :: _ :: _ :: _ :: _ :: _ :: _ :: _ :: _ :: _ :: _ :: _ :: _ :: _ :: _ :: _ :: .tuple #[.agg #[.slice ra8 room.length rc8, .slice a8 rows'.length c8], .int .i64 oc] :: .agg #[.slice ra room.length rc, .slice a rows.length c] :: .agg #[.slice (some ⟨g1, 0, none⟩) room.length room.length, .slice (some ⟨T1, 0, none⟩) rows.length rows.length] :: .agg #[.int .i64 x.f, .int .i64 x.t, .int .i64 x.m] :: .agg #[.int .i64 x.f, .int .i64 x.t, .int .i64 x.m] :: .tuple #[.agg #[.slice ra8 room.length rc8, .slice a8 rows'.length c8], .int .i64 oc] :: .agg #[.slice ra8 room.length rc8, .slice a8 rows'.length c8] :: .int .i64 oc :: _ :: _ :: _ :: _ :: _ :: _ :: _ :: _ :: _ :: _ :: _ :: _ :: _ :: _ :: _ :: _ :: _ :: []), defers := [] } _
          refine wpAnyH_ready (rs := [9]) (by kernel_rfl) (by simp) ?_
          refine (AllReadyH.cons rfl (fun KK hK => ?_) AllReadyH.nil)
          obtain ⟨⟨z0, z1⟩, y0, y1⟩ := blk2 zB
          have Bs : Below w7.heap.size w7 ((wf.setCell ⟨wq.heap.size, 0, none⟩ (.slice ra8 room.length rc8)).setCell ⟨wq.heap.size, 1, none⟩ (.slice a8 rows'.length c8)) := below_set zlo (below_set zlo Bf)
          go_simp
          clear hHeld
          refine hK.out _ _ (by obtain ⟨⟨k0, k1⟩, -⟩ := blk2 (blk_keep Bs A0); obtain ⟨k2, k3, k4⟩ := blk3 (blk_keep Bs A1); exact ⟨k0, k1, k2, k3, k4⟩) (fun hHeld => ?_)
          clear hK KK
          change wpAnyH _ _ _ _ _ _ _ { tmps := List.toArray (_ :: _ :: _ :: _ :: _ :: _ :: _ :: _ :: _ :: _ :: _ :: _ :: _ :: _ :: .pointer (some ⟨wq.heap.size, 0, none⟩) :: _ :: _ :: _ :: _ :: _ :: _ :: _ :: _ :: _ :: _ :: _ :: _ :: _ :: _ :: _ :: _ :: _ :: _ :: _ :: _ :: _ :: _ :: _ :: _ :: _ :: _ :: _ :: _ :: _ :: _ :: _ :: _ :: _ :: _ :: _ :: _ :: _ :: _ :: _ :: _ :: _ :: _ :: _ :: _ :: _ :: _ :: _ :: _ :: _ :: _ :: _ :: _ :: _ :: _ :: _ :: _ :: _ :: _ :: _ :: _ :: _ :: _ :: _ :: _ :: .tuple #[.agg #[.slice ra8 room.length rc8, .slice a8 rows'.length c8], .int .i64 oc] :: .agg #[.slice ra room.length rc, .slice a rows.length c] :: .agg #[.slice (some ⟨g1, 0, none⟩) room.length room.length, .slice (some ⟨T1, 0, none⟩) rows.length rows.length] :: .agg #[.int .i64 x.f, .int .i64 x.t, .int .i64 x.m] :: .agg #[.int .i64 x.f, .int .i64 x.t, .int .i64 x.m] :: .tuple #[.agg #[.slice ra8 room.length rc8, .slice a8 rows'.length c8], .int .i64 oc] :: .agg #[.slice ra8 room.length rc8, .slice a8 rows'.length c8] :: .int .i64 oc :: _ :: _ :: _ :: _ :: _ :: _ :: _ :: _ :: _ :: _ :: _ :: _ :: _ :: _ :: _ :: _ :: _ :: []), defers := [] } _
          refine wpAnyH_take (i := 10) (v := .int .i64 oc) rfl (by kernel_rfl) (by kernel_rfl) (by kernel_rfl) (fun _ _ _ h => h) (Or.inl ⟨by kernel_rfl, fun w hS => by go_simp⟩) hHeld ?_
          change wpAnyH _ _ _ _ _ _ _ { tmps := List.toArray (_ :: _ :: _ :: _ :: _ :: _ :: _ :: _ :: _ :: _ :: _ :: _ :: _ :: _ :: .pointer (some ⟨wq.heap.size, 0, none⟩) :: .int .i64 oc :: _ :: _ :: _ :: _ :: _ :: _ :: _ :: _ :: _ :: _ :: _ :: _ :: _ :: _ :: _ :: _ :: _ :: _ :: _ :: _ :: _ :: _ :: _ :: _ :: _ :: _ :: _ :: _ :: _ :: _ :: _ :: _ :: _ :: _ :: _ :: _ :: _ :: _ :: _ :: _ :: _ :: _ :: _ :: _ :: _ :: _ :: _ :: _ :: _ :: _ :: _ :: _ :: _ :: _ :: _ :: _ :: _ :: _ :: _ :: _ :: _ :: _ :: _ :: .tuple #[.agg #[.slice ra8 room.length rc8, .slice a8 rows'.length c8], .int .i64 oc] :: .agg #[.slice ra room.length rc, .slice a rows.length c] :: .agg #[.slice (some ⟨g1, 0, none⟩) room.length room.length, .slice (some ⟨T1, 0, none⟩) rows.length rows.length] :: .agg #[.int .i64 x.f, .int .i64 x.t, .int .i64 x.m] :: .agg #[.int .i64 x.f, .int .i64 x.t, .int .i64 x.m] :: .tuple #[.agg #[.slice ra8 room.length rc8, .slice a8 rows'.length c8], .int .i64 oc] :: .agg #[.slice ra8 room.length rc8, .slice a8 rows'.length c8] :: .int .i64 oc :: _ :: _ :: _ :: _ :: _ :: _ :: _ :: _ :: _ :: _ :: _ :: _ :: _ :: _ :: _ :: _ :: _ :: []), defers := [] } _
          refine wpAnyH_done (by kernel_rfl) ?_ _
          go_wp2_with fail
          go_meet
          exact ⟨gotS Bf zB zlo O8, rfl⟩
      · skip
        go_simp
        have Ba := btrans Bp (balloc wp (.cells #[.slice none 0 0, .slice none 0 0] 27))
        have zB : (wp.alloc (.cells #[.slice none 0 0, .slice none 0 0] 27)).heap[wp.heap.size]? = some (.cells #[.slice none 0 0, .slice none 0 0] 27 (0, 0)) := heap_alloc_new wp _
        have zlo : w7.heap.size ≤ wp.heap.size := Bp.size
        have S1 := S1.below (balloc wp (.cells #[.slice none 0 0, .slice none 0 0] 27))
        clear hHeld
        refine hK.out _ _ (by obtain ⟨⟨k0, k1⟩, -⟩ := blk2 (blk_keep Ba A0); obtain ⟨k2, k3, k4⟩ := blk3 (blk_keep Ba A1); exact ⟨k0, k1, k2, k3, k4⟩) (fun hHeld => ?_)
        clear hK KK
        change wpAnyH _ _ _ _ _ _ _ { tmps := List.toArray (_ :: _ :: _ :: _ :: _ :: _ :: _ :: _ :: _ :: _ :: _ :: _ :: _ :: _ :: .pointer (some ⟨wp.heap.size, 0, none⟩) :: _ :: _ :: _ :: _ :: _ :: _ :: _ :: _ :: _ :: _ :: _ :: _ :: _ :: _ :: _ :: _ :: _ :: _ :: _ :: _ :: _ :: _ :: _ :: _ :: _ :: _ :: _ :: _ :: _ :: _ :: _ :: _ :: _ :: _ :: _ :: _ :: _ :: _ :: _ :: _ :: _ :: _ :: _ :: _ :: _ :: _ :: _ :: _ :: _ :: _ :: _ :: _ :: _ :: _ :: _ :: _ :: _ :: _ :: _ :: _ :: _ :: _ :: _ :: _ :: _ :: .agg #[.slice ra room.length rc, .slice a rows.length c] :: .agg #[.slice (some ⟨g1, 0, none⟩) room.length room.length, .slice (some ⟨T1, 0, none⟩) rows.length rows.length] :: .agg #[.int .i64 x.f, .int .i64 x.t, .int .i64 x.m] :: _ :: _ :: _ :: _ :: _ :: _ :: _ :: _ :: _ :: _ :: _ :: _ :: _ :: _ :: _ :: _ :: _ :: _ :: _ :: _ :: _ :: []), defers := [] } _
        refine wpAnyH_ready (rs := [3]) (by kernel_rfl) (by simp) ?_
        refine (AllReadyH.cons rfl (fun KK hK => ?_) AllReadyH.nil)
        go_simp
        refine (TM _).mono ?_
        rintro e wq ⟨rfl, hb⟩
        have Bq := btrans Ba hb
        have S1 := S1.below hb
        have zB := blk_keep hb zB
        clear hb
        go_wp2_with fail
        clear hHeld
        refine hK.out _ _ (by obtain ⟨⟨k0, k1⟩, -⟩ := blk2 (blk_keep Bq A0); obtain ⟨k2, k3, k4⟩ := blk3 (blk_keep Bq A1); exact ⟨k0, k1, k2, k3, k4⟩) (fun hHeld => ?_)
        clear hK KK
        change wpAnyH _ _ _ _ _ _ _ { tmps := List.toArray (_ :: _ :: _ :: _ :: _ :: _ :: _ :: _ :: _ :: _ :: _ :: _ :: _ :: _ :: .pointer (some ⟨wp.heap.size, 0, none⟩) :: _ :: _ :: _ :: _ :: _ :: _ :: _ :: _ :: _ :: _ :: _ :: _ :: _ :: _ :: _ :: _ :: _ :: _ :: _ :: _ :: _ :: _ :: _ :: _ :: _ :: _ :: _ :: _ :: _ :: _ :: _ :: _ :: _ :: _ :: _ :: _ :: _ :: _ :: _ :: _ :: _ :: _ :: _ :: _ :: _ :: _ :: _ :: _ :: _ :: _ :: _ :: _ :: _ :: _ :: _ :: _ :: _ :: _ :: _ :: _ :: _ :: _ :: _ :: _ :: _ :: .agg #[.slice ra room.length rc, .slice a rows.length c] :: .agg #[.slice (some ⟨g1, 0, none⟩) room.length room.length, .slice (some ⟨T1, 0, none⟩) rows.length rows.length] :: .agg #[.int .i64 x.f, .int .i64 x.t, .int .i64 x.m] :: .agg #[.int .i64 x.f, .int .i64 x.t, .int .i64 x.m] :: _ :: _ :: _ :: _ :: _ :: _ :: _ :: _ :: _ :: _ :: _ :: _ :: _ :: _ :: _ :: _ :: _ :: _ :: _ :: _ :: []), defers := [] } _
        refine wpAnyH_ready (rs := [4]) (by kernel_rfl) (by simp) ?_
        refine (AllReadyH.cons rfl (fun KK hK => ?_) AllReadyH.nil)
        go_simp
        obtain ⟨ra1, rc1, a1, c1, e1, e2, I1, R1, -⟩ := S1.arg
        have C := CI ra1 rc1 a1 c1 vs1 _ I1 R1
        rw [← e1, ← e2] at C
        clear e1 e2 I1 R1
        refine C.mono ?_
        rintro e wf ⟨rv8, v8, vs8, rfl, O8, hb⟩
        have Bf := btrans Bq hb
        have zB := blk_keep hb zB
        replace O8 := O8.base Bq.size
        obtain ⟨ra8, rc8, a8, c8, rfl, rfl, -⟩ := O8.arg
        clear hb C
        go_wp2_with fail
        clear hHeld
        refine hK.out _ _ (by obtain ⟨⟨k0, k1⟩, -⟩ := blk2 (blk_keep Bf A0); obtain ⟨k2, k3, k4⟩ := blk3 (blk_keep Bf A1); exact ⟨k0, k1, k2, k3, k4⟩) (fun hHeld => ?_)
        clear hK KK
        change wpAnyH _ _ _ _ _ _ _ { tmps := List.toArray (_ :: _ :: _ :: _ :: _ :: _ :: _ :: _ :: _ :: _ :: _ :: _ :: _ :: _ :: .pointer (some ⟨wp.heap.size, 0, none⟩) :: _ :: _ :: _ :: _ :: _ :: _ :: _ :: _ :: _ :: _ :: _ :: _ :: _ :: _ :: _ :: _ :: _ :: _ :: _ :: _ :: _ :: _ :: _ :: _ :: _ :: _ :: _ :: _ :: _ :: _ :: _ :: _ :: _ :: _ :: _ :: _ :: _ :: _ :: _ :: _ :: _ :: _ :: _ :: _ :: _ :: _ :: _ :: _ :: _ :: _ :: _ :: _ :: _ :: _ :: _ :: _ :: _ :: _ :: _ :: _ :: _ :: _ :: _ :: _ :: _ :: .agg #[.slice ra room.length rc, .slice a rows.length c] :: .agg #[.slice (some ⟨g1, 0, none⟩) room.length room.length, .slice (some ⟨T1, 0, none⟩) rows.length rows.length] :: .agg #[.int .i64 x.f, .int .i64 x.t, .int .i64 x.m] :: .agg #[.int .i64 x.f, .int .i64 x.t, .int .i64 x.m] :: .tuple #[.agg #[.slice ra8 room.length rc8, .slice a8 rows'.length c8], .int .i64 oc] :: _ :: _ :: _ :: _ :: _ :: _ :: _ :: _ :: _ :: _ :: _ :: _ :: _ :: _ :: _ :: _ :: _ :: _ :: _ :: []), defers := [] } _
        refine wpAnyH_take (i := 5) (v := .tuple #[.agg #[.slice ra8 room.length rc8, .slice a8 rows'.length c8], .int .i64 oc]) rfl (by kernel_rfl) (by kernel_rfl) (by kernel_rfl) (fun _ _ _ h => h) (Or.inl ⟨by kernel_rfl, fun w hS => by go_simp⟩) hHeld ?_
        change wpAnyH _ _ _ _ _ _ _ { tmps := List.toArray (_ :: _ :: _ :: _ :: _ :: _ :: _ :: _ :: _ :: _ :: _ :: _ :: _ :: _ :: .pointer (some ⟨wp.heap.size, 0, none⟩) :: _ :: _ :: _ :: _ :: _ :: _ :: _ :: _ :: _ :: _ :: _ :: _ :: _ :: _ :: _ :: _ :: _ :: _ :: _ :: _ :: _ :: _ :: _ :: _ :: _ :: _ :: _ :: _ :: _ :: _ :: _ :: _ :: _ :: _ :: _ :: _ :: _ :: _ :: _ :: _ :: _ :: _ :: _ :: _ :: _ :: _ :: _ :: _ :: _ :: _ :: _ :: _ :: _ :: _ :: _ :: _ :: _ :: _ :: _ :: _ :: _ :: _ :: _ :: _ :: .tuple #[.agg #[.slice ra8 room.length rc8, .slice a8 rows'.length c8], .int .i64 oc] :: .agg #[.slice ra room.length rc, .slice a rows.length c] :: .agg #[.slice (some ⟨g1, 0, none⟩) room.length room.length, .slice (some ⟨T1, 0, none⟩) rows.length rows.length] :: .agg #[.int .i64 x.f, .int .i64 x.t, .int .i64 x.m] :: .agg #[.int .i64 x.f, .int .i64 x.t, .int .i64 x.m] :: .tuple #[.agg #[.slice ra8 room.length rc8, .slice a8 rows'.length c8], .int .i64 oc] :: _ :: _ :: _ :: _ :: _ :: _ :: _ :: _ :: _ :: _ :: _ :: _ :: _ :: _ :: _ :: _ :: _ :: _ :: _ :: []), defers := [] } _
        refine wpAnyH_take (i := 6) (v := .agg #[.slice ra8 room.length rc8, .slice a8 rows'.length c8]) rfl (by kernel_rfl) (by kernel_rfl) (by kernel_rfl) (fun _ _ _ h => h) (Or.inl ⟨by kernel_rfl, fun w hS => by go_simp⟩) hHeld ?_
        change wpAnyH _ _ _ _ _ _ _ { tmps := List.toArray (_ :: _ :: _ :: _ :: _ :: _ :: _ :: _ :: _ :: _ :: _ :: _ :: _ :: _ :: .pointer (some ⟨wp.heap.size, 0, none⟩) :: _ :: _ :: _ :: _ :: _ :: _ :: _ :: _ :: _ :: _ :: _ :: _ :: _ :: _ :: _ :: _ :: _ :: _ :: _ :: _ :: _ :: _ :: _ :: _ :: _ :: _ :: _ :: _ :: _ :: _ :: _ :: _ :: _ :: _ :: _ :: _ :: _ :: _ :: _ :: _ :: _ :: _ :: _ :: _ :: _ :: _ :: _ :: _ :: _ :: _ :: _ :: _ :: _ :: _ :: _ :: _ :: _ :: _ :: _ :: _ :: _ :: _ :: _ :: _ :: .tuple #[.agg #[.slice ra8 room.length rc8, .slice a8 rows'.length c8], .int .i64 oc] :: .agg #[.slice ra room.length rc, .slice a rows.length c] :: .agg #[.slice (some ⟨g1, 0, none⟩) room.length room.length, .slice (some ⟨T1, 0, none⟩) rows.length rows.length] :: .agg #[.int .i64 x.f, .int .i64 x.t, .int .i64 x.m] :: .agg #[.int .i64 x.f, .int .i64 x.t, .int .i64 x.m] :: .tuple #[.agg #[.slice ra8 room.length rc8, .slice a8 rows'.length c8], .int .i64 oc] :: .agg #[.slice ra8 room.length rc8, .slice a8 rows'.length c8] :: _ :: _ :: _ :: _ :: _ :: _ :: _ :: _ :: _ :: _ :: _ :: _ :: _ :: _ :: _ :: _ :: _ :: _ :: []), defers := [] } _
        refine wpAnyH_take (i := 7) (v := .int .i64 oc) rfl (by kernel_rfl) (by kernel_rfl) (by kernel_rfl) (fun _ _ _ h => h) (Or.inl ⟨by kernel_rfl, fun w hS => by go_simp⟩) hHeld ?_
        change wpAnyH _ _ _ _ _ _ _ { tmps := List.toArray (_ :: _ :: _ :: _ :: _ :: _ :: _ :: _ :: _ :: _ :: _ :: _ :: _ :: _ :: .pointer (some ⟨wp.heap.size, 0, none⟩) :: _ :: _ :: _ :: _ :: _ :: _ :: _ :: _ :: _ :: _ :: _ :: _ :: _ :: _ :: _ :: _ :: _ :: _ :: _ :: _ :: _ :: _ :: _ :: _ :: _ :: _ :: _ :: _ :: _ :: _ :: _ :: _ :: _ :: _ :: _ :: _ :: _ :: _ :: _ :: _ :: _ :: _ :: _ :: _ :: _ :: _ :: _ :: _ :: _ :: _ :: _ :: _ :: _ :: _ :: _ :: _ :: _ :: _ :: _ :: _ :: _ :: _ :: _ :: _ :: .tuple #[.agg #[.slice ra8 room.length rc8, .slice a8 rows'.length c8], .int .i64 oc] :: .agg #[.slice ra room.length rc, .slice a rows.length c] :: .agg #[.slice (some ⟨g1, 0, none⟩) room.length room.length, .slice (some ⟨T1, 0, none⟩) rows.length rows.length] :: .agg #[.int .i64 x.f, .int .i64 x.t, .int .i64 x.m] :: .agg #[.int .i64 x.f, .int .i64 x.t, .int .i64 x.m] :: .tuple #[.agg #[.slice ra8 room.length rc8, .slice a8 rows'.length c8], .int .i64 oc] :: .agg #[.slice ra8 room.length rc8, .slice a8 rows'.length c8] :: .int .i64 oc :: _ :: _ :: _ :: _ :: _ :: _ :: _ :: _ :: _ :: _ :: _ :: _ :: _ :: _ :: _ :: _ :: _ :: []), defers := [] } _
        refine wpAnyH_ready (rs := [9]) (by kernel_rfl) (by simp) ?_
        refine (AllReadyH.cons rfl (fun KK hK => ?_) AllReadyH.nil)
        obtain ⟨⟨z0, z1⟩, y0, y1⟩ := blk2 zB
        have Bs : Below w7.heap.size w7 ((wf.setCell ⟨wp.heap.size, 0, none⟩ (.slice ra8 room.length rc8)).setCell ⟨wp.heap.size, 1, none⟩ (.slice a8 rows'.length c8)) := below_set zlo (below_set zlo Bf)
        go_simp
        clear hHeld
        refine hK.out _ _ (by obtain ⟨⟨k0, k1⟩, -⟩ := blk2 (blk_keep Bs A0); obtain ⟨k2, k3, k4⟩ := blk3 (blk_keep Bs A1); exact ⟨k0, k1, k2, k3, k4⟩) (fun hHeld => ?_)
        clear hK KK
        change wpAnyH _ _ _ _ _ _ _ { tmps := List.toArray (_ :: _ :: _ :: _ :: _ :: _ :: _ :: _ :: _ :: _ :: _ :: _ :: _ :: _ :: .pointer (some ⟨wp.heap.size, 0, none⟩) :: _ :: _ :: _ :: _ :: _ :: _ :: _ :: _ :: _ :: _ :: _ :: _ :: _ :: _ :: _ :: _ :: _ :: _ :: _ :: _ :: _ :: _ :: _ :: _ :: _ :: _ :: _ :: _ :: _ :: _ :: _ :: _ :: _ :: _ :: _ :: _ :: _ :: _ :: _ :: _ :: _ :: _ :: _ :: _ :: _ :: _ :: _ :: _ :: _ :: _ :: _ :: _ :: _ :: _ :: _ :: _ :: _ :: _ :: _ :: _ :: _ :: _ :: _ :: _ :: .tuple #[.agg #[.slice ra8 room.length rc8, .slice a8 rows'.length c8], .int .i64 oc] :: .agg #[.slice ra room.length rc, .slice a rows.length c] :: .agg #[.slice (some ⟨g1, 0, none⟩) room.length room.length, .slice (some ⟨T1, 0, none⟩) rows.length rows.length] :: .agg #[.int .i64 x.f, .int .i64 x.t, .int .i64 x.m] :: .agg #[.int .i64 x.f, .int .i64 x.t, .int .i64 x.m] :: .tuple #[.agg #[.slice ra8 room.length rc8, .slice a8 rows'.length c8], .int .i64 oc] :: .agg #[.slice ra8 room.length rc8, .slice a8 rows'.length c8] :: .int .i64 oc :: _ :: _ :: _ :: _ :: _ :: _ :: _ :: _ :: _ :: _ :: _ :: _ :: _ :: _ :: _ :: _ :: _ :: []), defers := [] } _
        refine wpAnyH_take (i := 10) (v := .int .i64 oc) rfl (by kernel_rfl) (by kernel_rfl) (by kernel_rfl) (fun _ _ _ h => h) (Or.inl ⟨by kernel_rfl, fun w hS => by go_simp⟩) hHeld ?_
        change wpAnyH _ _ _ _ _ _ _ { tmps := List.toArray (_ :: _ :: _ :: _ :: _ :: _ :: _ :: _ :: _ :: _ :: _ :: _ :: _ :: _ :: .pointer (some ⟨wp.heap.size, 0, none⟩) :: .int .i64 oc :: _ :: _ :: _ :: _ :: _ :: _ :: _ :: _ :: _ :: _ :: _ :: _ :: _ :: _ :: _ :: _ :: _ :: _ :: _ :: _ :: _ :: _ :: _ :: _ :: _ :: _ :: _ :: _ :: _ :: _ :: _ :: _ :: _ :: _ :: _ :: _ :: _ :: _ :: _ :: _ :: _ :: _ :: _ :: _ :: _ :: _ :: _ :: _ :: _ :: _ :: _ :: _ :: _ :: _ :: _ :: _ :: _ :: _ :: _ :: _ :: _ :: _ :: _ :: .tuple #[.agg #[.slice ra8 room.length rc8, .slice a8 rows'.length c8], .int .i64 oc] :: .agg #[.slice ra room.length rc, .slice a rows.length c] :: .agg #[.slice (some ⟨g1, 0, none⟩) room.length room.length, .slice (some ⟨T1, 0, none⟩) rows.length rows.length] :: .agg #[.int .i64 x.f, .int .i64 x.t, .int .i64 x.m] :: .agg #[.int .i64 x.f, .int .i64 x.t, .int .i64 x.m] :: .tuple #[.agg #[.slice ra8 room.length rc8, .slice a8 rows'.length c8], .int .i64 oc] :: .agg #[.slice ra8 room.length rc8, .slice a8 rows'.length c8] :: .int .i64 oc :: _ :: _ :: _ :: _ :: _ :: _ :: _ :: _ :: _ :: _ :: _ :: _ :: _ :: _ :: _ :: _ :: _ :: []), defers := [] } _
        refine wpAnyH_done (by kernel_rfl) ?_ _
        go_wp2_with fail
        go_meet
        exact ⟨gotS Bf zB zlo O8, rfl⟩
    · skip
      go_simp
      have Ba := btrans B0 (balloc wd (.cells #[.slice none 0 0, .slice none 0 0] 27))
      have zB : (wd.alloc (.cells #[.slice none 0 0, .slice none 0 0] 27)).heap[wd.heap.size]? = some (.cells #[.slice none 0 0, .slice none 0 0] 27 (0, 0)) := heap_alloc_new wd _
      have zlo : w7.heap.size ≤ wd.heap.size := B0.size
      clear hHeld
      refine hK.out _ _ (by obtain ⟨⟨k0, k1⟩, -⟩ := blk2 (blk_keep Ba A0); obtain ⟨k2, k3, k4⟩ := blk3 (blk_keep Ba A1); exact ⟨k0, k1, k2, k3, k4⟩) (fun hHeld => ?_)
      clear hK KK
      change wpAnyH _ _ _ _ _ _ _ { tmps := List.toArray (_ :: _ :: _ :: _ :: _ :: _ :: _ :: _ :: _ :: _ :: _ :: _ :: _ :: _ :: .pointer (some ⟨wd.heap.size, 0, none⟩) :: _ :: _ :: _ :: _ :: _ :: _ :: _ :: _ :: _ :: _ :: _ :: _ :: _ :: _ :: _ :: _ :: _ :: _ :: _ :: _ :: _ :: _ :: _ :: _ :: _ :: _ :: _ :: _ :: _ :: _ :: _ :: _ :: _ :: _ :: _ :: _ :: _ :: _ :: _ :: _ :: _ :: _ :: _ :: _ :: _ :: _ :: _ :: _ :: _ :: _ :: _ :: _ :: _ :: _ :: _ :: _ :: _ :: _ :: _ :: _ :: _ :: _ :: _ :: _ :: _ :: .agg #[.slice ra room.length rc, .slice a rows.length c] :: _ :: .agg #[.int .i64 x.f, .int .i64 x.t, .int .i64 x.m] :: _ :: _ :: _ :: _ :: _ :: _ :: _ :: _ :: _ :: _ :: _ :: _ :: _ :: _ :: _ :: _ :: _ :: _ :: _ :: _ :: _ :: []), defers := [] } _
      refine wpAnyH_ready (rs := [1]) (by kernel_rfl) (by simp) ?_
      refine (AllReadyH.cons rfl (fun KK hK => ?_) AllReadyH.nil)
      go_simp
      refine (CT _ (hM.below (btrans HB Ba)) (hR.below (btrans HB Ba))).mono ?_
      rintro e wp ⟨g1, T1, vs1, rfl, S1, hb⟩
      have Bp := btrans Ba hb
      have zB := blk_keep hb zB
      clear hb
      go_wp2_with fail
      clear hHeld
      refine hK.out _ _ (by obtain ⟨⟨k0, k1⟩, -⟩ := blk2 (blk_keep Bp A0); obtain ⟨k2, k3, k4⟩ := blk3 (blk_keep Bp A1); exact ⟨k0, k1, k2, k3, k4⟩) (fun hHeld => ?_)
      clear hK KK
      change wpAnyH _ _ _ _ _ _ _ { tmps := List.toArray (_ :: _ :: _ :: _ :: _ :: _ :: _ :: _ :: _ :: _ :: _ :: _ :: _ :: _ :: .pointer (some ⟨wd.heap.size, 0, none⟩) :: _ :: _ :: _ :: _ :: _ :: _ :: _ :: _ :: _ :: _ :: _ :: _ :: _ :: _ :: _ :: _ :: _ :: _ :: _ :: _ :: _ :: _ :: _ :: _ :: _ :: _ :: _ :: _ :: _ :: _ :: _ :: _ :: _ :: _ :: _ :: _ :: _ :: _ :: _ :: _ :: _ :: _ :: _ :: _ :: _ :: _ :: _ :: _ :: _ :: _ :: _ :: _ :: _ :: _ :: _ :: _ :: _ :: _ :: _ :: _ :: _ :: _ :: _ :: _ :: _ :: .agg #[.slice ra room.length rc, .slice a rows.length c] :: .agg #[.slice (some ⟨g1, 0, none⟩) room.length room.length, .slice (some ⟨T1, 0, none⟩) rows.length rows.length] :: .agg #[.int .i64 x.f, .int .i64 x.t, .int .i64 x.m] :: _ :: _ :: _ :: _ :: _ :: _ :: _ :: _ :: _ :: _ :: _ :: _ :: _ :: _ :: _ :: _ :: _ :: _ :: _ :: _ :: _ :: []), defers := [] } _
      refine wpAnyH_ready (rs := [3]) (by kernel_rfl) (by simp) ?_
      refine (AllReadyH.cons rfl (fun KK hK => ?_) AllReadyH.nil)
      go_simp
      refine (TM _).mono ?_
      rintro e wq ⟨rfl, hb⟩
      have Bq := btrans Bp hb
      have S1 := S1.below hb
      have zB := blk_keep hb zB
      clear hb
      go_wp2_with fail
      clear hHeld
      refine hK.out _ _ (by obtain ⟨⟨k0, k1⟩, -⟩ := blk2 (blk_keep Bq A0); obtain ⟨k2, k3, k4⟩ := blk3 (blk_keep Bq A1); exact ⟨k0, k1, k2, k3, k4⟩) (fun hHeld => ?_)
      clear hK KK
      change wpAnyH _ _ _ _ _ _ _ { tmps := List.toArray (_ :: _ :: _ :: _ :: _ :: _ :: _ :: _ :: _ :: _ :: _ :: _ :: _ :: _ :: .pointer (some ⟨wd.heap.size, 0, none⟩) :: _ :: _ :: _ :: _ :: _ :: _ :: _ :: _ :: _ :: _ :: _ :: _ :: _ :: _ :: _ :: _ :: _ :: _ :: _ :: _ :: _ :: _ :: _ :: _ :: _ :: _ :: _ :: _ :: _ :: _ :: _ :: _ :: _ :: _ :: _ :: _ :: _ :: _ :: _ :: _ :: _ :: _ :: _ :: _ :: _ :: _ :: _ :: _ :: _ :: _ :: _ :: _ :: _ :: _ :: _ :: _ :: _ :: _ :: _ :: _ :: _ :: _ :: _ :: _ :: _ :: .agg #[.slice ra room.length rc, .slice a rows.length c] :: .agg #[.slice (some ⟨g1, 0, none⟩) room.length room.length, .slice (some ⟨T1, 0, none⟩) rows.length rows.length] :: .agg #[.int .i64 x.f, .int .i64 x.t, .int .i64 x.m] :: .agg #[.int .i64 x.f, .int .i64 x.t, .int .i64 x.m] :: _ :: _ :: _ :: _ :: _ :: _ :: _ :: _ :: _ :: _ :: _ :: _ :: _ :: _ :: _ :: _ :: _ :: _ :: _ :: _ :: []), defers := [] } _
      refine wpAnyH_ready (rs := [4]) (by kernel_rfl) (by simp) ?_
      refine (AllReadyH.cons rfl (fun KK hK => ?_) AllReadyH.nil)
      go_simp
      obtain ⟨ra1, rc1, a1, c1, e1, e2, I1, R1, -⟩ := S1.arg
      have C := CI ra1 rc1 a1 c1 vs1 _ I1 R1
      rw [← e1, ← e2] at C
      clear e1 e2 I1 R1
      refine C.mono ?_
      rintro e wf ⟨rv8, v8, vs8, rfl, O8, hb⟩
      have Bf := btrans Bq hb
      have zB := blk_keep hb zB
      replace O8 := O8.base Bq.size
      obtain ⟨ra8, rc8, a8, c8, rfl, rfl, -⟩ := O8.arg
      clear hb C
      go_wp2_with fail
      clear hHeld
      refine hK.out _ _ (by obtain ⟨⟨k0, k1⟩, -⟩ := blk2 (blk_keep Bf A0); obtain ⟨k2, k3, k4⟩ := blk3 (blk_keep Bf A1); exact ⟨k0, k1, k2, k3, k4⟩) (fun hHeld => ?_)
      clear hK KK
      change wpAnyH _ _ _ _ _ _ _ { tmps := List.toArray (_ :: _ :: _ :: _ :: _ :: _ :: _ :: _ :: _ :: _ :: _ :: _ :: _ :: _ :: .pointer (some ⟨wd.heap.size, 0, none⟩) :: _ :: _ :: _ :: _ :: _ :: _ :: _ :: _ :: _ :: _ :: _ :: _ :: _ :: _ :: _ :: _ :: _ :: _ :: _ :: _ :: _ :: _ :: _ :: _ :: _ :: _ :: _ :: _ :: _ :: _ :: _ :: _ :: _ :: _ :: _ :: _ :: _ :: _ :: _ :: _ :: _ :: _ :: _ :: _ :: _ :: _ :: _ :: _ :: _ :: _ :: _ :: _ :: _ :: _ :: _ :: _ :: _ :: _ :: _ :: _ :: _ :: _ :: _ :: _ :: _ :: .agg #[.slice ra room.length rc, .slice a rows.length c] :: .agg #[.slice (some ⟨g1, 0, none⟩) room.length room.length, .slice (some ⟨T1, 0, none⟩) rows.length rows.length] :: .agg #[.int .i64 x.f, .int .i64 x.t, .int .i64 x.m] :: .agg #[.int .i64 x.f, .int .i64 x.t, .int .i64 x.m] :: .tuple #[.agg #[.slice ra8 room.length rc8, .slice a8 rows'.length c8], .int .i64 oc] :: _ :: _ :: _ :: _ :: _ :: _ :: _ :: _ :: _ :: _ :: _ :: _ :: _ :: _ :: _ :: _ :: _ :: _ :: _ :: []), defers := [] } _
      refine wpAnyH_take (i := 5) (v := .tuple #[.agg #[.slice ra8 room.length rc8, .slice a8 rows'.length c8], .int .i64 oc]) rfl (by kernel_rfl) (by kernel_rfl) (by kernel_rfl) (fun _ _ _ h => h) (Or.inl ⟨by kernel_rfl, fun w hS => by go_simp⟩) hHeld ?_
      change wpAnyH _ _ _ _ _ _ _ { tmps := List.toArray (_ :: _ :: _ :: _ :: _ :: _ :: _ :: _ :: _ :: _ :: _ :: _ :: _ :: _ :: .pointer (some ⟨wd.heap.size, 0, none⟩) :: _ :: _ :: _ :: _ :: _ :: _ :: _ :: _ :: _ :: _ :: _ :: _ :: _ :: _ :: _ :: _ :: _ :: _ :: _ :: _ :: _ :: _ :: _ :: _ :: _ :: _ :: _ :: _ :: _ :: _ :: _ :: _ :: _ :: _ :: _ :: _ :: _ :: _ :: _ :: _ :: _ :: _ :: _ :: _ :: _ :: _ :: _ :: _ :: _ :: _ :: _ :: _ :: _ :: _ :: _ :: _ :: _ :: _ :: _ :: _ :: _ :: _ :: _ :: _ :: .tuple #[.agg #[.slice ra8 room.length rc8, .slice a8 rows'.length c8], .int .i64 oc] :: .agg #[.slice ra room.length rc, .slice a rows.length c] :: .agg #[.slice (some ⟨g1, 0, none⟩) room.length room.length, .slice (some ⟨T1, 0, none⟩) rows.length rows.length] :: .agg #[.int .i64 x.f, .int .i64 x.t, .int .i64 x.m] :: .agg #[.int .i64 x.f, .int .i64 x.t, .int .i64 x.m] :: .tuple #[.agg #[.slice ra8 room.length rc8, .slice a8 rows'.length c8], .int .i64 oc] :: _ :: _ :: _ :: _ :: _ :: _ :: _ :: _ :: _ :: _ :: _ :: _ :: _ :: _ :: _ :: _ :: _ :: _ :: _ :: []), defers := [] } _
      refine wpAnyH_take (i := 6) (v := .agg #[.slice ra8 room.length rc8, .slice a8 rows'.length c8]) rfl (by kernel_rfl) (by kernel_rfl) (by kernel_rfl) (fun _ _ _ h => h) (Or.inl ⟨by kernel_rfl, fun w hS => by go_simp⟩) hHeld ?_
      change wpAnyH _ _ _ _ _ _ _ { tmps := List.toArray (_ :: _ :: _ :: _ :: _ :: _ :: _ :: _ :: _ :: _ :: _ :: _ :: _ :: _ :: .pointer (some ⟨wd.heap.size, 0, none⟩) :: _ :: _ :: _ :: _ :: _ :: _ :: _ :: _ :: _ :: _ :: _ :: _ :: _ :: _ :: _ :: _ :: _ :: _ :: _ :: _ :: _ :: _ :: _ :: _ :: _ :: _ :: _ :: _ :: _ :: _ :: _ :: _ :: _ :: _ :: _ :: _ :: _ :: _ :: _ :: _ :: _ :: _ :: _ :: _ :: _ :: _ :: _ :: _ :: _ :: _ :: _ :: _ :: _ :: _ :: _ :: _ :: _ :: _ :: _ :: _ :: _ :: _ :: _ :: _ :: .tuple #[.agg #[.slice ra8 room.length rc8, .slice a8 rows'.length c8], .int .i64 oc] :: .agg #[.slice ra room.length rc, .slice a rows.length c] :: .agg #[.slice (some ⟨g1, 0, none⟩) room.length room.length, .slice (some ⟨T1, 0, none⟩) rows.length rows.length] :: .agg #[.int .i64 x.f, .int .i64 x.t, .int .i64 x.m] :: .agg #[.int .i64 x.f, .int .i64 x.t, .int .i64 x.m] :: .tuple #[.agg #[.slice ra8 room.length rc8, .slice a8 rows'.length c8], .int .i64 oc] :: .agg #[.slice ra8 room.length rc8, .slice a8 rows'.length c8] :: _ :: _ :: _ :: _ :: _ :: _ :: _ :: _ :: _ :: _ :: _ :: _ :: _ :: _ :: _ :: _ :: _ :: _ :: []), defers := [] } _
      refine wpAnyH_take (i := 7) (v := .int .i64 oc) rfl (by kernel_rfl) (by kernel_rfl) (by kernel_rfl) (fun _ _ _ h => h) (Or.inl ⟨by kernel_rfl, fun w hS => by go_simp⟩) hHeld ?_
      change wpAnyH _ _ _ _ _ _ _ { tmps := List.toArray (_ :: _ :: _ :: _ :: _ :: _ :: _ :: _ :: _ :: _ :: _ :: _ :: _ :: _ :: .pointer (some ⟨wd.heap.size, 0, none⟩) :: _ :: _ :: _ :: _ :: _ :: _ :: _ :: _ :: _ :: _ :: _ :: _ :: _ :: _ :: _ :: _ :: _ :: _ :: _ :: _ :: _ :: _ :: _ :: _ :: _ :: _ :: _ :: _ :: _ :: _ :: _ :: _ :: _ :: _ :: _ :: _ :: _ :: _ :: _ :: _ :: _ :: _ :: _ :: _ :: _ :: _ :: _ :: _ :: _ :: _ :: _ :: _ :: _ :: _ :: _ :: _ :: _ :: _ :: _ :: _ :: _ :: _ :: _ :: _ :: .tuple #[.agg #[.slice ra8 room.length rc8, .slice a8 rows'.length c8], .int .i64 oc] :: .agg #[.slice ra room.length rc, .slice a rows.length c] :: .agg #[.slice (some ⟨g1, 0, none⟩) room.length room.length, .slice (some ⟨T1, 0, none⟩) rows.length rows.length] :: .agg #[.int .i64 x.f, .int .i64 x.t, .int .i64 x.m] :: .agg #[.int .i64 x.f, .int .i64 x.t, .int .i64 x.m] :: .tuple #[.agg #[.slice ra8 room.length rc8, .slice a8 rows'.length c8], .int .i64 oc] :: .agg #[.slice ra8 room.length rc8, .slice a8 rows'.length c8] :: .int .i64 oc :: _ :: _ :: _ :: _ :: _ :: _ :: _ :: _ :: _ :: _ :: _ :: _ :: _ :: _ :: _ :: _ :: _ :: []), defers := [] } _
      refine wpAnyH_ready (rs := [9]) (by kernel_rfl) (by simp) ?_
      refine (AllReadyH.cons rfl (fun KK hK => ?_) AllReadyH.nil)
      obtain ⟨⟨z0, z1⟩, y0, y1⟩ := blk2 zB
      have Bs : Below w7.heap.size w7 ((wf.setCell ⟨wd.heap.size, 0, none⟩ (.slice ra8 room.length rc8)).setCell ⟨wd.heap.size, 1, none⟩ (.slice a8 rows'.length c8)) := below_set zlo (below_set zlo Bf)
      go_simp
      clear hHeld
      refine hK.out _ _ (by obtain ⟨⟨k0, k1⟩, -⟩ := blk2 (blk_keep Bs A0); obtain ⟨k2, k3, k4⟩ := blk3 (blk_keep Bs A1); exact ⟨k0, k1, k2, k3, k4⟩) (fun hHeld => ?_)
      clear hK KK
      change wpAnyH _ _ _ _ _ _ _ { tmps := List.toArray (_ :: _ :: _ :: _ :: _ :: _ :: _ :: _ :: _ :: _ :: _ :: _ :: _ :: _ :: .pointer (some ⟨wd.heap.size, 0, none⟩) :: _ :: _ :: _ :: _ :: _ :: _ :: _ :: _ :: _ :: _ :: _ :: _ :: _ :: _ :: _ :: _ :: _ :: _ :: _ :: _ :: _ :: _ :: _ :: _ :: _ :: _ :: _ :: _ :: _ :: _ :: _ :: _ :: _ :: _ :: _ :: _ :: _ :: _ :: _ :: _ :: _ :: _ :: _ :: _ :: _ :: _ :: _ :: _ :: _ :: _ :: _ :: _ :: _ :: _ :: _ :: _ :: _ :: _ :: _ :: _ :: _ :: _ :: _ :: _ :: .tuple #[.agg #[.slice ra8 room.length rc8, .slice a8 rows'.length c8], .int .i64 oc] :: .agg #[.slice ra room.length rc, .slice a rows.length c] :: .agg #[.slice (some ⟨g1, 0, none⟩) room.length room.length, .slice (some ⟨T1, 0, none⟩) rows.length rows.length] :: .agg #[.int .i64 x.f, .int .i64 x.t, .int .i64 x.m] :: .agg #[.int .i64 x.f, .int .i64 x.t, .int .i64 x.m] :: .tuple #[.agg #[.slice ra8 room.length rc8, .slice a8 rows'.length c8], .int .i64 oc] :: .agg #[.slice ra8 room.length rc8, .slice a8 rows'.length c8] :: .int .i64 oc :: _ :: _ :: _ :: _ :: _ :: _ :: _ :: _ :: _ :: _ :: _ :: _ :: _ :: _ :: _ :: _ :: _ :: []), defers := [] } _
      refine wpAnyH_take (i := 10) (v := .int .i64 oc) rfl (by kernel_rfl) (by kernel_rfl) (by kernel_rfl) (fun _ _ _ h => h) (Or.inl ⟨by kernel_rfl, fun w hS => by go_simp⟩) hHeld ?_
      change wpAnyH _ _ _ _ _ _ _ { tmps := List.toArray (_ :: _ :: _ :: _ :: _ :: _ :: _ :: _ :: _ :: _ :: _ :: _ :: _ :: _ :: .pointer (some ⟨wd.heap.size, 0, none⟩) :: .int .i64 oc :: _ :: _ :: _ :: _ :: _ :: _ :: _ :: _ :: _ :: _ :: _ :: _ :: _ :: _ :: _ :: _ :: _ :: _ :: _ :: _ :: _ :: _ :: _ :: _ :: _ :: _ :: _ :: _ :: _ :: _ :: _ :: _ :: _ :: _ :: _ :: _ :: _ :: _ :: _ :: _ :: _ :: _ :: _ :: _ :: _ :: _ :: _ :: _ :: _ :: _ :: _ :: _ :: _ :: _ :: _ :: _ :: _ :: _ :: _ :: _ :: _ :: _ :: _ :: .tuple #[.agg #[.slice ra8 room.length rc8, .slice a8 rows'.length c8], .int .i64 oc] :: .agg #[.slice ra room.length rc, .slice a rows.length c] :: .agg #[.slice (some ⟨g1, 0, none⟩) room.length room.length, .slice (some ⟨T1, 0, none⟩) rows.length rows.length] :: .agg #[.int .i64 x.f, .int .i64 x.t, .int .i64 x.m] :: .agg #[.int .i64 x.f, .int .i64 x.t, .int .i64 x.m] :: .tuple #[.agg #[.slice ra8 room.length rc8, .slice a8 rows'.length c8], .int .i64 oc] :: .agg #[.slice ra8 room.length rc8, .slice a8 rows'.length c8] :: .int .i64 oc :: _ :: _ :: _ :: _ :: _ :: _ :: _ :: _ :: _ :: _ :: _ :: _ :: _ :: _ :: _ :: _ :: _ :: []), defers := [] } _
      refine wpAnyH_done (by kernel_rfl) ?_ _
      go_wp2_with fail
      go_meet
      exact ⟨gotS Bf zB zlo O8, rfl⟩
  case rest =>
  clear x0 x1 m0 m1 m2
  obtain ⟨⟨⟨bH, rvH, vH, vsH, rfl, KH, SH, loH⟩, hb⟩, rfl⟩ := hcut
  replace HB := btrans HB hb
  replace A0 := blk_keep hb A0
  replace A1 := blk_keep hb A1
  replace KW := blk_keep hb KW
  replace X0 := blk_keep hb X0
  replace KG := blk_keep hb KG
  replace SW := SW.below hb
  replace QG := QG.below hb
  clear hb
  obtain ⟨raH, rcH, aH, cH, rfl, rfl, -⟩ := SH.arg
  obtain ⟨⟨kh0, kh1⟩, -⟩ := blk2 KH
  obtain ⟨⟨kw0, kw1⟩, -⟩ := blk2 KW
  go_wp2_with fail
  refine (cEqSid _ _ _ _ _ _ _ _ room rows' _ SH SW lM lR' lr').mono ?_
  rintro e w8 ⟨rfl, hb⟩
  replace HB := btrans HB hb
  replace A0 := blk_keep hb A0
  replace A1 := blk_keep hb A1
  replace KW := blk_keep hb KW
  replace X0 := blk_keep hb X0
  replace KG := blk_keep hb KG
  replace KH := blk_keep hb KH
  replace SW := SW.below hb
  replace QG := QG.below hb
  replace SH := SH.below hb
  clear hb
  clear kh0 kh1 kw0 kw1
  obtain ⟨⟨x0, x1⟩, -⟩ := blk2 KG
  go_wp2_with fail
  refine (CHd _ QG).mono ?_
  rintro e w9 ⟨rfl, hb⟩
  replace HB := btrans HB hb
  replace A0 := blk_keep hb A0
  replace A1 := blk_keep hb A1
  replace KW := blk_keep hb KW
  replace X0 := blk_keep hb X0
  replace KG := blk_keep hb KG
  replace KH := blk_keep hb KH
  replace SW := SW.below hb
  replace QG := QG.below hb
  replace SH := SH.below hb
  clear hb
  clear x0 x1
  go_wp2
  go_ret
  exact ⟨rfl, HB⟩
end Go.Proofs.Ytipechbhhpagiaa
