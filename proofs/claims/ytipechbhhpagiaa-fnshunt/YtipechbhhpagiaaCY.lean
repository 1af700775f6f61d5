/- The yard of the program: out of sidings, and back. -/
import Derived.Test.YtipechbhhpagiaaLM
import Derived.Test.YtipechbhhpagiaaCH
import Derived.Test.YtipechbhhpagiaaWK
namespace Go.Proofs.Ytipechbhhpagiaa
open Go.RowKit
/-- A yard in memory of its own. -/
structure YardO (B : Nat) (w : World) (Y : Nat) (rv v : Value) (vs : List Value) (room : List Int) (rows : List (List Int)) : Prop where
  low : B ≤ Y
  blk : w.heap[Y]? = some (.cells #[rv, v] 92 (0, 0))
  room : RowI w B rv room
  tab : TabR 94 B w v vs rows
  far : ∀ j, (hj : j < vs.length) → ∀ k, vs[j].ownBlock = some k → rv.ownBlock ≠ some k
theorem YardO.keep {B Y : Nat} {w w' : World} {rv v : Value} {vs : List Value} {room : List Int} {rows : List (List Int)} (h : YardO B w Y rv v vs room rows) (hb : Below w.heap.size w w') : YardO B w' Y rv v vs room rows :=
  ⟨h.low, (hb.block Y (lt_of_block h.blk)).trans h.blk, h.room.below hb, h.tab.below hb, h.far⟩
theorem YardO.base {B B' Y : Nat} {w : World} {rv v : Value} {vs : List Value} {room : List Int} {rows : List (List Int)} (h : YardO B w Y rv v vs room rows) (hB : B' ≤ B) : YardO B' w Y rv v vs room rows := ⟨Nat.le_trans hB h.low, h.blk, h.room.base hB, h.tab.base hB, h.far⟩
theorem row_blk_ne {B : Nat} {w : World} {u : Value} {xs : List Int} {g : Nat} {cs : Array Value} {t : TypeId} (h : RowI w B u xs) (hg : w.heap[g]? = some (.cells cs t (0, 0))) (ht : t ≠ 3) : ∀ k, u.ownBlock = some k → k ≠ g := by
  intro k hk e
  subst e
  obtain ⟨-, -, c, h1⟩ := h.blk k hk
  rw [h1] at hg
  simp only [Option.some.injEq, Obj.cells.injEq] at hg
  exact ht hg.2.1.symm
theorem own_blk_ne {B e n : Nat} {w : World} {u : Value} {xs : List Value} {g : Nat} {cs : Array Value} {t : TypeId} (h : w.ownsRow B e 1 u n xs) (hg : w.heap[g]? = some (.cells cs t (0, 0))) (ht : t ≠ e) : ∀ k, u.ownBlock = some k → k ≠ g := by
  intro k hk e1
  subst e1
  obtain ⟨-, -, c, h1⟩ := own_type h k hk
  rw [h1] at hg
  simp only [Option.some.injEq, Obj.cells.injEq] at hg
  exact ht hg.2.1.symm
set_option maxHeartbeats 800000 in
theorem cStackOf (a : Option Addr) (cap : Nat) (l : List Int) (w : World) (he : Ints w a l) (hl : l.length ≤ 1048576) :
    Calls Try.prog 76 #[.slice a l.length cap] w fun e w' => ∃ va vc, e = .returned (.agg #[.slice va l.length vc]) ∧ w'.ownsRow w.heap.size 3 1 (.slice va l.length vc) l.length (enc l) ∧ Below w.heap.size w w' := by
  have hb0 := balloc w (.cells #[.slice none 0 0] 94)
  have k0 := heap_alloc_new w (.cells #[.slice none 0 0] 94)
  go_enter Try.func76, Try.ntmps76
  go_wp2_with fail
  refine (cClone a cap l _ (he.below hb0) hl).mono ?_
  rintro e w1 ⟨v, rfl, hO, hb⟩
  obtain ⟨va, vc, rfl⟩ := own_form hO
  have k1 := (hb.block w.heap.size (by rw [sz1]; omega)).trans k0
  have c1 : w1.cell? ⟨w.heap.size, 0, none⟩ = some (.slice none 0 0) := by rw [cell_blk k1]; rfl
  have f1 := frozen_of_row w1 w.heap.size 0 _ _ k1
  have HB := below_set (b := w.heap.size) (o := 0) (v := .slice va l.length vc) (Nat.le_refl _) (btrans hb0 hb)
  have hO2 := own_set (i := 0) (b := w.heap.size) (u := .slice va l.length vc) hO (fun k hk e => by have := own_from hO (Nat.le_refl _) k hk; rw [sz1] at this; omega)
  have hO3 := RowI.own_below (B' := w.heap.size) hO2 (by rw [sz1]; omega)
  clear hO hO2 hb hb0 k0
  go_wp2
  refine bodyPost_ret (v := .agg #[.slice va l.length vc]) (by simp [results, Try.results76, c1, go_sem]) rfl ?_
  exact ⟨va, vc, rfl, hO3, HB⟩
theorem TabR.same {e B : Nat} {w w' : World} {v : Value} {vs : List Value} {xss : List (List Int)} (h : TabR e B w v vs xss) (hv : ∀ k, v.ownBlock = some k → w'.heap[k]? = w.heap[k]?) (hr : ∀ j, (hj : j < vs.length) → ∀ k, vs[j].ownBlock = some k → w'.heap[k]? = w.heap[k]?) : TabR e B w' v vs xss :=
  ⟨own_same h.own hv, fun j hj => (h.each j hj).same (hr j hj), h.pair⟩
/-- One row more in a yard. -/
theorem YardO.more {B Y : Nat} {w2 w3 : World} {rv v v2 u : Value} {vs : List Value} {room X : List Int} {rows : List (List Int)} (h : YardO B w2 Y rv v vs room rows)
    (hown : w3.ownsRow B 94 1 v2 (rows.length + 1) (vs ++ [u])) (hgrow : w2.grownBy w3 v.ownBlock) (hT : RowI w2 B u X) (hnew : ∀ k, u.ownBlock = some k → rv.ownBlock ≠ some k ∧ ∀ j, (hj : j < vs.length) → vs[j].ownBlock ≠ some k) :
    YardO B (w3.setCell ⟨Y, 1, none⟩ v2) Y rv v2 (vs ++ [u]) room (rows ++ [X]) := by
  have hP := h.tab.push (by decide) hown hgrow hT (fun j hj k hk e => (hnew k e).2 j hj hk)
  have hY3 : w3.heap[Y]? = some (.cells #[rv, v] 92 (0, 0)) := (hgrow.block Y (lt_of_block h.blk) (fun e => own_blk_ne h.tab.own h.blk (by decide) Y e.symm rfl)).trans h.blk
  have hR3 := h.room.far hgrow (fun k hk => row_apart h.tab.own h.room (by decide) k hk)
  refine ⟨h.low, ?_, hR3.same (fun k hk => heap_setCell (row_blk_ne hR3 hY3 (by decide) k hk)), hP.same (fun k hk => heap_setCell (own_blk_ne hP.own hY3 (by decide) k hk)) (fun j hj k hk => heap_setCell (row_blk_ne (hP.each j hj) hY3 (by decide) k hk)), ?_⟩
  · rw [heap_setCell_same w3 Y 1 _ _ _ hY3]; rfl
  · intro j hj k hk
    by_cases hjl : j < vs.length
    · rw [List.getElem_append_left hjl] at hk; exact h.far j hjl k hk
    · obtain rfl : j = vs.length := by simp at hj; omega
      simp at hk
      exact (hnew k hk).1

set_option maxRecDepth 20000 in
set_option maxHeartbeats 12800000 in
/-- A yard out of sidings. -/
theorem cYardOf (ra : Option Addr) (rc : Nat) (room : List Int) (a : Option Addr) (c : Nat) (us : List Value) (rows : List (List Int)) (w : World) (hM : Ints w ra room) (hR : RowsW w a us rows) (lM : room.length ≤ 1048576) (lR : rows.length ≤ 1048576) (lr : ∀ i, i < rows.length → (rwA rows i).length ≤ 1048576) :
    Calls Try.prog 51 #[.agg #[.slice ra room.length rc, .slice a rows.length c]] w fun e w' => ∃ Y rv v vs, e = .returned (.tuple #[.pointer (some ⟨Y, 0, none⟩), .bool (sidB room rows)]) ∧ YardO w.heap.size w' Y rv v vs room rows ∧ Below w.heap.size w w' := by
  obtain ⟨i1, hi1, hy0, hy1, hy2⟩ := info_parts infoSt
  have HB := balloc w (.cells #[.slice ra room.length rc, .slice a rows.length c] 27)
  have KS := heap_alloc_new w (.cells #[.slice ra room.length rc, .slice a rows.length c] 27)
  go_enter Try.func51, Try.ntmps51
  go_wp2_with fail
  refine (cClone ra rc room _ (hM.below HB) lM).mono ?_
  rintro e w1 ⟨rv, rfl, hO, hb⟩
  obtain ⟨va, vc, hrv⟩ := own_form hO
  have hb2 := balloc w1 (.cells #[rv, .slice none 0 0] 92)
  have hY0 : YardO w.heap.size (w1.alloc (.cells #[rv, .slice none 0 0] 92)) w1.heap.size rv (.slice none 0 0) [] room [] := ⟨by have := HB.size; have := hb.size; omega, heap_alloc_new w1 _, RowI.base (RowI.below (.inl hO) hb2) (by have := HB.size; omega), TabR.nil _ _ _, fun j hj => by simp at hj⟩
  have KS1 := blk_keep hb2 (blk_keep hb KS)
  have HB1 := btrans (btrans HB hb) hb2
  obtain ⟨⟨x0, x1⟩, -⟩ := blk2 KS1
  have hYs : w.heap.size < w1.heap.size := by have := lt_of_block (blk_keep hb KS); omega
  have hcell := hide hR.cell
  have heach := hide hR.each
  have hvl := hide hR.len
  clear hO hb hb2 HB KS
  subst hrv
  go_wp2
  generalize hYb : w1.heap.size = Y at *
  generalize hrvE : (Value.slice va room.length vc) = rv at *
  clear hrvE x0 x1
  go_loopw [6, 15] (fun _ i wr => ∃ (k : Nat) (v : Value) (vs : List Value), k ≤ rows.length ∧ i = .int .i64 k ∧ YardO w.heap.size wr Y rv v vs room (rows.take k) ∧ wr.heap[w.heap.size]? = some (.cells #[.slice ra room.length rc, .slice a rows.length c] 27 (0, 0)) ∧ Below w.heap.size w wr) (fun _ i _ => rows.length - (intOf i).toNat)
  case atStart => exact ⟨0, _, [], by omega, rfl, by simpa using hY0, KS1, HB1⟩
  case round =>
    obtain ⟨k, v, vs, hk, rfl, hY, KS, HB⟩ := hrel
    clear hY0 KS1 HB1
    by_cases hlt : k < rows.length
    · obtain ⟨bb, off, rfl, hc⟩ : ∃ b off, a = some ⟨b, off, none⟩ ∧ ∀ i, (hi : i < us.length) → w.cell? ⟨b, off + i, none⟩ = some us[i] := by
        rcases hcell.out with h | h
        · simp [h] at hlt
        · exact h
      have hku : k < us.length := by have := hvl.out; omega
      obtain ⟨ai, ci, hv, hI, -⟩ := heach.out k hku
      have p2 := ble HB (hc k hku)
      rw [hv] at p2
      have HBd : Below w.heap.size w wr.drew := bdraw HB 1
      have hYd : YardO w.heap.size wr.drew Y rv v vs room (rows.take k) := hY.keep (bdraw (Below.refl _ _) 1)
      have KSd : wr.drew.heap[w.heap.size]? = _ := blk_keep (bdraw (Below.refl _ _) 1) KS
      have CS := cStackOf ai ci (rwA rows k) wr.drew (hI.below HBd) (lr k hlt)
      have hsd : w.heap.size ≤ wr.drew.heap.size := HBd.size
      obtain ⟨va, vc, hva⟩ := own_form hYd.tab.own
      have hst : Hid (rows.take (k + 1) = rows.take k ++ [rwA rows k]) := hide (by rw [List.take_succ_eq_append_getElem hlt]; simp [rwA, List.getD, hlt])
      have hNl : Hid ((rows.take k).length = k) := hide (by rw [List.length_take]; omega)
      rw [hNl.out] at hva
      subst hva
      obtain ⟨⟨-, q1⟩, -⟩ := blk2 hYd.blk
      clear hc hv hI hY KS
      generalize hLl : (rwA rows k).length = L at *
      replace hLl := hide hLl
      go_wp2_with fail
      refine wp_region_held_drew (S := (fun _ => True)) (by kernel_rfl) ?_ (fun hHeld => ?_)
      · exact trivial
      refine wpAnyH_take (i := 0) (v := .pointer (some ⟨Y, 0, none⟩)) rfl (by kernel_rfl) (by kernel_rfl) (by kernel_rfl) (fun _ _ _ h => h) (Or.inl ⟨by kernel_rfl, fun w hS => by go_simp⟩) hHeld ?_
      change wpAnyH _ _ _ _ _ _ _ { tmps := List.toArray (_ :: _ :: _ :: _ :: _ :: _ :: _ :: _ :: _ :: _ :: _ :: _ :: _ :: _ :: _ :: _ :: _ :: _ :: _ :: .pointer (some ⟨Y, 0, none⟩) :: _ :: _ :: _ :: _ :: _ :: _ :: _ :: _ :: _ :: _ :: _ :: _ :: _ :: _ :: []), defers := [] } _
      refine wpAnyH_take (i := 1) (v := .pointer (some ⟨Y, 0, none⟩)) rfl (by kernel_rfl) (by kernel_rfl) (by kernel_rfl) (fun _ _ _ h => h) (Or.inl ⟨by kernel_rfl, fun w hS => by go_simp⟩) hHeld ?_
      change wpAnyH _ _ _ _ _ _ _ { tmps := List.toArray (_ :: _ :: _ :: _ :: _ :: _ :: _ :: _ :: _ :: _ :: _ :: _ :: _ :: _ :: _ :: _ :: _ :: _ :: _ :: .pointer (some ⟨Y, 0, none⟩) :: .pointer (some ⟨Y, 0, none⟩) :: _ :: _ :: _ :: _ :: _ :: _ :: _ :: _ :: _ :: _ :: _ :: _ :: _ :: []), defers := [] } _
      refine wpAnyH_take (i := 2) (v := .pointer (some ⟨Y, 0, none⟩)) rfl (by kernel_rfl) (by kernel_rfl) (by kernel_rfl) (fun _ _ _ h => h) (Or.inl ⟨by kernel_rfl, fun w hS => by go_simp⟩) hHeld ?_
      change wpAnyH _ _ _ _ _ _ _ { tmps := List.toArray (_ :: _ :: _ :: _ :: _ :: _ :: _ :: _ :: _ :: _ :: _ :: _ :: _ :: _ :: _ :: _ :: _ :: _ :: _ :: .pointer (some ⟨Y, 0, none⟩) :: .pointer (some ⟨Y, 0, none⟩) :: .pointer (some ⟨Y, 0, none⟩) :: _ :: _ :: _ :: _ :: _ :: _ :: _ :: _ :: _ :: _ :: _ :: _ :: []), defers := [] } _
      refine wpAnyH_take (i := 3) (v := .pointer (some ⟨Y, 1, none⟩)) rfl (by kernel_rfl) (by kernel_rfl) (by kernel_rfl) (fun _ _ _ h => h) (Or.inl ⟨by kernel_rfl, fun w hS => by go_simp⟩) hHeld ?_
      change wpAnyH _ _ _ _ _ _ _ { tmps := List.toArray (_ :: _ :: _ :: _ :: _ :: _ :: _ :: _ :: _ :: _ :: _ :: _ :: _ :: _ :: _ :: _ :: _ :: _ :: _ :: .pointer (some ⟨Y, 0, none⟩) :: .pointer (some ⟨Y, 0, none⟩) :: .pointer (some ⟨Y, 0, none⟩) :: .pointer (some ⟨Y, 1, none⟩) :: _ :: _ :: _ :: _ :: _ :: _ :: _ :: _ :: _ :: _ :: _ :: []), defers := [] } _
      refine wpAnyH_take (i := 5) (v := .slice ai L ci) rfl (by kernel_rfl) (by kernel_rfl) (by kernel_rfl) (fun _ _ _ h => h) (Or.inl ⟨by kernel_rfl, fun w hS => by go_simp⟩) hHeld ?_
      change wpAnyH _ _ _ _ _ _ _ { tmps := List.toArray (_ :: _ :: _ :: _ :: _ :: _ :: _ :: _ :: _ :: _ :: _ :: _ :: _ :: _ :: _ :: _ :: _ :: _ :: _ :: .pointer (some ⟨Y, 0, none⟩) :: .pointer (some ⟨Y, 0, none⟩) :: .pointer (some ⟨Y, 0, none⟩) :: .pointer (some ⟨Y, 1, none⟩) :: _ :: .slice ai L ci :: _ :: _ :: _ :: _ :: _ :: _ :: _ :: _ :: _ :: []), defers := [] } _
      refine wpAnyH_ready (rs := [4, 6]) (by kernel_rfl) (by simp) ?_
      refine (AllReadyH.cons rfl (fun KK hK => ?_) (AllReadyH.cons rfl (fun KK hK => ?_) AllReadyH.nil))
      · skip
        go_simp
        clear hHeld
        refine hK.out _ _ (trivial) (fun hHeld => ?_)
        clear hK KK
        change wpAnyH _ _ _ _ _ _ _ { tmps := List.toArray (_ :: _ :: _ :: _ :: _ :: _ :: _ :: _ :: _ :: _ :: _ :: _ :: _ :: _ :: _ :: _ :: _ :: _ :: _ :: .pointer (some ⟨Y, 0, none⟩) :: .pointer (some ⟨Y, 0, none⟩) :: .pointer (some ⟨Y, 0, none⟩) :: .pointer (some ⟨Y, 1, none⟩) :: .slice va k vc :: .slice ai L ci :: _ :: _ :: _ :: _ :: _ :: _ :: _ :: _ :: _ :: []), defers := [] } _
        refine wpAnyH_ready (rs := [6]) (by kernel_rfl) (by simp) ?_
        refine (AllReadyH.cons rfl (fun KK hK => ?_) AllReadyH.nil)
        go_simp
        refine CS.mono ?_
        rintro e w1 ⟨xa, xc, rfl, hO, hb1⟩
        have d1 := blk2 (hYd.keep hb1).blk
        obtain ⟨⟨-, s1⟩, -⟩ := d1
        go_wp2_with fail
        clear hHeld
        refine hK.out _ _ (trivial) (fun hHeld => ?_)
        clear hK KK
        change wpAnyH _ _ _ _ _ _ _ { tmps := List.toArray (_ :: _ :: _ :: _ :: _ :: _ :: _ :: _ :: _ :: _ :: _ :: _ :: _ :: _ :: _ :: _ :: _ :: _ :: _ :: .pointer (some ⟨Y, 0, none⟩) :: .pointer (some ⟨Y, 0, none⟩) :: .pointer (some ⟨Y, 0, none⟩) :: .pointer (some ⟨Y, 1, none⟩) :: .slice va k vc :: .slice ai L ci :: .agg #[.slice xa L xc] :: _ :: _ :: _ :: _ :: _ :: _ :: _ :: _ :: []), defers := [] } _
        refine wpAnyH_ready (rs := [7]) (by kernel_rfl) (by simp) ?_
        refine (AllReadyH.cons rfl (fun KK hK => ?_) AllReadyH.nil)
        go_simp
        have s2 := ble (balloc w1 (.cells #[.slice xa L xc] 94)) s1
        clear hHeld
        refine hK.out _ _ (trivial) (fun hHeld => ?_)
        clear hK KK
        change wpAnyH _ _ _ _ _ _ _ { tmps := List.toArray (_ :: _ :: _ :: _ :: _ :: _ :: _ :: _ :: _ :: _ :: _ :: _ :: _ :: _ :: _ :: _ :: _ :: _ :: _ :: .pointer (some ⟨Y, 0, none⟩) :: .pointer (some ⟨Y, 0, none⟩) :: .pointer (some ⟨Y, 0, none⟩) :: .pointer (some ⟨Y, 1, none⟩) :: .slice va k vc :: .slice ai L ci :: .agg #[.slice xa L xc] :: .slice (some ⟨w1.heap.size, 0, none⟩) 1 1 :: _ :: _ :: _ :: _ :: _ :: _ :: _ :: []), defers := [] } _
        refine wpAnyH_ready (rs := [8]) (by kernel_rfl) (by simp) ?_
        refine (AllReadyH.cons rfl (fun KK hK => ?_) AllReadyH.nil)
        refine step_append_lies _ (by rfl) _ _ 90 (by rfl) w.heap.size 94 i1 (.agg #[.slice none 0 0]) 1 24 Try.underlying90 hi1 hy0 hy1 hy2 rfl (by omega) (.slice va k vc) k vs (by rfl) (by have h9 := ((hYd.keep hb1).keep (balloc w1 (.cells #[.slice xa L xc] 94))).tab.own; rw [hNl.out] at h9; exact h9) ⟨w1.heap.size, 0, none⟩ 1 1 [.slice xa L xc] (by rfl) rfl (World.news_of_block (heap_alloc_new w1 _)) (fun u hu => by simp at hu; subst hu; rfl) (by omega) (by unfold maxLen; omega) (by omega) (by have := hb1.size; rw [sz1]; omega) (w1.heap.size + 1) (by rw [sz1]) ?_
        intro g gc w3 hown hgrow hwh hgl
        have hY2 := (hYd.keep hb1).keep (balloc w1 (.cells #[.slice xa L xc] 94))
        have hY9 : YardO w.heap.size (w3.setCell ⟨Y, 1, none⟩ (.slice (some ⟨g, 0, none⟩) (k + 1) gc)) Y rv (.slice (some ⟨g, 0, none⟩) (k + 1) gc) (vs ++ [.slice xa L xc]) room (rows.take k ++ [rwA rows k]) := hY2.more (by rw [hNl.out]; exact hown) hgrow (RowI.base (RowI.below (RowI.own hO) (balloc w1 _)) hsd) (fun b hb => by
          have h1 := (own_type hO b hb).1
          exact ⟨fun e => by have := (hYd.room.blk b e).2.1; omega, fun j hj e => by have := ((hYd.tab.each j hj).blk b e).2.1; omega⟩)
        have hY3 : w3.heap[Y]? = some (.cells #[rv, .slice va k vc] 92 (0, 0)) := (hgrow.block Y (lt_of_block hY2.blk) (fun e => own_blk_ne hY2.tab.own hY2.blk (by decide) Y e.symm rfl)).trans hY2.blk
        obtain ⟨⟨-, s3⟩, -, f3⟩ := blk2 hY3
        have KS3 : w3.heap[w.heap.size]? = _ := (hgrow.block w.heap.size (by rw [sz1]; have := hb1.size; have := lt_of_block KSd; omega) (fun e => own_blk_ne hY2.tab.own (blk_keep (balloc w1 _) (blk_keep hb1 KSd)) (by decide) w.heap.size e.symm rfl)).trans (blk_keep (balloc w1 _) (blk_keep hb1 KSd))
        have KS9 : (w3.setCell ⟨Y, 1, none⟩ (.slice (some ⟨g, 0, none⟩) (k + 1) gc)).heap[w.heap.size]? = _ := (heap_setCell (by omega)).trans KS3
        have HB9 : Below w.heap.size w (w3.setCell ⟨Y, 1, none⟩ (.slice (some ⟨g, 0, none⟩) (k + 1) gc)) := below_set hYd.low ((HBd.trans ((btrans hb1 (balloc w1 (.cells #[.slice xa L xc] 94))).mono hsd)).grown hgrow (by rw [sz1]; have := hb1.size; omega) (own_from hY2.tab.own (Nat.le_refl _)))
        clear hHeld
        refine hK.out _ _ (trivial) (fun hHeld => ?_)
        clear hK KK
        change wpAnyH _ _ _ _ _ _ _ { tmps := List.toArray (_ :: _ :: _ :: _ :: _ :: _ :: _ :: _ :: _ :: _ :: _ :: _ :: _ :: _ :: _ :: _ :: _ :: _ :: _ :: .pointer (some ⟨Y, 0, none⟩) :: .pointer (some ⟨Y, 0, none⟩) :: .pointer (some ⟨Y, 0, none⟩) :: .pointer (some ⟨Y, 1, none⟩) :: .slice va k vc :: .slice ai L ci :: .agg #[.slice xa L xc] :: .slice (some ⟨w1.heap.size, 0, none⟩) 1 1 :: .slice (some ⟨g, 0, none⟩) (k + 1) gc :: _ :: _ :: _ :: _ :: _ :: _ :: []), defers := [] } _
        refine wpAnyH_take (i := 9) (v := .pointer (some ⟨Y, 0, none⟩)) rfl (by kernel_rfl) (by kernel_rfl) (by kernel_rfl) (fun _ _ _ h => h) (Or.inl ⟨by kernel_rfl, fun w hS => by go_simp⟩) hHeld ?_
        change wpAnyH _ _ _ _ _ _ _ { tmps := List.toArray (_ :: _ :: _ :: _ :: _ :: _ :: _ :: _ :: _ :: _ :: _ :: _ :: _ :: _ :: _ :: _ :: _ :: _ :: _ :: .pointer (some ⟨Y, 0, none⟩) :: .pointer (some ⟨Y, 0, none⟩) :: .pointer (some ⟨Y, 0, none⟩) :: .pointer (some ⟨Y, 1, none⟩) :: .slice va k vc :: .slice ai L ci :: .agg #[.slice xa L xc] :: .slice (some ⟨w1.heap.size, 0, none⟩) 1 1 :: .slice (some ⟨g, 0, none⟩) (k + 1) gc :: .pointer (some ⟨Y, 0, none⟩) :: _ :: _ :: _ :: _ :: _ :: []), defers := [] } _
        refine wpAnyH_take (i := 10) (v := .pointer (some ⟨Y, 1, none⟩)) rfl (by kernel_rfl) (by kernel_rfl) (by kernel_rfl) (fun _ _ _ h => h) (Or.inl ⟨by kernel_rfl, fun w hS => by go_simp⟩) hHeld ?_
        change wpAnyH _ _ _ _ _ _ _ { tmps := List.toArray (_ :: _ :: _ :: _ :: _ :: _ :: _ :: _ :: _ :: _ :: _ :: _ :: _ :: _ :: _ :: _ :: _ :: _ :: _ :: .pointer (some ⟨Y, 0, none⟩) :: .pointer (some ⟨Y, 0, none⟩) :: .pointer (some ⟨Y, 0, none⟩) :: .pointer (some ⟨Y, 1, none⟩) :: .slice va k vc :: .slice ai L ci :: .agg #[.slice xa L xc] :: .slice (some ⟨w1.heap.size, 0, none⟩) 1 1 :: .slice (some ⟨g, 0, none⟩) (k + 1) gc :: .pointer (some ⟨Y, 0, none⟩) :: .pointer (some ⟨Y, 1, none⟩) :: _ :: _ :: _ :: _ :: []), defers := [] } _
        refine wpAnyH_ready (rs := [11]) (by kernel_rfl) (by simp) ?_
        refine (AllReadyH.cons rfl (fun KK hK => ?_) AllReadyH.nil)
        go_simp
        clear hHeld
        refine hK.out _ _ (trivial) (fun hHeld => ?_)
        clear hK KK
        change wpAnyH _ _ _ _ _ _ _ { tmps := List.toArray (_ :: _ :: _ :: _ :: _ :: _ :: _ :: _ :: _ :: _ :: _ :: _ :: _ :: _ :: _ :: _ :: _ :: _ :: _ :: .pointer (some ⟨Y, 0, none⟩) :: .pointer (some ⟨Y, 0, none⟩) :: .pointer (some ⟨Y, 0, none⟩) :: .pointer (some ⟨Y, 1, none⟩) :: .slice va k vc :: .slice ai L ci :: .agg #[.slice xa L xc] :: .slice (some ⟨w1.heap.size, 0, none⟩) 1 1 :: .slice (some ⟨g, 0, none⟩) (k + 1) gc :: .pointer (some ⟨Y, 0, none⟩) :: .pointer (some ⟨Y, 1, none⟩) :: _ :: _ :: _ :: _ :: []), defers := [] } _
        refine wpAnyH_done (by kernel_rfl) ?_ _
        clear CS hYd HBd KSd hO hb1 hY2 hY3 KS3 hown hgrow hwh
        rw [← hst.out] at hY9
        go_wp2
        go_roundw
        case rel => exact ⟨k + 1, _, _, by omega, by go_num, hY9, KS9, HB9⟩
        case measure => simp [intOf]; omega
      · skip
        go_simp
        refine CS.mono ?_
        rintro e w1 ⟨xa, xc, rfl, hO, hb1⟩
        have d1 := blk2 (hYd.keep hb1).blk
        obtain ⟨⟨-, s1⟩, -⟩ := d1
        go_wp2_with fail
        clear hHeld
        refine hK.out _ _ (trivial) (fun hHeld => ?_)
        clear hK KK
        change wpAnyH _ _ _ _ _ _ _ { tmps := List.toArray (_ :: _ :: _ :: _ :: _ :: _ :: _ :: _ :: _ :: _ :: _ :: _ :: _ :: _ :: _ :: _ :: _ :: _ :: _ :: .pointer (some ⟨Y, 0, none⟩) :: .pointer (some ⟨Y, 0, none⟩) :: .pointer (some ⟨Y, 0, none⟩) :: .pointer (some ⟨Y, 1, none⟩) :: _ :: .slice ai L ci :: .agg #[.slice xa L xc] :: _ :: _ :: _ :: _ :: _ :: _ :: _ :: _ :: []), defers := [] } _
        refine wpAnyH_ready (rs := [4, 7]) (by kernel_rfl) (by simp) ?_
        refine (AllReadyH.cons rfl (fun KK hK => ?_) (AllReadyH.cons rfl (fun KK hK => ?_) AllReadyH.nil))
        · skip
          go_simp
          clear hHeld
          refine hK.out _ _ (trivial) (fun hHeld => ?_)
          clear hK KK
          change wpAnyH _ _ _ _ _ _ _ { tmps := List.toArray (_ :: _ :: _ :: _ :: _ :: _ :: _ :: _ :: _ :: _ :: _ :: _ :: _ :: _ :: _ :: _ :: _ :: _ :: _ :: .pointer (some ⟨Y, 0, none⟩) :: .pointer (some ⟨Y, 0, none⟩) :: .pointer (some ⟨Y, 0, none⟩) :: .pointer (some ⟨Y, 1, none⟩) :: .slice va k vc :: .slice ai L ci :: .agg #[.slice xa L xc] :: _ :: _ :: _ :: _ :: _ :: _ :: _ :: _ :: []), defers := [] } _
          refine wpAnyH_ready (rs := [7]) (by kernel_rfl) (by simp) ?_
          refine (AllReadyH.cons rfl (fun KK hK => ?_) AllReadyH.nil)
          go_simp
          have s2 := ble (balloc w1 (.cells #[.slice xa L xc] 94)) s1
          clear hHeld
          refine hK.out _ _ (trivial) (fun hHeld => ?_)
          clear hK KK
          change wpAnyH _ _ _ _ _ _ _ { tmps := List.toArray (_ :: _ :: _ :: _ :: _ :: _ :: _ :: _ :: _ :: _ :: _ :: _ :: _ :: _ :: _ :: _ :: _ :: _ :: _ :: .pointer (some ⟨Y, 0, none⟩) :: .pointer (some ⟨Y, 0, none⟩) :: .pointer (some ⟨Y, 0, none⟩) :: .pointer (some ⟨Y, 1, none⟩) :: .slice va k vc :: .slice ai L ci :: .agg #[.slice xa L xc] :: .slice (some ⟨w1.heap.size, 0, none⟩) 1 1 :: _ :: _ :: _ :: _ :: _ :: _ :: _ :: []), defers := [] } _
          refine wpAnyH_ready (rs := [8]) (by kernel_rfl) (by simp) ?_
          refine (AllReadyH.cons rfl (fun KK hK => ?_) AllReadyH.nil)
          refine step_append_lies _ (by rfl) _ _ 90 (by rfl) w.heap.size 94 i1 (.agg #[.slice none 0 0]) 1 24 Try.underlying90 hi1 hy0 hy1 hy2 rfl (by omega) (.slice va k vc) k vs (by rfl) (by have h9 := ((hYd.keep hb1).keep (balloc w1 (.cells #[.slice xa L xc] 94))).tab.own; rw [hNl.out] at h9; exact h9) ⟨w1.heap.size, 0, none⟩ 1 1 [.slice xa L xc] (by rfl) rfl (World.news_of_block (heap_alloc_new w1 _)) (fun u hu => by simp at hu; subst hu; rfl) (by omega) (by unfold maxLen; omega) (by omega) (by have := hb1.size; rw [sz1]; omega) (w1.heap.size + 1) (by rw [sz1]) ?_
          intro g gc w3 hown hgrow hwh hgl
          have hY2 := (hYd.keep hb1).keep (balloc w1 (.cells #[.slice xa L xc] 94))
          have hY9 : YardO w.heap.size (w3.setCell ⟨Y, 1, none⟩ (.slice (some ⟨g, 0, none⟩) (k + 1) gc)) Y rv (.slice (some ⟨g, 0, none⟩) (k + 1) gc) (vs ++ [.slice xa L xc]) room (rows.take k ++ [rwA rows k]) := hY2.more (by rw [hNl.out]; exact hown) hgrow (RowI.base (RowI.below (RowI.own hO) (balloc w1 _)) hsd) (fun b hb => by
            have h1 := (own_type hO b hb).1
            exact ⟨fun e => by have := (hYd.room.blk b e).2.1; omega, fun j hj e => by have := ((hYd.tab.each j hj).blk b e).2.1; omega⟩)
          have hY3 : w3.heap[Y]? = some (.cells #[rv, .slice va k vc] 92 (0, 0)) := (hgrow.block Y (lt_of_block hY2.blk) (fun e => own_blk_ne hY2.tab.own hY2.blk (by decide) Y e.symm rfl)).trans hY2.blk
          obtain ⟨⟨-, s3⟩, -, f3⟩ := blk2 hY3
          have KS3 : w3.heap[w.heap.size]? = _ := (hgrow.block w.heap.size (by rw [sz1]; have := hb1.size; have := lt_of_block KSd; omega) (fun e => own_blk_ne hY2.tab.own (blk_keep (balloc w1 _) (blk_keep hb1 KSd)) (by decide) w.heap.size e.symm rfl)).trans (blk_keep (balloc w1 _) (blk_keep hb1 KSd))
          have KS9 : (w3.setCell ⟨Y, 1, none⟩ (.slice (some ⟨g, 0, none⟩) (k + 1) gc)).heap[w.heap.size]? = _ := (heap_setCell (by omega)).trans KS3
          have HB9 : Below w.heap.size w (w3.setCell ⟨Y, 1, none⟩ (.slice (some ⟨g, 0, none⟩) (k + 1) gc)) := below_set hYd.low ((HBd.trans ((btrans hb1 (balloc w1 (.cells #[.slice xa L xc] 94))).mono hsd)).grown hgrow (by rw [sz1]; have := hb1.size; omega) (own_from hY2.tab.own (Nat.le_refl _)))
          clear hHeld
          refine hK.out _ _ (trivial) (fun hHeld => ?_)
          clear hK KK
          change wpAnyH _ _ _ _ _ _ _ { tmps := List.toArray (_ :: _ :: _ :: _ :: _ :: _ :: _ :: _ :: _ :: _ :: _ :: _ :: _ :: _ :: _ :: _ :: _ :: _ :: _ :: .pointer (some ⟨Y, 0, none⟩) :: .pointer (some ⟨Y, 0, none⟩) :: .pointer (some ⟨Y, 0, none⟩) :: .pointer (some ⟨Y, 1, none⟩) :: .slice va k vc :: .slice ai L ci :: .agg #[.slice xa L xc] :: .slice (some ⟨w1.heap.size, 0, none⟩) 1 1 :: .slice (some ⟨g, 0, none⟩) (k + 1) gc :: _ :: _ :: _ :: _ :: _ :: _ :: []), defers := [] } _
          refine wpAnyH_take (i := 9) (v := .pointer (some ⟨Y, 0, none⟩)) rfl (by kernel_rfl) (by kernel_rfl) (by kernel_rfl) (fun _ _ _ h => h) (Or.inl ⟨by kernel_rfl, fun w hS => by go_simp⟩) hHeld ?_
          change wpAnyH _ _ _ _ _ _ _ { tmps := List.toArray (_ :: _ :: _ :: _ :: _ :: _ :: _ :: _ :: _ :: _ :: _ :: _ :: _ :: _ :: _ :: _ :: _ :: _ :: _ :: .pointer (some ⟨Y, 0, none⟩) :: .pointer (some ⟨Y, 0, none⟩) :: .pointer (some ⟨Y, 0, none⟩) :: .pointer (some ⟨Y, 1, none⟩) :: .slice va k vc :: .slice ai L ci :: .agg #[.slice xa L xc] :: .slice (some ⟨w1.heap.size, 0, none⟩) 1 1 :: .slice (some ⟨g, 0, none⟩) (k + 1) gc :: .pointer (some ⟨Y, 0, none⟩) :: _ :: _ :: _ :: _ :: _ :: []), defers := [] } _
          refine wpAnyH_take (i := 10) (v := .pointer (some ⟨Y, 1, none⟩)) rfl (by kernel_rfl) (by kernel_rfl) (by kernel_rfl) (fun _ _ _ h => h) (Or.inl ⟨by kernel_rfl, fun w hS => by go_simp⟩) hHeld ?_
          change wpAnyH _ _ _ _ _ _ _ { tmps := List.toArray (_ :: _ :: _ :: _ :: _ :: _ :: _ :: _ :: _ :: _ :: _ :: _ :: _ :: _ :: _ :: _ :: _ :: _ :: _ :: .pointer (some ⟨Y, 0, none⟩) :: .pointer (some ⟨Y, 0, none⟩) :: .pointer (some ⟨Y, 0, none⟩) :: .pointer (some ⟨Y, 1, none⟩) :: .slice va k vc :: .slice ai L ci :: .agg #[.slice xa L xc] :: .slice (some ⟨w1.heap.size, 0, none⟩) 1 1 :: .slice (some ⟨g, 0, none⟩) (k + 1) gc :: .pointer (some ⟨Y, 0, none⟩) :: .pointer (some ⟨Y, 1, none⟩) :: _ :: _ :: _ :: _ :: []), defers := [] } _
          refine wpAnyH_ready (rs := [11]) (by kernel_rfl) (by simp) ?_
          refine (AllReadyH.cons rfl (fun KK hK => ?_) AllReadyH.nil)
          go_simp
          clear hHeld
          refine hK.out _ _ (trivial) (fun hHeld => ?_)
          clear hK KK
          change wpAnyH _ _ _ _ _ _ _ { tmps := List.toArray (_ :: _ :: _ :: _ :: _ :: _ :: _ :: _ :: _ :: _ :: _ :: _ :: _ :: _ :: _ :: _ :: _ :: _ :: _ :: .pointer (some ⟨Y, 0, none⟩) :: .pointer (some ⟨Y, 0, none⟩) :: .pointer (some ⟨Y, 0, none⟩) :: .pointer (some ⟨Y, 1, none⟩) :: .slice va k vc :: .slice ai L ci :: .agg #[.slice xa L xc] :: .slice (some ⟨w1.heap.size, 0, none⟩) 1 1 :: .slice (some ⟨g, 0, none⟩) (k + 1) gc :: .pointer (some ⟨Y, 0, none⟩) :: .pointer (some ⟨Y, 1, none⟩) :: _ :: _ :: _ :: _ :: []), defers := [] } _
          refine wpAnyH_done (by kernel_rfl) ?_ _
          clear CS hYd HBd KSd hO hb1 hY2 hY3 KS3 hown hgrow hwh
          rw [← hst.out] at hY9
          go_wp2
          go_roundw
          case rel => exact ⟨k + 1, _, _, by omega, by go_num, hY9, KS9, HB9⟩
          case measure => simp [intOf]; omega
        · skip
          go_simp
          have s2 := ble (balloc w1 (.cells #[.slice xa L xc] 94)) s1
          clear hHeld
          refine hK.out _ _ (trivial) (fun hHeld => ?_)
          clear hK KK
          change wpAnyH _ _ _ _ _ _ _ { tmps := List.toArray (_ :: _ :: _ :: _ :: _ :: _ :: _ :: _ :: _ :: _ :: _ :: _ :: _ :: _ :: _ :: _ :: _ :: _ :: _ :: .pointer (some ⟨Y, 0, none⟩) :: .pointer (some ⟨Y, 0, none⟩) :: .pointer (some ⟨Y, 0, none⟩) :: .pointer (some ⟨Y, 1, none⟩) :: _ :: .slice ai L ci :: .agg #[.slice xa L xc] :: .slice (some ⟨w1.heap.size, 0, none⟩) 1 1 :: _ :: _ :: _ :: _ :: _ :: _ :: _ :: []), defers := [] } _
          refine wpAnyH_ready (rs := [4]) (by kernel_rfl) (by simp) ?_
          refine (AllReadyH.cons rfl (fun KK hK => ?_) AllReadyH.nil)
          go_simp
          clear hHeld
          refine hK.out _ _ (trivial) (fun hHeld => ?_)
          clear hK KK
          change wpAnyH _ _ _ _ _ _ _ { tmps := List.toArray (_ :: _ :: _ :: _ :: _ :: _ :: _ :: _ :: _ :: _ :: _ :: _ :: _ :: _ :: _ :: _ :: _ :: _ :: _ :: .pointer (some ⟨Y, 0, none⟩) :: .pointer (some ⟨Y, 0, none⟩) :: .pointer (some ⟨Y, 0, none⟩) :: .pointer (some ⟨Y, 1, none⟩) :: .slice va k vc :: .slice ai L ci :: .agg #[.slice xa L xc] :: .slice (some ⟨w1.heap.size, 0, none⟩) 1 1 :: _ :: _ :: _ :: _ :: _ :: _ :: _ :: []), defers := [] } _
          refine wpAnyH_ready (rs := [8]) (by kernel_rfl) (by simp) ?_
          refine (AllReadyH.cons rfl (fun KK hK => ?_) AllReadyH.nil)
          refine step_append_lies _ (by rfl) _ _ 90 (by rfl) w.heap.size 94 i1 (.agg #[.slice none 0 0]) 1 24 Try.underlying90 hi1 hy0 hy1 hy2 rfl (by omega) (.slice va k vc) k vs (by rfl) (by have h9 := ((hYd.keep hb1).keep (balloc w1 (.cells #[.slice xa L xc] 94))).tab.own; rw [hNl.out] at h9; exact h9) ⟨w1.heap.size, 0, none⟩ 1 1 [.slice xa L xc] (by rfl) rfl (World.news_of_block (heap_alloc_new w1 _)) (fun u hu => by simp at hu; subst hu; rfl) (by omega) (by unfold maxLen; omega) (by omega) (by have := hb1.size; rw [sz1]; omega) (w1.heap.size + 1) (by rw [sz1]) ?_
          intro g gc w3 hown hgrow hwh hgl
          have hY2 := (hYd.keep hb1).keep (balloc w1 (.cells #[.slice xa L xc] 94))
          have hY9 : YardO w.heap.size (w3.setCell ⟨Y, 1, none⟩ (.slice (some ⟨g, 0, none⟩) (k + 1) gc)) Y rv (.slice (some ⟨g, 0, none⟩) (k + 1) gc) (vs ++ [.slice xa L xc]) room (rows.take k ++ [rwA rows k]) := hY2.more (by rw [hNl.out]; exact hown) hgrow (RowI.base (RowI.below (RowI.own hO) (balloc w1 _)) hsd) (fun b hb => by
            have h1 := (own_type hO b hb).1
            exact ⟨fun e => by have := (hYd.room.blk b e).2.1; omega, fun j hj e => by have := ((hYd.tab.each j hj).blk b e).2.1; omega⟩)
          have hY3 : w3.heap[Y]? = some (.cells #[rv, .slice va k vc] 92 (0, 0)) := (hgrow.block Y (lt_of_block hY2.blk) (fun e => own_blk_ne hY2.tab.own hY2.blk (by decide) Y e.symm rfl)).trans hY2.blk
          obtain ⟨⟨-, s3⟩, -, f3⟩ := blk2 hY3
          have KS3 : w3.heap[w.heap.size]? = _ := (hgrow.block w.heap.size (by rw [sz1]; have := hb1.size; have := lt_of_block KSd; omega) (fun e => own_blk_ne hY2.tab.own (blk_keep (balloc w1 _) (blk_keep hb1 KSd)) (by decide) w.heap.size e.symm rfl)).trans (blk_keep (balloc w1 _) (blk_keep hb1 KSd))
          have KS9 : (w3.setCell ⟨Y, 1, none⟩ (.slice (some ⟨g, 0, none⟩) (k + 1) gc)).heap[w.heap.size]? = _ := (heap_setCell (by omega)).trans KS3
          have HB9 : Below w.heap.size w (w3.setCell ⟨Y, 1, none⟩ (.slice (some ⟨g, 0, none⟩) (k + 1) gc)) := below_set hYd.low ((HBd.trans ((btrans hb1 (balloc w1 (.cells #[.slice xa L xc] 94))).mono hsd)).grown hgrow (by rw [sz1]; have := hb1.size; omega) (own_from hY2.tab.own (Nat.le_refl _)))
          clear hHeld
          refine hK.out _ _ (trivial) (fun hHeld => ?_)
          clear hK KK
          change wpAnyH _ _ _ _ _ _ _ { tmps := List.toArray (_ :: _ :: _ :: _ :: _ :: _ :: _ :: _ :: _ :: _ :: _ :: _ :: _ :: _ :: _ :: _ :: _ :: _ :: _ :: .pointer (some ⟨Y, 0, none⟩) :: .pointer (some ⟨Y, 0, none⟩) :: .pointer (some ⟨Y, 0, none⟩) :: .pointer (some ⟨Y, 1, none⟩) :: .slice va k vc :: .slice ai L ci :: .agg #[.slice xa L xc] :: .slice (some ⟨w1.heap.size, 0, none⟩) 1 1 :: .slice (some ⟨g, 0, none⟩) (k + 1) gc :: _ :: _ :: _ :: _ :: _ :: _ :: []), defers := [] } _
          refine wpAnyH_take (i := 9) (v := .pointer (some ⟨Y, 0, none⟩)) rfl (by kernel_rfl) (by kernel_rfl) (by kernel_rfl) (fun _ _ _ h => h) (Or.inl ⟨by kernel_rfl, fun w hS => by go_simp⟩) hHeld ?_
          change wpAnyH _ _ _ _ _ _ _ { tmps := List.toArray (_ :: _ :: _ :: _ :: _ :: _ :: _ :: _ :: _ :: _ :: _ :: _ :: _ :: _ :: _ :: _ :: _ :: _ :: _ :: .pointer (some ⟨Y, 0, none⟩) :: .pointer (some ⟨Y, 0, none⟩) :: .pointer (some ⟨Y, 0, none⟩) :: .pointer (some ⟨Y, 1, none⟩) :: .slice va k vc :: .slice ai L ci :: .agg #[.slice xa L xc] :: .slice (some ⟨w1.heap.size, 0, none⟩) 1 1 :: .slice (some ⟨g, 0, none⟩) (k + 1) gc :: .pointer (some ⟨Y, 0, none⟩) :: _ :: _ :: _ :: _ :: _ :: []), defers := [] } _
          refine wpAnyH_take (i := 10) (v := .pointer (some ⟨Y, 1, none⟩)) rfl (by kernel_rfl) (by kernel_rfl) (by kernel_rfl) (fun _ _ _ h => h) (Or.inl ⟨by kernel_rfl, fun w hS => by go_simp⟩) hHeld ?_
          change wpAnyH _ _ _ _ _ _ _ { tmps := List.toArray (_ :: _ :: _ :: _ :: _ :: _ :: _ :: _ :: _ :: _ :: _ :: _ :: _ :: _ :: _ :: _ :: _ :: _ :: _ :: .pointer (some ⟨Y, 0, none⟩) :: .pointer (some ⟨Y, 0, none⟩) :: .pointer (some ⟨Y, 0, none⟩) :: .pointer (some ⟨Y, 1, none⟩) :: .slice va k vc :: .slice ai L ci :: .agg #[.slice xa L xc] :: .slice (some ⟨w1.heap.size, 0, none⟩) 1 1 :: .slice (some ⟨g, 0, none⟩) (k + 1) gc :: .pointer (some ⟨Y, 0, none⟩) :: .pointer (some ⟨Y, 1, none⟩) :: _ :: _ :: _ :: _ :: []), defers := [] } _
          refine wpAnyH_ready (rs := [11]) (by kernel_rfl) (by simp) ?_
          refine (AllReadyH.cons rfl (fun KK hK => ?_) AllReadyH.nil)
          go_simp
          clear hHeld
          refine hK.out _ _ (trivial) (fun hHeld => ?_)
          clear hK KK
          change wpAnyH _ _ _ _ _ _ _ { tmps := List.toArray (_ :: _ :: _ :: _ :: _ :: _ :: _ :: _ :: _ :: _ :: _ :: _ :: _ :: _ :: _ :: _ :: _ :: _ :: _ :: .pointer (some ⟨Y, 0, none⟩) :: .pointer (some ⟨Y, 0, none⟩) :: .pointer (some ⟨Y, 0, none⟩) :: .pointer (some ⟨Y, 1, none⟩) :: .slice va k vc :: .slice ai L ci :: .agg #[.slice xa L xc] :: .slice (some ⟨w1.heap.size, 0, none⟩) 1 1 :: .slice (some ⟨g, 0, none⟩) (k + 1) gc :: .pointer (some ⟨Y, 0, none⟩) :: .pointer (some ⟨Y, 1, none⟩) :: _ :: _ :: _ :: _ :: []), defers := [] } _
          refine wpAnyH_done (by kernel_rfl) ?_ _
          clear CS hYd HBd KSd hO hb1 hY2 hY3 KS3 hown hgrow hwh
          rw [← hst.out] at hY9
          go_wp2
          go_roundw
          case rel => exact ⟨k + 1, _, _, by omega, by go_num, hY9, KS9, HB9⟩
          case measure => simp [intOf]; omega
    · obtain rfl : k = rows.length := by omega
      rw [List.take_length] at hY
      obtain ⟨⟨x0, x1⟩, -⟩ := blk2 KS
      have CI := cSidI ra rc room a c us rows wr (hM.below HB) (hR.below HB) lr
      unfold sidVal at CI
      generalize hRB : sidB room rows = RB at *
      replace hRB := hide hRB
      go_wp2_with fail
      refine CI.mono ?_
      rintro e w2 ⟨rfl, hb⟩
      have hY2 := hY.keep hb
      have HB2 := btrans HB hb
      clear hY HB hb CI x0 x1 KS
      go_wp2
      go_ret2
      exact ⟨Y, rv, v, vs, by rw [hRB.out]; rfl, hY2, HB2⟩
end Go.Proofs.Ytipechbhhpagiaa
