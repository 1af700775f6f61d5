/- The model's copy of sidings. -/
import Derived.Test.YtipechbhhpagiaaCV
import Derived.Test.YtipechbhhpagiaaSH
namespace Go.Proofs.Ytipechbhhpagiaa
open Go.RowKit
/-- One row more of sidings that lie in a box. -/
theorem SidO.more {B C : Nat} {w2 w3 : World} {rv v v2 u : Value} {vs : List Value} {room X : List Int} {rows : List (List Int)} (h : SidO B w2 rv v vs room rows) (hC : w2.heap[C]? = some (.cells #[rv, v] 27 (0, 0)))
    (hown : w3.ownsRow B 24 1 v2 (rows.length + 1) (vs ++ [u])) (hgrow : w2.grownBy w3 v.ownBlock) (hT : RowI w2 B u X) (hnew : ∀ k, u.ownBlock = some k → rv.ownBlock ≠ some k ∧ ∀ j, (hj : j < vs.length) → vs[j].ownBlock ≠ some k) :
    SidO B (w3.setCell ⟨C, 1, none⟩ v2) rv v2 (vs ++ [u]) room (rows ++ [X]) ∧ (w3.setCell ⟨C, 1, none⟩ v2).heap[C]? = some (.cells #[rv, v2] 27 (0, 0)) ∧ w3.heap[C]? = some (.cells #[rv, v] 27 (0, 0)) := by
  have hP := h.tab.push (by decide) hown hgrow hT (fun j hj k hk e => (hnew k e).2 j hj hk)
  have hY3 : w3.heap[C]? = some (.cells #[rv, v] 27 (0, 0)) := (hgrow.block C (lt_of_block hC) (fun e => own_blk_ne h.tab.own hC (by decide) C e.symm rfl)).trans hC
  have hR3 := h.room.far hgrow (fun k hk => row_apart h.tab.own h.room (by decide) k hk)
  refine ⟨⟨hR3.same (fun k hk => heap_setCell (row_blk_ne hR3 hY3 (by decide) k hk)), hP.same (fun k hk => heap_setCell (own_blk_ne hP.own hY3 (by decide) k hk)) (fun j hj k hk => heap_setCell (row_blk_ne (hP.each j hj) hY3 (by decide) k hk)), ?_⟩, ?_, hY3⟩
  · intro j hj k hk
    by_cases hjl : j < vs.length
    · rw [List.getElem_append_left hjl] at hk; exact h.far j hjl k hk
    · obtain rfl : j = vs.length := by simp at hj; omega
      simp at hk
      exact (hnew k hk).1
  · rw [heap_setCell_same w3 C 1 _ _ _ hY3]; rfl
/-- All rows own their blocks. -/
def OwnAll (B : Nat) (w : World) (vs : List Value) (rows : List (List Int)) : Prop := ∀ j, (hj : j < vs.length) → w.ownsRow B 3 1 vs[j] (rwA rows j).length (enc (rwA rows j))
theorem OwnAll.keep {B : Nat} {w w' : World} {vs : List Value} {rows : List (List Int)} (h : OwnAll B w vs rows) (hk : ∀ j, (hj : j < vs.length) → ∀ k, vs[j].ownBlock = some k → w'.heap[k]? = w.heap[k]?) : OwnAll B w' vs rows := fun j hj => own_same (h j hj) (hk j hj)
theorem OwnAll.push {B : Nat} {w : World} {vs : List Value} {rows : List (List Int)} {u : Value} {X : List Int} (h : OwnAll B w vs rows) (hl : vs.length = rows.length) (hu : w.ownsRow B 3 1 u X.length (enc X)) : OwnAll B w (vs ++ [u]) (rows ++ [X]) := by
  intro j hj
  by_cases hjl : j < vs.length
  · rw [List.getElem_append_left hjl, rwA_app (by omega)]; exact h j hjl
  · obtain rfl : j = vs.length := by simp at hj; omega
    have e1 : (vs ++ [u])[vs.length]'hj = u := by simp
    have e2 : rwA (rows ++ [X]) vs.length = X := by rw [hl]; exact rwA_end
    rw [e1, e2]; exact hu
def CopyPost (w : World) (room : List Int) (rows : List (List Int)) (e : Ending) (w' : World) : Prop :=
  ∃ ra rc a c vs, e = .returned (.agg #[.slice ra room.length rc, .slice a rows.length c]) ∧ SidO w.heap.size w' (.slice ra room.length rc) (.slice a rows.length c) vs room rows ∧ OwnAll w.heap.size w' vs rows ∧ Below w.heap.size w w'

set_option maxRecDepth 20000 in
set_option maxHeartbeats 12800000 in
theorem cCopyS (ra : Option Addr) (rc : Nat) (room : List Int) (a : Option Addr) (c : Nat) (us : List Value) (rows : List (List Int)) (w : World) (hM : Ints w ra room) (hR : RowsW w a us rows) (lM : room.length ≤ 1048576) (lR : rows.length ≤ 1048576) (lr : ∀ i, i < rows.length → (rwA rows i).length ≤ 1048576) :
    Calls Try.prog 57 #[.agg #[.slice ra room.length rc, .slice a rows.length c]] w (CopyPost w room rows) := by
  obtain ⟨i1, hi1, hy0, hy1, hy2⟩ := info_parts infoIntS
  have b1 := balloc w (.cells #[.slice ra room.length rc, .slice a rows.length c] 27)
  have b2 := balloc (w.alloc (.cells #[.slice ra room.length rc, .slice a rows.length c] 27)) (.cells #[.slice none 0 0, .slice none 0 0] 27)
  have HB := btrans b1 b2
  have KS := blk_keep b2 (heap_alloc_new w (.cells #[.slice ra room.length rc, .slice a rows.length c] 27))
  have KR := heap_alloc_new (w.alloc (.cells #[.slice ra room.length rc, .slice a rows.length c] 27)) (.cells #[.slice none 0 0, .slice none 0 0] 27)
  rw [sz1] at KR
  clear b1 b2
  go_enter Try.func57, Try.ntmps57
  go_wp2_with fail
  generalize (w.alloc (.cells #[.slice ra room.length rc, .slice a rows.length c] 27)).alloc (.cells #[.slice none 0 0, .slice none 0 0] 27) = W at *
  refine (cCopyInts ra rc room _ (hM.below HB) lM).mono ?_
  rintro e w1 ⟨rv, rfl, hO, hb⟩
  obtain ⟨va, vc, hrv⟩ := own_form hO
  have hb2 := balloc w1 (.cells #[rv, .slice none 0 0] 27)
  have hS0 : SidO w.heap.size (w1.alloc (.cells #[rv, .slice none 0 0] 27)) rv (.slice none 0 0) [] room [] := ⟨RowI.base (RowI.below (.inl hO) hb2) HB.size, TabR.nil _ _ _, fun j hj => by simp at hj⟩
  have KC0 := heap_alloc_new w1 (.cells #[rv, .slice none 0 0] 27)
  have KS1 := blk_keep hb2 (blk_keep hb KS)
  have KR1 := blk_keep hb2 (blk_keep hb KR)
  have HB1 := btrans (btrans HB hb) hb2
  have hCs : w.heap.size + 1 < w1.heap.size := by have := lt_of_block (blk_keep hb KR); omega
  have hcell := hide hR.cell
  have heach := hide hR.each
  have hvl := hide hR.len
  clear hO hb hb2 HB KS KR
  subst hrv
  go_wp2
  generalize hCb : w1.heap.size = C at *
  generalize hrvE : (Value.slice va room.length vc) = rv at *
  go_loopw [4] (fun i wr => ∃ (k : Nat) (v : Value) (vs : List Value), k ≤ rows.length ∧ i = .int .i64 k ∧ SidO w.heap.size wr rv v vs room (rows.take k) ∧ OwnAll w.heap.size wr vs (rows.take k) ∧ wr.heap[w.heap.size]? = some (.cells #[.slice ra room.length rc, .slice a rows.length c] 27 (0, 0)) ∧ wr.heap[w.heap.size + 1]? = some (.cells #[.slice none 0 0, .slice none 0 0] 27 (0, 0)) ∧ wr.heap[C]? = some (.cells #[rv, v] 27 (0, 0)) ∧ Below w.heap.size w wr) (fun i _ => rows.length - (intOf i).toNat)
  case atStart => exact ⟨0, _, [], by omega, rfl, by simpa using hS0, fun j hj => by simp at hj, KS1, KR1, KC0, HB1⟩
  case round =>
    obtain ⟨k, v, vs, hk, rfl, hS, hA, KS, KR, KC, HB⟩ := hrel
    clear hS0 KS1 KR1 HB1 KC0
    obtain ⟨⟨x0, x1⟩, -⟩ := blk2 KS
    by_cases hlt : k < rows.length
    · obtain ⟨bb, off, rfl, hc⟩ : ∃ b off, a = some ⟨b, off, none⟩ ∧ ∀ i, (hi : i < us.length) → w.cell? ⟨b, off + i, none⟩ = some us[i] := by
        rcases hcell.out with h | h
        · simp [h] at hlt
        · exact h
      have hku : k < us.length := by have := hvl.out; omega
      obtain ⟨ai, ci, hv, hI, -⟩ := heach.out k hku
      have p0 := hc k hku
      rw [hv] at p0
      have HBd : Below w.heap.size w wr.drew := bdraw HB 1
      have hSd : SidO w.heap.size wr.drew rv v vs room (rows.take k) := hS.below (bdraw (Below.refl _ _) 1)
      have hAd : OwnAll w.heap.size wr.drew vs (rows.take k) := hA.keep (fun j hj b hb => (bdraw (Below.refl wr.heap.size wr) 1).block b ((hS.tab.each j hj).blk b hb).2.1)
      have KSd : wr.drew.heap[w.heap.size]? = _ := blk_keep (bdraw (Below.refl _ _) 1) KS
      have KRd : wr.drew.heap[w.heap.size + 1]? = _ := blk_keep (bdraw (Below.refl _ _) 1) KR
      have KCd : wr.drew.heap[C]? = _ := blk_keep (bdraw (Below.refl _ _) 1) KC
      have x1d : wr.drew.cell? ⟨w.heap.size, 1, none⟩ = some (.slice (some ⟨bb, off, none⟩) rows.length c) := by rw [cell_blk KSd]; rfl
      have CS := cCopyInts ai ci (rwA rows k) wr.drew (hI.below HBd) (lr k hlt)
      have hsd : w.heap.size ≤ wr.drew.heap.size := HBd.size
      obtain ⟨va2, vc2, hva⟩ := own_form hSd.tab.own
      have hst : Hid (rows.take (k + 1) = rows.take k ++ [rwA rows k]) := hide (by rw [List.take_succ_eq_append_getElem hlt]; simp [rwA, List.getD, hlt])
      have hNl : Hid ((rows.take k).length = k) := hide (by rw [List.length_take]; omega)
      rw [hNl.out] at hva
      subst hva
      obtain ⟨⟨-, q1⟩, -⟩ := blk2 KCd
      clear hc hv hI hS KS KR KC hA x0
      generalize hLl : (rwA rows k).length = L at *
      replace hLl := hide hLl
      have p2d : wr.drew.cell? ⟨bb, off + k, none⟩ = some (.slice ai L ci) := ble HBd p0
      have p2 : wr.cell? ⟨bb, off + k, none⟩ = some (.slice ai L ci) := ble HB p0
      go_wp2_with fail
      refine wp_region_held_drew (S := (fun w' => w'.cell? ⟨w.heap.size, 1, none⟩ = some (.slice (some ⟨bb, off, none⟩) rows.length c) ∧ w'.cell? ⟨bb, off + k, none⟩ = some (.slice ai L ci))) (by kernel_rfl) ?_ (fun hHeld => ?_)
      · exact ⟨x1d, p2d⟩
      refine wpAnyH_take (i := 0) (v := .pointer (some ⟨C, 1, none⟩)) rfl (by kernel_rfl) (by kernel_rfl) (by kernel_rfl) (fun _ _ _ h => h) (Or.inl ⟨by kernel_rfl, fun w hS => by go_simp⟩) hHeld ?_
      change wpAnyH _ _ _ _ _ _ _ { tmps := List.toArray (_ :: _ :: _ :: _ :: _ :: _ :: _ :: _ :: _ :: _ :: _ :: _ :: _ :: _ :: _ :: _ :: .pointer (some ⟨C, 1, none⟩) :: _ :: _ :: _ :: _ :: _ :: _ :: _ :: _ :: _ :: _ :: _ :: []), defers := [] } _
      refine wpAnyH_take (i := 2) (v := .pointer (some ⟨w.heap.size, 1, none⟩)) rfl (by kernel_rfl) (by kernel_rfl) (by kernel_rfl) (fun _ _ _ h => h) (Or.inl ⟨by kernel_rfl, fun w hS => by go_simp⟩) hHeld ?_
      change wpAnyH _ _ _ _ _ _ _ { tmps := List.toArray (_ :: _ :: _ :: _ :: _ :: _ :: _ :: _ :: _ :: _ :: _ :: _ :: _ :: _ :: _ :: _ :: .pointer (some ⟨C, 1, none⟩) :: _ :: .pointer (some ⟨w.heap.size, 1, none⟩) :: _ :: _ :: _ :: _ :: _ :: _ :: _ :: _ :: _ :: []), defers := [] } _
      refine wpAnyH_take (i := 3) (v := .slice (some ⟨bb, off, none⟩) rows.length c) rfl (by kernel_rfl) (by kernel_rfl) (by kernel_rfl) (fun _ _ _ h => h) (Or.inl ⟨by kernel_rfl, fun w hS => by (obtain ⟨hS0, hS1⟩ := hS; go_simp)⟩) hHeld ?_
      change wpAnyH _ _ _ _ _ _ _ { tmps := List.toArray (_ :: _ :: _ :: _ :: _ :: _ :: _ :: _ :: _ :: _ :: _ :: _ :: _ :: _ :: _ :: _ :: .pointer (some ⟨C, 1, none⟩) :: _ :: .pointer (some ⟨w.heap.size, 1, none⟩) :: .slice (some ⟨bb, off, none⟩) rows.length c :: _ :: _ :: _ :: _ :: _ :: _ :: _ :: _ :: []), defers := [] } _
      refine wpAnyH_take (i := 4) (v := .int .i64 k) rfl (by kernel_rfl) (by kernel_rfl) (by kernel_rfl) (fun _ _ _ h => h) (Or.inl ⟨by kernel_rfl, fun w hS => by go_simp⟩) hHeld ?_
      change wpAnyH _ _ _ _ _ _ _ { tmps := List.toArray (_ :: _ :: _ :: _ :: _ :: _ :: _ :: _ :: _ :: _ :: _ :: _ :: _ :: _ :: _ :: _ :: .pointer (some ⟨C, 1, none⟩) :: _ :: .pointer (some ⟨w.heap.size, 1, none⟩) :: .slice (some ⟨bb, off, none⟩) rows.length c :: .int .i64 k :: _ :: _ :: _ :: _ :: _ :: _ :: _ :: []), defers := [] } _
      refine wpAnyH_take (i := 5) (v := .pointer (some ⟨bb, off + k, none⟩)) rfl (by kernel_rfl) (by kernel_rfl) (by kernel_rfl) (fun _ _ _ h => h) (Or.inl ⟨by kernel_rfl, fun w hS => by go_simp⟩) hHeld ?_
      change wpAnyH _ _ _ _ _ _ _ { tmps := List.toArray (_ :: _ :: _ :: _ :: _ :: _ :: _ :: _ :: _ :: _ :: _ :: _ :: _ :: _ :: _ :: _ :: .pointer (some ⟨C, 1, none⟩) :: _ :: .pointer (some ⟨w.heap.size, 1, none⟩) :: .slice (some ⟨bb, off, none⟩) rows.length c :: .int .i64 k :: .pointer (some ⟨bb, off + k, none⟩) :: _ :: _ :: _ :: _ :: _ :: _ :: []), defers := [] } _
      refine wpAnyH_take (i := 6) (v := .slice ai L ci) rfl (by kernel_rfl) (by kernel_rfl) (by kernel_rfl) (fun _ _ _ h => h) (Or.inl ⟨by kernel_rfl, fun w hS => by (obtain ⟨hS0, hS1⟩ := hS; go_simp)⟩) hHeld ?_
      change wpAnyH _ _ _ _ _ _ _ { tmps := List.toArray (_ :: _ :: _ :: _ :: _ :: _ :: _ :: _ :: _ :: _ :: _ :: _ :: _ :: _ :: _ :: _ :: .pointer (some ⟨C, 1, none⟩) :: _ :: .pointer (some ⟨w.heap.size, 1, none⟩) :: .slice (some ⟨bb, off, none⟩) rows.length c :: .int .i64 k :: .pointer (some ⟨bb, off + k, none⟩) :: .slice ai L ci :: _ :: _ :: _ :: _ :: _ :: []), defers := [] } _
      refine wpAnyH_ready (rs := [1, 7]) (by kernel_rfl) (by simp) ?_
      refine (AllReadyH.cons rfl (fun KK hK => ?_) (AllReadyH.cons rfl (fun KK hK => ?_) AllReadyH.nil))
      · skip
        go_simp
        clear hHeld
        refine hK.out _ _ (⟨x1d, p2d⟩) (fun hHeld => ?_)
        clear hK KK
        change wpAnyH _ _ _ _ _ _ _ { tmps := List.toArray (_ :: _ :: _ :: _ :: _ :: _ :: _ :: _ :: _ :: _ :: _ :: _ :: _ :: _ :: _ :: _ :: .pointer (some ⟨C, 1, none⟩) :: .slice va2 k vc2 :: .pointer (some ⟨w.heap.size, 1, none⟩) :: .slice (some ⟨bb, off, none⟩) rows.length c :: .int .i64 k :: .pointer (some ⟨bb, off + k, none⟩) :: .slice ai L ci :: _ :: _ :: _ :: _ :: _ :: []), defers := [] } _
        refine wpAnyH_ready (rs := [7]) (by kernel_rfl) (by simp) ?_
        refine (AllReadyH.cons rfl (fun KK hK => ?_) AllReadyH.nil)
        go_simp
        refine CS.mono ?_
        rintro e w1 ⟨u, rfl, hO, hb1⟩
        obtain ⟨xa, xc, rfl⟩ := own_form hO
        obtain ⟨⟨-, s1⟩, -⟩ := blk2 (blk_keep hb1 KCd)
        go_wp2_with fail
        clear hHeld
        refine hK.out _ _ (⟨ble hb1 x1d, ble hb1 p2d⟩) (fun hHeld => ?_)
        clear hK KK
        change wpAnyH _ _ _ _ _ _ _ { tmps := List.toArray (_ :: _ :: _ :: _ :: _ :: _ :: _ :: _ :: _ :: _ :: _ :: _ :: _ :: _ :: _ :: _ :: .pointer (some ⟨C, 1, none⟩) :: .slice va2 k vc2 :: .pointer (some ⟨w.heap.size, 1, none⟩) :: .slice (some ⟨bb, off, none⟩) rows.length c :: .int .i64 k :: .pointer (some ⟨bb, off + k, none⟩) :: .slice ai L ci :: .slice xa L xc :: _ :: _ :: _ :: _ :: []), defers := [] } _
        refine wpAnyH_ready (rs := [8]) (by kernel_rfl) (by simp) ?_
        refine (AllReadyH.cons rfl (fun KK hK => ?_) AllReadyH.nil)
        go_simp
        have s2 := ble (balloc w1 (.cells #[.slice xa L xc] 24)) s1
        clear hHeld
        refine hK.out _ _ (⟨ble (btrans hb1 (balloc w1 (.cells #[.slice xa L xc] 24))) x1d, ble (btrans hb1 (balloc w1 (.cells #[.slice xa L xc] 24))) p2d⟩) (fun hHeld => ?_)
        clear hK KK
        change wpAnyH _ _ _ _ _ _ _ { tmps := List.toArray (_ :: _ :: _ :: _ :: _ :: _ :: _ :: _ :: _ :: _ :: _ :: _ :: _ :: _ :: _ :: _ :: .pointer (some ⟨C, 1, none⟩) :: .slice va2 k vc2 :: .pointer (some ⟨w.heap.size, 1, none⟩) :: .slice (some ⟨bb, off, none⟩) rows.length c :: .int .i64 k :: .pointer (some ⟨bb, off + k, none⟩) :: .slice ai L ci :: .slice xa L xc :: .slice (some ⟨w1.heap.size, 0, none⟩) 1 1 :: _ :: _ :: _ :: []), defers := [] } _
        refine wpAnyH_ready (rs := [9]) (by kernel_rfl) (by simp) ?_
        refine (AllReadyH.cons rfl (fun KK hK => ?_) AllReadyH.nil)
        refine step_append_lies _ (by rfl) _ _ 25 (by rfl) w.heap.size 24 i1 (.slice none 0 0) 1 24 Try.underlying25 hi1 hy0 hy1 hy2 rfl (by omega) (.slice va2 k vc2) k vs (by rfl) (by have h9 := ((hSd.below hb1).below (balloc w1 (.cells #[.slice xa L xc] 24))).tab.own; rw [hNl.out] at h9; exact h9) ⟨w1.heap.size, 0, none⟩ 1 1 [.slice xa L xc] (by rfl) rfl (World.news_of_block (heap_alloc_new w1 _)) (fun u hu => by simp at hu; subst hu; rfl) (by omega) (by unfold maxLen; omega) (by omega) (by have := hb1.size; rw [sz1]; omega) (w1.heap.size + 1) (by rw [sz1]) ?_
        intro g gc w3 hown hgrow hwh hgl
        have hS2 := (hSd.below hb1).below (balloc w1 (.cells #[.slice xa L xc] 24))
        have KC2 := blk_keep (balloc w1 (.cells #[.slice xa L xc] 24)) (blk_keep hb1 KCd)
        have Bx := btrans hb1 (balloc w1 (.cells #[.slice xa L xc] 24))
        have hnew : ∀ b, (Value.slice xa L xc).ownBlock = some b → rv.ownBlock ≠ some b ∧ ∀ j, (hj : j < vs.length) → vs[j].ownBlock ≠ some b := fun b hb => by
          have h1 := (own_type hO b hb).1
          exact ⟨fun e => by have := (hSd.room.blk b e).2.1; omega, fun j hj e => by have := ((hSd.tab.each j hj).blk b e).2.1; omega⟩
        obtain ⟨hS9, KC9, KC3⟩ := hS2.more (v2 := .slice (some ⟨g, 0, none⟩) (k + 1) gc) KC2 (by rw [hNl.out]; exact hown) hgrow (RowI.base (RowI.below (RowI.own hO) (balloc w1 (.cells #[.slice xa L xc] 24))) hsd) hnew
        obtain ⟨⟨-, s3⟩, -, f3⟩ := blk2 KC3
        have far3 : ∀ b, b < w1.heap.size + 1 → (∀ cs t, ((w1.alloc (.cells #[.slice xa L xc] 24)).heap[b]? = some (.cells cs t (0, 0))) → t ≠ 24) → w3.heap[b]? = (w1.alloc (.cells #[.slice xa L xc] 24)).heap[b]? := fun b hb ht => hgrow.block b (by rw [sz1]; exact hb) (fun e => by
          obtain ⟨-, -, cur, h5⟩ := own_type hS2.tab.own b e.symm
          exact ht _ _ h5 rfl)
        have KS2 := blk_keep Bx KSd
        have KS3 : w3.heap[w.heap.size]? = _ := (far3 w.heap.size (by have := hb1.size; have := lt_of_block KSd; omega) (fun cs t h5 => by rw [KS2] at h5; simp only [Option.some.injEq, Obj.cells.injEq] at h5; rw [← h5.2.1]; decide)).trans KS2
        have KR2 := blk_keep Bx KRd
        have KR3 : w3.heap[w.heap.size + 1]? = _ := (far3 (w.heap.size + 1) (by have := hb1.size; have := lt_of_block KRd; omega) (fun cs t h5 => by rw [KR2] at h5; simp only [Option.some.injEq, Obj.cells.injEq] at h5; rw [← h5.2.1]; decide)).trans KR2
        have KS9 : (w3.setCell ⟨C, 1, none⟩ (.slice (some ⟨g, 0, none⟩) (k + 1) gc)).heap[w.heap.size]? = _ := (heap_setCell (by omega)).trans KS3
        have KR9 : (w3.setCell ⟨C, 1, none⟩ (.slice (some ⟨g, 0, none⟩) (k + 1) gc)).heap[w.heap.size + 1]? = _ := (heap_setCell (by omega)).trans KR3
        have HB3 : Below w.heap.size w w3 := (HBd.trans (Bx.mono hsd)).grown hgrow (by rw [sz1]; have := hb1.size; omega) (own_from hS2.tab.own (Nat.le_refl _))
        have HB9 : Below w.heap.size w (w3.setCell ⟨C, 1, none⟩ (.slice (some ⟨g, 0, none⟩) (k + 1) gc)) := below_set (by omega) HB3
        have hA2 : OwnAll w.heap.size (w1.alloc (.cells #[.slice xa L xc] 24)) (vs ++ [.slice xa L xc]) (rows.take k ++ [rwA rows k]) := (hAd.keep (fun j hj b hb => Bx.block b ((hSd.tab.each j hj).blk b hb).2.1)).push hSd.tab.len (by rw [hLl.out]; exact RowI.own_below (own_keep hO (balloc w1 (.cells #[.slice xa L xc] 24))) hsd)
        have hA9 : OwnAll w.heap.size (w3.setCell ⟨C, 1, none⟩ (.slice (some ⟨g, 0, none⟩) (k + 1) gc)) (vs ++ [.slice xa L xc]) (rows.take k ++ [rwA rows k]) := hA2.keep (fun j hj b hb => by
          obtain ⟨-, h6, cur, h5⟩ := own_type (hA2 j hj) b hb
          rw [sz1] at h6
          have hbC : b ≠ C := own_blk_ne (hA2 j hj) KC2 (by decide) b hb
          rw [heap_setCell hbC]
          exact far3 b h6 (fun cs t h7 => by rw [h5] at h7; simp only [Option.some.injEq, Obj.cells.injEq] at h7; rw [← h7.2.1]; decide))
        have x3 : w3.cell? ⟨w.heap.size, 1, none⟩ = some (.slice (some ⟨bb, off, none⟩) rows.length c) := by rw [cell_blk KS3]; rfl
        have p3 : w3.cell? ⟨bb, off + k, none⟩ = some (.slice ai L ci) := ble HB3 p0
        clear hHeld
        refine hK.out _ _ (⟨x3, p3⟩) (fun hHeld => ?_)
        clear hK KK
        change wpAnyH _ _ _ _ _ _ _ { tmps := List.toArray (_ :: _ :: _ :: _ :: _ :: _ :: _ :: _ :: _ :: _ :: _ :: _ :: _ :: _ :: _ :: _ :: .pointer (some ⟨C, 1, none⟩) :: .slice va2 k vc2 :: .pointer (some ⟨w.heap.size, 1, none⟩) :: .slice (some ⟨bb, off, none⟩) rows.length c :: .int .i64 k :: .pointer (some ⟨bb, off + k, none⟩) :: .slice ai L ci :: .slice xa L xc :: .slice (some ⟨w1.heap.size, 0, none⟩) 1 1 :: .slice (some ⟨g, 0, none⟩) (k + 1) gc :: _ :: _ :: []), defers := [] } _
        refine wpAnyH_take (i := 10) (v := .pointer (some ⟨C, 1, none⟩)) rfl (by kernel_rfl) (by kernel_rfl) (by kernel_rfl) (fun _ _ _ h => h) (Or.inl ⟨by kernel_rfl, fun w hS => by go_simp⟩) hHeld ?_
        change wpAnyH _ _ _ _ _ _ _ { tmps := List.toArray (_ :: _ :: _ :: _ :: _ :: _ :: _ :: _ :: _ :: _ :: _ :: _ :: _ :: _ :: _ :: _ :: .pointer (some ⟨C, 1, none⟩) :: .slice va2 k vc2 :: .pointer (some ⟨w.heap.size, 1, none⟩) :: .slice (some ⟨bb, off, none⟩) rows.length c :: .int .i64 k :: .pointer (some ⟨bb, off + k, none⟩) :: .slice ai L ci :: .slice xa L xc :: .slice (some ⟨w1.heap.size, 0, none⟩) 1 1 :: .slice (some ⟨g, 0, none⟩) (k + 1) gc :: .pointer (some ⟨C, 1, none⟩) :: _ :: []), defers := [] } _
        refine wpAnyH_ready (rs := [11]) (by kernel_rfl) (by simp) ?_
        refine (AllReadyH.cons rfl (fun KK hK => ?_) AllReadyH.nil)
        go_simp
        have x9 : (w3.setCell ⟨C, 1, none⟩ (.slice (some ⟨g, 0, none⟩) (k + 1) gc)).cell? ⟨w.heap.size, 1, none⟩ = some (.slice (some ⟨bb, off, none⟩) rows.length c) := by rw [cell_blk KS9]; rfl
        have p9 : (w3.setCell ⟨C, 1, none⟩ (.slice (some ⟨g, 0, none⟩) (k + 1) gc)).cell? ⟨bb, off + k, none⟩ = some (.slice ai L ci) := ble HB9 p0
        clear hHeld
        refine hK.out _ _ (⟨x9, p9⟩) (fun hHeld => ?_)
        clear hK KK
        change wpAnyH _ _ _ _ _ _ _ { tmps := List.toArray (_ :: _ :: _ :: _ :: _ :: _ :: _ :: _ :: _ :: _ :: _ :: _ :: _ :: _ :: _ :: _ :: .pointer (some ⟨C, 1, none⟩) :: .slice va2 k vc2 :: .pointer (some ⟨w.heap.size, 1, none⟩) :: .slice (some ⟨bb, off, none⟩) rows.length c :: .int .i64 k :: .pointer (some ⟨bb, off + k, none⟩) :: .slice ai L ci :: .slice xa L xc :: .slice (some ⟨w1.heap.size, 0, none⟩) 1 1 :: .slice (some ⟨g, 0, none⟩) (k + 1) gc :: .pointer (some ⟨C, 1, none⟩) :: _ :: []), defers := [] } _
        refine wpAnyH_done (by kernel_rfl) ?_ _
        clear CS hSd HBd KSd KRd KCd hO hb1 hS2 KC2 KC3 KS2 KR2 KS3 KR3 hown hgrow hwh far3 hA2 hAd x3 p3 x9 p9
        rw [← hst.out] at hS9 hA9
        go_wp2
        go_roundw
        case rel => exact ⟨k + 1, _, _, by omega, by go_num, hS9, hA9, KS9, KR9, KC9, HB9⟩
        case measure => simp [intOf]; omega
      · skip
        go_simp
        refine CS.mono ?_
        rintro e w1 ⟨u, rfl, hO, hb1⟩
        obtain ⟨xa, xc, rfl⟩ := own_form hO
        obtain ⟨⟨-, s1⟩, -⟩ := blk2 (blk_keep hb1 KCd)
        go_wp2_with fail
        clear hHeld
        refine hK.out _ _ (⟨ble hb1 x1d, ble hb1 p2d⟩) (fun hHeld => ?_)
        clear hK KK
        change wpAnyH _ _ _ _ _ _ _ { tmps := List.toArray (_ :: _ :: _ :: _ :: _ :: _ :: _ :: _ :: _ :: _ :: _ :: _ :: _ :: _ :: _ :: _ :: .pointer (some ⟨C, 1, none⟩) :: _ :: .pointer (some ⟨w.heap.size, 1, none⟩) :: .slice (some ⟨bb, off, none⟩) rows.length c :: .int .i64 k :: .pointer (some ⟨bb, off + k, none⟩) :: .slice ai L ci :: .slice xa L xc :: _ :: _ :: _ :: _ :: []), defers := [] } _
        refine wpAnyH_ready (rs := [1, 8]) (by kernel_rfl) (by simp) ?_
        refine (AllReadyH.cons rfl (fun KK hK => ?_) (AllReadyH.cons rfl (fun KK hK => ?_) AllReadyH.nil))
        · skip
          go_simp
          clear hHeld
          refine hK.out _ _ (⟨ble hb1 x1d, ble hb1 p2d⟩) (fun hHeld => ?_)
          clear hK KK
          change wpAnyH _ _ _ _ _ _ _ { tmps := List.toArray (_ :: _ :: _ :: _ :: _ :: _ :: _ :: _ :: _ :: _ :: _ :: _ :: _ :: _ :: _ :: _ :: .pointer (some ⟨C, 1, none⟩) :: .slice va2 k vc2 :: .pointer (some ⟨w.heap.size, 1, none⟩) :: .slice (some ⟨bb, off, none⟩) rows.length c :: .int .i64 k :: .pointer (some ⟨bb, off + k, none⟩) :: .slice ai L ci :: .slice xa L xc :: _ :: _ :: _ :: _ :: []), defers := [] } _
          refine wpAnyH_ready (rs := [8]) (by kernel_rfl) (by simp) ?_
          refine (AllReadyH.cons rfl (fun KK hK => ?_) AllReadyH.nil)
          go_simp
          have s2 := ble (balloc w1 (.cells #[.slice xa L xc] 24)) s1
          clear hHeld
          refine hK.out _ _ (⟨ble (btrans hb1 (balloc w1 (.cells #[.slice xa L xc] 24))) x1d, ble (btrans hb1 (balloc w1 (.cells #[.slice xa L xc] 24))) p2d⟩) (fun hHeld => ?_)
          clear hK KK
          change wpAnyH _ _ _ _ _ _ _ { tmps := List.toArray (_ :: _ :: _ :: _ :: _ :: _ :: _ :: _ :: _ :: _ :: _ :: _ :: _ :: _ :: _ :: _ :: .pointer (some ⟨C, 1, none⟩) :: .slice va2 k vc2 :: .pointer (some ⟨w.heap.size, 1, none⟩) :: .slice (some ⟨bb, off, none⟩) rows.length c :: .int .i64 k :: .pointer (some ⟨bb, off + k, none⟩) :: .slice ai L ci :: .slice xa L xc :: .slice (some ⟨w1.heap.size, 0, none⟩) 1 1 :: _ :: _ :: _ :: []), defers := [] } _
          refine wpAnyH_ready (rs := [9]) (by kernel_rfl) (by simp) ?_
          refine (AllReadyH.cons rfl (fun KK hK => ?_) AllReadyH.nil)
          refine step_append_lies _ (by rfl) _ _ 25 (by rfl) w.heap.size 24 i1 (.slice none 0 0) 1 24 Try.underlying25 hi1 hy0 hy1 hy2 rfl (by omega) (.slice va2 k vc2) k vs (by rfl) (by have h9 := ((hSd.below hb1).below (balloc w1 (.cells #[.slice xa L xc] 24))).tab.own; rw [hNl.out] at h9; exact h9) ⟨w1.heap.size, 0, none⟩ 1 1 [.slice xa L xc] (by rfl) rfl (World.news_of_block (heap_alloc_new w1 _)) (fun u hu => by simp at hu; subst hu; rfl) (by omega) (by unfold maxLen; omega) (by omega) (by have := hb1.size; rw [sz1]; omega) (w1.heap.size + 1) (by rw [sz1]) ?_
          intro g gc w3 hown hgrow hwh hgl
          have hS2 := (hSd.below hb1).below (balloc w1 (.cells #[.slice xa L xc] 24))
          have KC2 := blk_keep (balloc w1 (.cells #[.slice xa L xc] 24)) (blk_keep hb1 KCd)
          have Bx := btrans hb1 (balloc w1 (.cells #[.slice xa L xc] 24))
          have hnew : ∀ b, (Value.slice xa L xc).ownBlock = some b → rv.ownBlock ≠ some b ∧ ∀ j, (hj : j < vs.length) → vs[j].ownBlock ≠ some b := fun b hb => by
            have h1 := (own_type hO b hb).1
            exact ⟨fun e => by have := (hSd.room.blk b e).2.1; omega, fun j hj e => by have := ((hSd.tab.each j hj).blk b e).2.1; omega⟩
          obtain ⟨hS9, KC9, KC3⟩ := hS2.more (v2 := .slice (some ⟨g, 0, none⟩) (k + 1) gc) KC2 (by rw [hNl.out]; exact hown) hgrow (RowI.base (RowI.below (RowI.own hO) (balloc w1 (.cells #[.slice xa L xc] 24))) hsd) hnew
          obtain ⟨⟨-, s3⟩, -, f3⟩ := blk2 KC3
          have far3 : ∀ b, b < w1.heap.size + 1 → (∀ cs t, ((w1.alloc (.cells #[.slice xa L xc] 24)).heap[b]? = some (.cells cs t (0, 0))) → t ≠ 24) → w3.heap[b]? = (w1.alloc (.cells #[.slice xa L xc] 24)).heap[b]? := fun b hb ht => hgrow.block b (by rw [sz1]; exact hb) (fun e => by
            obtain ⟨-, -, cur, h5⟩ := own_type hS2.tab.own b e.symm
            exact ht _ _ h5 rfl)
          have KS2 := blk_keep Bx KSd
          have KS3 : w3.heap[w.heap.size]? = _ := (far3 w.heap.size (by have := hb1.size; have := lt_of_block KSd; omega) (fun cs t h5 => by rw [KS2] at h5; simp only [Option.some.injEq, Obj.cells.injEq] at h5; rw [← h5.2.1]; decide)).trans KS2
          have KR2 := blk_keep Bx KRd
          have KR3 : w3.heap[w.heap.size + 1]? = _ := (far3 (w.heap.size + 1) (by have := hb1.size; have := lt_of_block KRd; omega) (fun cs t h5 => by rw [KR2] at h5; simp only [Option.some.injEq, Obj.cells.injEq] at h5; rw [← h5.2.1]; decide)).trans KR2
          have KS9 : (w3.setCell ⟨C, 1, none⟩ (.slice (some ⟨g, 0, none⟩) (k + 1) gc)).heap[w.heap.size]? = _ := (heap_setCell (by omega)).trans KS3
          have KR9 : (w3.setCell ⟨C, 1, none⟩ (.slice (some ⟨g, 0, none⟩) (k + 1) gc)).heap[w.heap.size + 1]? = _ := (heap_setCell (by omega)).trans KR3
          have HB3 : Below w.heap.size w w3 := (HBd.trans (Bx.mono hsd)).grown hgrow (by rw [sz1]; have := hb1.size; omega) (own_from hS2.tab.own (Nat.le_refl _))
          have HB9 : Below w.heap.size w (w3.setCell ⟨C, 1, none⟩ (.slice (some ⟨g, 0, none⟩) (k + 1) gc)) := below_set (by omega) HB3
          have hA2 : OwnAll w.heap.size (w1.alloc (.cells #[.slice xa L xc] 24)) (vs ++ [.slice xa L xc]) (rows.take k ++ [rwA rows k]) := (hAd.keep (fun j hj b hb => Bx.block b ((hSd.tab.each j hj).blk b hb).2.1)).push hSd.tab.len (by rw [hLl.out]; exact RowI.own_below (own_keep hO (balloc w1 (.cells #[.slice xa L xc] 24))) hsd)
          have hA9 : OwnAll w.heap.size (w3.setCell ⟨C, 1, none⟩ (.slice (some ⟨g, 0, none⟩) (k + 1) gc)) (vs ++ [.slice xa L xc]) (rows.take k ++ [rwA rows k]) := hA2.keep (fun j hj b hb => by
            obtain ⟨-, h6, cur, h5⟩ := own_type (hA2 j hj) b hb
            rw [sz1] at h6
            have hbC : b ≠ C := own_blk_ne (hA2 j hj) KC2 (by decide) b hb
            rw [heap_setCell hbC]
            exact far3 b h6 (fun cs t h7 => by rw [h5] at h7; simp only [Option.some.injEq, Obj.cells.injEq] at h7; rw [← h7.2.1]; decide))
          have x3 : w3.cell? ⟨w.heap.size, 1, none⟩ = some (.slice (some ⟨bb, off, none⟩) rows.length c) := by rw [cell_blk KS3]; rfl
          have p3 : w3.cell? ⟨bb, off + k, none⟩ = some (.slice ai L ci) := ble HB3 p0
          clear hHeld
          refine hK.out _ _ (⟨x3, p3⟩) (fun hHeld => ?_)
          clear hK KK
          change wpAnyH _ _ _ _ _ _ _ { tmps := List.toArray (_ :: _ :: _ :: _ :: _ :: _ :: _ :: _ :: _ :: _ :: _ :: _ :: _ :: _ :: _ :: _ :: .pointer (some ⟨C, 1, none⟩) :: .slice va2 k vc2 :: .pointer (some ⟨w.heap.size, 1, none⟩) :: .slice (some ⟨bb, off, none⟩) rows.length c :: .int .i64 k :: .pointer (some ⟨bb, off + k, none⟩) :: .slice ai L ci :: .slice xa L xc :: .slice (some ⟨w1.heap.size, 0, none⟩) 1 1 :: .slice (some ⟨g, 0, none⟩) (k + 1) gc :: _ :: _ :: []), defers := [] } _
          refine wpAnyH_take (i := 10) (v := .pointer (some ⟨C, 1, none⟩)) rfl (by kernel_rfl) (by kernel_rfl) (by kernel_rfl) (fun _ _ _ h => h) (Or.inl ⟨by kernel_rfl, fun w hS => by go_simp⟩) hHeld ?_
          change wpAnyH _ _ _ _ _ _ _ { tmps := List.toArray (_ :: _ :: _ :: _ :: _ :: _ :: _ :: _ :: _ :: _ :: _ :: _ :: _ :: _ :: _ :: _ :: .pointer (some ⟨C, 1, none⟩) :: .slice va2 k vc2 :: .pointer (some ⟨w.heap.size, 1, none⟩) :: .slice (some ⟨bb, off, none⟩) rows.length c :: .int .i64 k :: .pointer (some ⟨bb, off + k, none⟩) :: .slice ai L ci :: .slice xa L xc :: .slice (some ⟨w1.heap.size, 0, none⟩) 1 1 :: .slice (some ⟨g, 0, none⟩) (k + 1) gc :: .pointer (some ⟨C, 1, none⟩) :: _ :: []), defers := [] } _
          refine wpAnyH_ready (rs := [11]) (by kernel_rfl) (by simp) ?_
          refine (AllReadyH.cons rfl (fun KK hK => ?_) AllReadyH.nil)
          go_simp
          have x9 : (w3.setCell ⟨C, 1, none⟩ (.slice (some ⟨g, 0, none⟩) (k + 1) gc)).cell? ⟨w.heap.size, 1, none⟩ = some (.slice (some ⟨bb, off, none⟩) rows.length c) := by rw [cell_blk KS9]; rfl
          have p9 : (w3.setCell ⟨C, 1, none⟩ (.slice (some ⟨g, 0, none⟩) (k + 1) gc)).cell? ⟨bb, off + k, none⟩ = some (.slice ai L ci) := ble HB9 p0
          clear hHeld
          refine hK.out _ _ (⟨x9, p9⟩) (fun hHeld => ?_)
          clear hK KK
          change wpAnyH _ _ _ _ _ _ _ { tmps := List.toArray (_ :: _ :: _ :: _ :: _ :: _ :: _ :: _ :: _ :: _ :: _ :: _ :: _ :: _ :: _ :: _ :: .pointer (some ⟨C, 1, none⟩) :: .slice va2 k vc2 :: .pointer (some ⟨w.heap.size, 1, none⟩) :: .slice (some ⟨bb, off, none⟩) rows.length c :: .int .i64 k :: .pointer (some ⟨bb, off + k, none⟩) :: .slice ai L ci :: .slice xa L xc :: .slice (some ⟨w1.heap.size, 0, none⟩) 1 1 :: .slice (some ⟨g, 0, none⟩) (k + 1) gc :: .pointer (some ⟨C, 1, none⟩) :: _ :: []), defers := [] } _
          refine wpAnyH_done (by kernel_rfl) ?_ _
          clear CS hSd HBd KSd KRd KCd hO hb1 hS2 KC2 KC3 KS2 KR2 KS3 KR3 hown hgrow hwh far3 hA2 hAd x3 p3 x9 p9
          rw [← hst.out] at hS9 hA9
          go_wp2
          go_roundw
          case rel => exact ⟨k + 1, _, _, by omega, by go_num, hS9, hA9, KS9, KR9, KC9, HB9⟩
          case measure => simp [intOf]; omega
        · skip
          go_simp
          have s2 := ble (balloc w1 (.cells #[.slice xa L xc] 24)) s1
          clear hHeld
          refine hK.out _ _ (⟨ble (btrans hb1 (balloc w1 (.cells #[.slice xa L xc] 24))) x1d, ble (btrans hb1 (balloc w1 (.cells #[.slice xa L xc] 24))) p2d⟩) (fun hHeld => ?_)
          clear hK KK
          change wpAnyH _ _ _ _ _ _ _ { tmps := List.toArray (_ :: _ :: _ :: _ :: _ :: _ :: _ :: _ :: _ :: _ :: _ :: _ :: _ :: _ :: _ :: _ :: .pointer (some ⟨C, 1, none⟩) :: _ :: .pointer (some ⟨w.heap.size, 1, none⟩) :: .slice (some ⟨bb, off, none⟩) rows.length c :: .int .i64 k :: .pointer (some ⟨bb, off + k, none⟩) :: .slice ai L ci :: .slice xa L xc :: .slice (some ⟨w1.heap.size, 0, none⟩) 1 1 :: _ :: _ :: _ :: []), defers := [] } _
          refine wpAnyH_ready (rs := [1]) (by kernel_rfl) (by simp) ?_
          refine (AllReadyH.cons rfl (fun KK hK => ?_) AllReadyH.nil)
          go_simp
          clear hHeld
          refine hK.out _ _ (⟨ble (btrans hb1 (balloc w1 (.cells #[.slice xa L xc] 24))) x1d, ble (btrans hb1 (balloc w1 (.cells #[.slice xa L xc] 24))) p2d⟩) (fun hHeld => ?_)
          clear hK KK
          change wpAnyH _ _ _ _ _ _ _ { tmps := List.toArray (_ :: _ :: _ :: _ :: _ :: _ :: _ :: _ :: _ :: _ :: _ :: _ :: _ :: _ :: _ :: _ :: .pointer (some ⟨C, 1, none⟩) :: .slice va2 k vc2 :: .pointer (some ⟨w.heap.size, 1, none⟩) :: .slice (some ⟨bb, off, none⟩) rows.length c :: .int .i64 k :: .pointer (some ⟨bb, off + k, none⟩) :: .slice ai L ci :: .slice xa L xc :: .slice (some ⟨w1.heap.size, 0, none⟩) 1 1 :: _ :: _ :: _ :: []), defers := [] } _
          refine wpAnyH_ready (rs := [9]) (by kernel_rfl) (by simp) ?_
          refine (AllReadyH.cons rfl (fun KK hK => ?_) AllReadyH.nil)
          refine step_append_lies _ (by rfl) _ _ 25 (by rfl) w.heap.size 24 i1 (.slice none 0 0) 1 24 Try.underlying25 hi1 hy0 hy1 hy2 rfl (by omega) (.slice va2 k vc2) k vs (by rfl) (by have h9 := ((hSd.below hb1).below (balloc w1 (.cells #[.slice xa L xc] 24))).tab.own; rw [hNl.out] at h9; exact h9) ⟨w1.heap.size, 0, none⟩ 1 1 [.slice xa L xc] (by rfl) rfl (World.news_of_block (heap_alloc_new w1 _)) (fun u hu => by simp at hu; subst hu; rfl) (by omega) (by unfold maxLen; omega) (by omega) (by have := hb1.size; rw [sz1]; omega) (w1.heap.size + 1) (by rw [sz1]) ?_
          intro g gc w3 hown hgrow hwh hgl
          have hS2 := (hSd.below hb1).below (balloc w1 (.cells #[.slice xa L xc] 24))
          have KC2 := blk_keep (balloc w1 (.cells #[.slice xa L xc] 24)) (blk_keep hb1 KCd)
          have Bx := btrans hb1 (balloc w1 (.cells #[.slice xa L xc] 24))
          have hnew : ∀ b, (Value.slice xa L xc).ownBlock = some b → rv.ownBlock ≠ some b ∧ ∀ j, (hj : j < vs.length) → vs[j].ownBlock ≠ some b := fun b hb => by
            have h1 := (own_type hO b hb).1
            exact ⟨fun e => by have := (hSd.room.blk b e).2.1; omega, fun j hj e => by have := ((hSd.tab.each j hj).blk b e).2.1; omega⟩
          obtain ⟨hS9, KC9, KC3⟩ := hS2.more (v2 := .slice (some ⟨g, 0, none⟩) (k + 1) gc) KC2 (by rw [hNl.out]; exact hown) hgrow (RowI.base (RowI.below (RowI.own hO) (balloc w1 (.cells #[.slice xa L xc] 24))) hsd) hnew
          obtain ⟨⟨-, s3⟩, -, f3⟩ := blk2 KC3
          have far3 : ∀ b, b < w1.heap.size + 1 → (∀ cs t, ((w1.alloc (.cells #[.slice xa L xc] 24)).heap[b]? = some (.cells cs t (0, 0))) → t ≠ 24) → w3.heap[b]? = (w1.alloc (.cells #[.slice xa L xc] 24)).heap[b]? := fun b hb ht => hgrow.block b (by rw [sz1]; exact hb) (fun e => by
            obtain ⟨-, -, cur, h5⟩ := own_type hS2.tab.own b e.symm
            exact ht _ _ h5 rfl)
          have KS2 := blk_keep Bx KSd
          have KS3 : w3.heap[w.heap.size]? = _ := (far3 w.heap.size (by have := hb1.size; have := lt_of_block KSd; omega) (fun cs t h5 => by rw [KS2] at h5; simp only [Option.some.injEq, Obj.cells.injEq] at h5; rw [← h5.2.1]; decide)).trans KS2
          have KR2 := blk_keep Bx KRd
          have KR3 : w3.heap[w.heap.size + 1]? = _ := (far3 (w.heap.size + 1) (by have := hb1.size; have := lt_of_block KRd; omega) (fun cs t h5 => by rw [KR2] at h5; simp only [Option.some.injEq, Obj.cells.injEq] at h5; rw [← h5.2.1]; decide)).trans KR2
          have KS9 : (w3.setCell ⟨C, 1, none⟩ (.slice (some ⟨g, 0, none⟩) (k + 1) gc)).heap[w.heap.size]? = _ := (heap_setCell (by omega)).trans KS3
          have KR9 : (w3.setCell ⟨C, 1, none⟩ (.slice (some ⟨g, 0, none⟩) (k + 1) gc)).heap[w.heap.size + 1]? = _ := (heap_setCell (by omega)).trans KR3
          have HB3 : Below w.heap.size w w3 := (HBd.trans (Bx.mono hsd)).grown hgrow (by rw [sz1]; have := hb1.size; omega) (own_from hS2.tab.own (Nat.le_refl _))
          have HB9 : Below w.heap.size w (w3.setCell ⟨C, 1, none⟩ (.slice (some ⟨g, 0, none⟩) (k + 1) gc)) := below_set (by omega) HB3
          have hA2 : OwnAll w.heap.size (w1.alloc (.cells #[.slice xa L xc] 24)) (vs ++ [.slice xa L xc]) (rows.take k ++ [rwA rows k]) := (hAd.keep (fun j hj b hb => Bx.block b ((hSd.tab.each j hj).blk b hb).2.1)).push hSd.tab.len (by rw [hLl.out]; exact RowI.own_below (own_keep hO (balloc w1 (.cells #[.slice xa L xc] 24))) hsd)
          have hA9 : OwnAll w.heap.size (w3.setCell ⟨C, 1, none⟩ (.slice (some ⟨g, 0, none⟩) (k + 1) gc)) (vs ++ [.slice xa L xc]) (rows.take k ++ [rwA rows k]) := hA2.keep (fun j hj b hb => by
            obtain ⟨-, h6, cur, h5⟩ := own_type (hA2 j hj) b hb
            rw [sz1] at h6
            have hbC : b ≠ C := own_blk_ne (hA2 j hj) KC2 (by decide) b hb
            rw [heap_setCell hbC]
            exact far3 b h6 (fun cs t h7 => by rw [h5] at h7; simp only [Option.some.injEq, Obj.cells.injEq] at h7; rw [← h7.2.1]; decide))
          have x3 : w3.cell? ⟨w.heap.size, 1, none⟩ = some (.slice (some ⟨bb, off, none⟩) rows.length c) := by rw [cell_blk KS3]; rfl
          have p3 : w3.cell? ⟨bb, off + k, none⟩ = some (.slice ai L ci) := ble HB3 p0
          clear hHeld
          refine hK.out _ _ (⟨x3, p3⟩) (fun hHeld => ?_)
          clear hK KK
          change wpAnyH _ _ _ _ _ _ _ { tmps := List.toArray (_ :: _ :: _ :: _ :: _ :: _ :: _ :: _ :: _ :: _ :: _ :: _ :: _ :: _ :: _ :: _ :: .pointer (some ⟨C, 1, none⟩) :: .slice va2 k vc2 :: .pointer (some ⟨w.heap.size, 1, none⟩) :: .slice (some ⟨bb, off, none⟩) rows.length c :: .int .i64 k :: .pointer (some ⟨bb, off + k, none⟩) :: .slice ai L ci :: .slice xa L xc :: .slice (some ⟨w1.heap.size, 0, none⟩) 1 1 :: .slice (some ⟨g, 0, none⟩) (k + 1) gc :: _ :: _ :: []), defers := [] } _
          refine wpAnyH_take (i := 10) (v := .pointer (some ⟨C, 1, none⟩)) rfl (by kernel_rfl) (by kernel_rfl) (by kernel_rfl) (fun _ _ _ h => h) (Or.inl ⟨by kernel_rfl, fun w hS => by go_simp⟩) hHeld ?_
          change wpAnyH _ _ _ _ _ _ _ { tmps := List.toArray (_ :: _ :: _ :: _ :: _ :: _ :: _ :: _ :: _ :: _ :: _ :: _ :: _ :: _ :: _ :: _ :: .pointer (some ⟨C, 1, none⟩) :: .slice va2 k vc2 :: .pointer (some ⟨w.heap.size, 1, none⟩) :: .slice (some ⟨bb, off, none⟩) rows.length c :: .int .i64 k :: .pointer (some ⟨bb, off + k, none⟩) :: .slice ai L ci :: .slice xa L xc :: .slice (some ⟨w1.heap.size, 0, none⟩) 1 1 :: .slice (some ⟨g, 0, none⟩) (k + 1) gc :: .pointer (some ⟨C, 1, none⟩) :: _ :: []), defers := [] } _
          refine wpAnyH_ready (rs := [11]) (by kernel_rfl) (by simp) ?_
          refine (AllReadyH.cons rfl (fun KK hK => ?_) AllReadyH.nil)
          go_simp
          have x9 : (w3.setCell ⟨C, 1, none⟩ (.slice (some ⟨g, 0, none⟩) (k + 1) gc)).cell? ⟨w.heap.size, 1, none⟩ = some (.slice (some ⟨bb, off, none⟩) rows.length c) := by rw [cell_blk KS9]; rfl
          have p9 : (w3.setCell ⟨C, 1, none⟩ (.slice (some ⟨g, 0, none⟩) (k + 1) gc)).cell? ⟨bb, off + k, none⟩ = some (.slice ai L ci) := ble HB9 p0
          clear hHeld
          refine hK.out _ _ (⟨x9, p9⟩) (fun hHeld => ?_)
          clear hK KK
          change wpAnyH _ _ _ _ _ _ _ { tmps := List.toArray (_ :: _ :: _ :: _ :: _ :: _ :: _ :: _ :: _ :: _ :: _ :: _ :: _ :: _ :: _ :: _ :: .pointer (some ⟨C, 1, none⟩) :: .slice va2 k vc2 :: .pointer (some ⟨w.heap.size, 1, none⟩) :: .slice (some ⟨bb, off, none⟩) rows.length c :: .int .i64 k :: .pointer (some ⟨bb, off + k, none⟩) :: .slice ai L ci :: .slice xa L xc :: .slice (some ⟨w1.heap.size, 0, none⟩) 1 1 :: .slice (some ⟨g, 0, none⟩) (k + 1) gc :: .pointer (some ⟨C, 1, none⟩) :: _ :: []), defers := [] } _
          refine wpAnyH_done (by kernel_rfl) ?_ _
          clear CS hSd HBd KSd KRd KCd hO hb1 hS2 KC2 KC3 KS2 KR2 KS3 KR3 hown hgrow hwh far3 hA2 hAd x3 p3 x9 p9
          rw [← hst.out] at hS9 hA9
          go_wp2
          go_roundw
          case rel => exact ⟨k + 1, _, _, by omega, by go_num, hS9, hA9, KS9, KR9, KC9, HB9⟩
          case measure => simp [intOf]; omega
    · obtain rfl : k = rows.length := by omega
      rw [List.take_length] at hS hA
      obtain ⟨ta, tc, htv⟩ := own_form hS.tab.own
      subst htv
      subst hrvE
      obtain ⟨⟨c0, c1⟩, -⟩ := blk2 KC
      obtain ⟨⟨r0, r1⟩, f0, f1⟩ := blk2 KR
      have hSV := hS.box (p := .slice va room.length vc) (q := .slice ta rows.length tc) KR
      have KV := box_set (p := .slice va room.length vc) (q := .slice ta rows.length tc) KR
      have HBV : Below w.heap.size w ((wr.setCell ⟨w.heap.size + 1, 0, none⟩ (.slice va room.length vc)).setCell ⟨w.heap.size + 1, 1, none⟩ (.slice ta rows.length tc)) := below_set (by omega) (below_set (by omega) HB)
      have hAV : OwnAll w.heap.size ((wr.setCell ⟨w.heap.size + 1, 0, none⟩ (.slice va room.length vc)).setCell ⟨w.heap.size + 1, 1, none⟩ (.slice ta rows.length tc)) vs rows := hA.keep (fun j hj b hb => by have := own_blk_ne (hA j hj) KR (by decide) b hb; rw [heap_setCell this, heap_setCell this])
      obtain ⟨⟨v0, v1⟩, -⟩ := blk2 KV
      clear hS hA HB KV KC KS
      go_wp2
      generalize (wr.setCell ⟨w.heap.size + 1, 0, none⟩ (.slice va room.length vc)).setCell ⟨w.heap.size + 1, 1, none⟩ (.slice ta rows.length tc) = V at *
      refine bodyPost_ret (v := .agg #[.slice va room.length vc, .slice ta rows.length tc]) (by simp [results, Try.results57, v0, v1, go_sem]) rfl ?_
      exact ⟨_, _, _, _, _, rfl, hSV, hAV, HBV⟩
end Go.Proofs.Ytipechbhhpagiaa
