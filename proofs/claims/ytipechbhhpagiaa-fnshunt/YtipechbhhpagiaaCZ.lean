/- The yard of the program: given away as sidings; a piece drawn; a shunt. -/
import Derived.Test.YtipechbhhpagiaaCY
namespace Go.Proofs.Ytipechbhhpagiaa
open Go.RowKit
theorem YardO.size {B Y : Nat} {w : World} {rv v : Value} {vs : List Value} {room : List Int} {rows : List (List Int)} (h : YardO B w Y rv v vs room rows) : B ≤ w.heap.size := Nat.le_trans h.low (Nat.le_of_lt (lt_of_block h.blk))
set_option maxRecDepth 20000 in
set_option maxHeartbeats 6400000 in
theorem cBack (B Y : Nat) (rv v : Value) (vs : List Value) (room : List Int) (rows : List (List Int)) (w : World) (h : YardO B w Y rv v vs room rows) (lR : rows.length ≤ 1048576) :
    Calls Try.prog 52 #[.pointer (some ⟨Y, 0, none⟩)] w fun e w' => ∃ v2, e = .returned (.agg #[rv, v2]) ∧ SidO B w' rv v2 vs room rows ∧ Below w.heap.size w w' := by
  obtain ⟨i0, hi, hz0, hz1, hz2⟩ := info_parts infoIntS
  obtain ⟨ra, rc, hrv, -⟩ := h.room.form
  obtain ⟨ta, tc, htv⟩ := own_form h.tab.own
  have hvl := hide h.tab.len
  have hB := h.size
  have hYw := lt_of_block h.blk
  have b1 := balloc w (.cells #[.slice none 0 0, .slice none 0 0] 27)
  have k1 := heap_alloc_new w (.cells #[.slice none 0 0, .slice none 0 0] 27)
  obtain ⟨W1, hW1⟩ : ∃ W, W = w.alloc (.cells #[.slice none 0 0, .slice none 0 0] 27) := ⟨_, rfl⟩
  have z1 : W1.heap.size = w.heap.size + 1 := by rw [hW1]; exact sz1 _ _
  rw [← hW1] at b1 k1
  have b2 := balloc W1 (.cells #[rv, .slice none 0 0] 27)
  have k2 := heap_alloc_new W1 (.cells #[rv, .slice none 0 0] 27)
  have KR0 := blk_keep b2 k1
  rw [z1] at k2
  have HB0 := btrans b1 b2
  have hy1 := (h.keep b1).blk
  have hy2 := ((h.keep b1).keep b2).blk
  rw [hW1] at KR0 k2 HB0 hy1 hy2
  obtain ⟨⟨y0, -⟩, -⟩ := blk2 hy1
  obtain ⟨⟨-, y1⟩, -⟩ := blk2 hy2
  clear b1 k1 b2 z1 hW1 W1 hy1 hy2
  subst hrv
  subst htv
  go_enter Try.func52, Try.ntmps52
  go_wp2
  clear y0 y1
  generalize ((w.alloc (Obj.cells #[Value.slice none 0 0, Value.slice none 0 0] 27)).alloc (Obj.cells #[Value.slice ra room.length rc, Value.slice none 0 0] 27)) = W2 at *
  generalize hrvE : Value.slice ra room.length rc = rv at *
  go_loopw [5, 16] (fun _ i wr => ∃ (k : Nat) (v2 : Value), k ≤ rows.length ∧ i = .int .i64 k ∧ wr.heap[w.heap.size]? = some (.cells #[.slice none 0 0, .slice none 0 0] 27 (0, 0)) ∧ wr.heap[w.heap.size + 1]? = some (.cells #[rv, v2] 27 (0, 0)) ∧ wr.ownsRow (w.heap.size + 1 + 1) 24 1 v2 k (vs.take k) ∧ Below w.heap.size w wr) (fun _ i _ => rows.length - (intOf i).toNat)
  case atStart => exact ⟨0, _, by omega, rfl, KR0, k2, World.ownsRow_nil _ _ _ _, HB0⟩
  case round =>
    obtain ⟨k, v2, hk, rfl, KR, KC, hO, HB⟩ := hrel
    clear KR0 k2 HB0
    obtain ⟨v2a, v2c, rfl⟩ := own_form hO
    have hCs := lt_of_block KC
    by_cases hlt : k < rows.length
    · have hkv : k < vs.length := by have := hvl.out; omega
      obtain ⟨T, rfl⟩ : ∃ T, ta = some ⟨T, 0, none⟩ := by
        rcases h.tab.own.2 with ⟨_, e2⟩ | ⟨g, _, _, e, _⟩
        · omega
        · simp only [Value.slice.injEq] at e; exact ⟨g, e.1⟩
      have p := ble HB (h.tab.cell hkv)
      obtain ⟨ai, ci, hv, -⟩ := (h.tab.each k hkv).form
      have hst := hide (List.take_succ_eq_append_getElem hkv)
      rw [hv] at p hst
      generalize (rwA rows k).length = L at *
      have a1 := balloc wr (.cells #[.slice ai L ci] 94)
      have q1 := blk_keep a1 KC
      obtain ⟨⟨-, c1⟩, -⟩ := blk2 q1
      have a2 := balloc (wr.alloc (.cells #[.slice ai L ci] 94)) (.cells #[.slice ai L ci] 24)
      have hN := heap_alloc_new (wr.alloc (.cells #[.slice ai L ci] 94)) (.cells #[.slice ai L ci] 24)
      rw [sz1] at hN
      have hO2 := own_keep (own_keep hO a1) a2
      have hz2' : ((wr.alloc (.cells #[.slice ai L ci] 94)).alloc (.cells #[.slice ai L ci] 24)).heap.size = wr.heap.size + 1 + 1 := by rw [sz1, sz1]
      have KC2 := blk_keep a2 q1
      have KR2 := blk_keep a2 (blk_keep a1 KR)
      have HB2 := btrans (btrans HB a1) a2
      clear hv q1 a1 a2 hO KR HB
      go_wp2_with (at_builtin; refine wpList_append_own _ rfl _ _ 25 rfl (w.heap.size + 1 + 1) 24 i0 (.slice none 0 0) 1 24 Try.underlying25 hi hz0 hz1 hz2 rfl (by decide) _ _ _ rfl hO2 ⟨wr.heap.size + 1, 0, none⟩ 1 1 [.slice ai L ci] rfl rfl (World.news_of_block hN) (fun u hu => by simp at hu; subst hu; rfl) (by unfold maxLen; omega) (by omega) (by rw [hz2']; omega) ?_; intro v5 w5 hown hgrow _; have hfrom := own_from hO2 (Nat.le_refl _); have KC5 := (hgrow.block (w.heap.size + 1) (by rw [hz2']; omega) (fun e => by have := hfrom _ e.symm; omega)).trans KC2; obtain ⟨⟨-, c5⟩, -, f5⟩ := blk2 KC5; obtain ⟨v5a, v5c, hv5⟩ := own_form hown; subst hv5)
      have KR5 := (hgrow.block w.heap.size (by rw [hz2']; omega) (fun e => by have := hfrom _ e.symm; omega)).trans KR2
      have KC6 : (w5.setCell ⟨w.heap.size + 1, 1, none⟩ (.slice v5a (k + 1) v5c)).heap[w.heap.size + 1]? = some (.cells #[rv, .slice v5a (k + 1) v5c] 27 (0, 0)) := by rw [heap_setCell_same w5 _ 1 _ _ _ KC5]; rfl
      have KR6 : (w5.setCell ⟨w.heap.size + 1, 1, none⟩ (.slice v5a (k + 1) v5c)).heap[w.heap.size]? = _ := (heap_setCell (by omega)).trans KR5
      have hO6 := own_set (i := 1) (b := w.heap.size + 1) (u := .slice v5a (k + 1) v5c) hown (fun j hj e => by have := own_from hown (Nat.le_refl _) j hj; omega)
      rw [← hst.out] at hO6
      have HB6 : Below w.heap.size w (w5.setCell ⟨w.heap.size + 1, 1, none⟩ (.slice v5a (k + 1) v5c)) := below_set (by omega) (HB2.grown hgrow HB2.size (fun j e => by have := hfrom j e; omega))
      clear hown hgrow hO2 KC2 KR2 HB2 KC5 KR5 hN c1 c5 f5 p hst
      go_wp2
      go_roundw
      case rel => exact ⟨k + 1, _, by omega, by go_num, KR6, KC6, hO6, HB6⟩
      case measure => simp [intOf]; omega
    · obtain rfl : k = rows.length := by omega
      rw [List.take_of_length_le (by have := hvl.out; omega)] at hO
      have hS : SidO B wr rv (.slice v2a rows.length v2c) vs room rows := ⟨h.room.below HB, ⟨RowI.own_below hO (by omega), fun j hj => (h.tab.each j hj).below HB, h.tab.pair⟩, h.far⟩
      have hge : ∀ b, SidB rv (.slice v2a rows.length v2c) vs b → b ≠ w.heap.size ∧ b ≠ w.heap.size + 1 := by
        rintro b (hb | hb | ⟨j, hj, hb⟩)
        · have := (h.room.blk b hb).2.1; omega
        · have := own_from hO (Nat.le_refl _) b hb; omega
        · have := ((h.tab.each j hj).blk b hb).2.1; omega
      obtain ⟨⟨c0, c1⟩, -⟩ := blk2 KC
      obtain ⟨⟨r0, r1⟩, f0, f1⟩ := blk2 KR
      subst hrvE
      go_wp2
      obtain ⟨V, hV⟩ : ∃ V, V = (wr.setCell ⟨w.heap.size, 0, none⟩ (.slice ra room.length rc)).setCell ⟨w.heap.size, 1, none⟩ (.slice v2a rows.length v2c) := ⟨_, rfl⟩
      have KV : V.heap[w.heap.size]? = some (.cells #[.slice ra room.length rc, .slice v2a rows.length v2c] 27 (0, 0)) := by
        have q2 := heap_setCell_same _ _ 0 _ _ (.slice ra room.length rc) KR
        have q3 := heap_setCell_same _ _ 1 _ _ (.slice v2a rows.length v2c) q2
        rw [hV, q3]; rfl
      obtain ⟨⟨v0, v1⟩, -⟩ := blk2 KV
      have hSV := hS.keep (w' := V) (fun b hb => by have := hge b hb; rw [hV, heap_setCell (by omega), heap_setCell (by omega)])
      have HBV : Below w.heap.size w V := by rw [hV]; exact below_set (by omega) (below_set (by omega) HB)
      rw [← hV]
      clear hV KV hS HB KC KR hO
      refine bodyPost_ret (v := .agg #[.slice ra room.length rc, .slice v2a rows.length v2c]) (by simp [results, Try.results52, v0, v1, go_sem]) rfl ?_
      exact ⟨_, rfl, hSV, HBV⟩
end Go.Proofs.Ytipechbhhpagiaa
