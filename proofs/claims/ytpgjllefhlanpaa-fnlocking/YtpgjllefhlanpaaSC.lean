/- The model's copies. -/
import Derived.Test.YtpgjllefhlanpaaSL
import Derived.Test.YtpgjllefhlanpaaLS
import Derived.Deep.AppendLies
import Derived.Deep.RegionLaw
namespace Go.Proofs.Ytpgjllefhlanpaa
open Go.RowKit

set_option maxHeartbeats 1600000 in
theorem cCopyInts (a : Option Addr) (cap : Nat) (zs : List Int) (w : World) (hz : Ints w a zs) (hl : zs.length ≤ 1048576) :
    Calls Try.prog 64 #[.slice a zs.length cap] w fun e w' => ∃ v, e = .returned v ∧ w'.ownsRow w.heap.size 3 1 v zs.length (zs.map (.int .i64)) ∧ Below w.heap.size w w' := by
  obtain ⟨i0, hi, hz0, hz1, hz2⟩ := info_parts2 infoInts
  go_enter Try.func64, Try.ntmps64
  go_wp2
  go_loopw [3, 4] (fun o i wr => ∃ k : Nat, k ≤ zs.length ∧ i = .int .i64 k ∧ wr.ownsRow w.heap.size 3 1 o k ((zs.take k).map (.int .i64)) ∧ Below w.heap.size w wr) (fun _ i _ => zs.length - (intOf i).toNat)
  case atStart => exact ⟨0, Nat.zero_le _, rfl, by simpa using World.ownsRow_made w #[] 0 (Nat.le_refl _) (by omega) rfl, balloc _ _⟩
  case round =>
    obtain ⟨k, hk, rfl, hown, hb⟩ := hrel
    by_cases hlt : k < zs.length
    · rcases hz with h | ⟨b, off, rfl, hc⟩
      · simp [h] at hlt
      have q0 := ble hb (hc k hlt)
      have e0 : zs.getD k 0 = zs[k] := by simp [List.getD, hlt]
      rw [e0] at q0
      have hst := hide (take_snoc hlt)
      generalize zs[k] = y at *
      have hsz := hb.size
      clear hc e0
      go_wp2_with (at_builtin; refine wpList_append_own _ rfl _ _ 24 rfl w.heap.size 3 i0 (.int .i64 0) 1 8 Try.underlying24 hi hz0 hz1 hz2 rfl (by decide) _ _ _ rfl (hown.alloc _) ⟨wr.heap.size, 0, none⟩ 1 1 [.int .i64 y] rfl rfl ?c1 ?c2 ?c3 ?c4 ?c5 ?_)
      case c1 =>
        intro j u hj
        match j, hj with
        | 0, hj => simp at hj; subst hj; simp [Addr.add]
      case c2 => intro u hu; simp at hu; subst hu; rfl
      case c3 => unfold maxLen; omega
      case c4 => omega
      case c5 => simp; omega
      intro v' w5 hown' hgrow _
      have hfrom := own_from hown (Nat.le_refl _)
      have hbel' : Below w.heap.size w w5 := (hb.alloc hsz _).grown hgrow (by simp; omega) (fun j e => by have := hfrom j e; omega)
      have hown2 : w5.ownsRow w.heap.size 3 1 v' (k + 1) ((zs.take (k + 1)).map (.int .i64)) := by
        rw [← hst.out, List.map_append, List.map_take]; exact hown'
      clear hown hown' hgrow hb hfrom
      go_wp2
      go_roundw
      case rel => exact ⟨k + 1, by omega, by go_num, hown2, hbel'⟩
      case measure => simp [intOf]; omega
    · obtain rfl : k = zs.length := by omega
      rw [List.take_length] at hown
      clear hz
      go_wp2
      go_ret
      exact ⟨_, rfl, hown, hb⟩

/-- A row behind an append elsewhere. -/
theorem own_grown {w w' : World} {base e sz n : Nat} {v u : Value} {xs : List Value} (h : w.ownsRow base e sz v n xs) (hg : w.grownBy w' u.ownBlock) (hd : ∀ k, v.ownBlock = some k → u.ownBlock ≠ some k) : w'.ownsRow base e sz v n xs :=
  own_far h hg (fun k hk e => hd k hk e.symm)
theorem blk_grown {w w' : World} {r : Option Nat} (hg : w.grownBy w' r) {g : Nat} {o : Obj} (h : w.heap[g]? = some o) (hn : ∀ k, r = some k → k ≠ g) : w'.heap[g]? = some o :=
  (hg.block g (lt_of_block h) (fun e => hn g e.symm rfl)).trans h

set_option maxRecDepth 20000 in
set_option maxHeartbeats 6400000 in
theorem cCopyLock (x y z : Option Addr) (cx cy cz : Nat) (l : LockV) (w : World) (hL : LockIn w x y z l) (hT : LSmall l) :
    Calls Try.prog 53 #[lockVal x cx y cy z cz l] w fun e w' => ∃ x' cx' y' cy' z' cz', e = .returned (lockVal x' cx' y' cy' z' cz' l) ∧ LockOwn w' w.heap.size w'.heap.size x' cx' y' cy' z' cz' l ∧ Below w.heap.size w w' := by
  obtain ⟨i0, hi, hz0, hz1, hz2⟩ := info_parts2 infoBools
  have C1 := fun w h => cCopyInts x cx l.pos w h hT.pos
  have T2 := hT.set
  have T3 := hT.taken
  unfold lockVal
  have HB := btrans (balloc w (.cells #[.slice x l.pos.length cx, .slice y l.set.length cy, .slice z l.taken.length cz] 33)) (balloc _ (.cells #[.slice none 0 0, .slice none 0 0, .slice none 0 0] 33))
  have K0 : ((w.alloc (.cells #[.slice x l.pos.length cx, .slice y l.set.length cy, .slice z l.taken.length cz] 33)).alloc (.cells #[.slice none 0 0, .slice none 0 0, .slice none 0 0] 33)).heap[w.heap.size]? = some (.cells #[.slice x l.pos.length cx, .slice y l.set.length cy, .slice z l.taken.length cz] 33 (0, 0)) := two_blocks1 _ _ _
  have K1 : ((w.alloc (.cells #[.slice x l.pos.length cx, .slice y l.set.length cy, .slice z l.taken.length cz] 33)).alloc (.cells #[.slice none 0 0, .slice none 0 0, .slice none 0 0] 33)).heap[w.heap.size + 1]? = some (.cells #[.slice none 0 0, .slice none 0 0, .slice none 0 0] 33 (0, 0)) := two_blocks2 _ _ _
  go_enter Try.func53, Try.ntmps53
  go_wp2_with fail
  refine (C1 _ (hL.pos.below HB)).mono ?_
  rintro e w1 ⟨v1, rfl, o1, hb⟩
  have s0 : w.heap.size + 1 + 1 ≤ w1.heap.size := by have := hb.size; simpa using this
  have O1 := Go.Joins.ownsRow_le o1 (base' := w.heap.size + 1 + 1) (by simp)
  obtain ⟨x1, cx1, rfl⟩ := own_form o1
  have m1 := own_blk_lt o1
  have hba := balloc w1 (.cells #[.slice x1 l.pos.length cx1, .slice none 0 0, .slice none 0 0] 33)
  have K2 : (w1.alloc (.cells #[.slice x1 l.pos.length cx1, .slice none 0 0, .slice none 0 0] 33)).heap[w1.heap.size]? = some (.cells #[.slice x1 l.pos.length cx1, .slice none 0 0, .slice none 0 0] 33 (0, 0)) := new1
  have K0a := blk_keep hba (blk_keep hb K0)
  have K1a := blk_keep hba (blk_keep hb K1)
  have HB1 := btrans (btrans HB hb) hba
  have O1a := own_keep O1 hba
  clear o1 O1 hb hba K0 K1 HB C1
  go_wp2
  go_loopw [4] (fun i wr => ∃ (k : Nat) (y1 : Option Addr) (cy1 : Nat), k ≤ l.set.length ∧ i = .int .i64 k ∧ wr.ownsRow (w1.heap.size + 1) 4 1 (.slice y1 k cy1) k ((l.set.take k).map .bool) ∧ wr.ownsRow (w.heap.size + 1 + 1) 3 1 (.slice x1 l.pos.length cx1) l.pos.length (l.pos.map (.int .i64)) ∧ Below w.heap.size w wr ∧ w1.heap.size + 1 ≤ wr.heap.size ∧
      wr.heap[w.heap.size]? = some (.cells #[.slice x l.pos.length cx, .slice y l.set.length cy, .slice z l.taken.length cz] 33 (0, 0)) ∧ wr.heap[w.heap.size + 1]? = some (.cells #[.slice none 0 0, .slice none 0 0, .slice none 0 0] 33 (0, 0)) ∧ wr.heap[w1.heap.size]? = some (.cells #[.slice x1 l.pos.length cx1, .slice y1 k cy1, .slice none 0 0] 33 (0, 0))) (fun i _ => l.set.length - (intOf i).toNat)
  case atStart => exact ⟨0, none, 0, Nat.zero_le _, rfl, by simpa using World.ownsRow_nil _ _ _ _, O1a, HB1, by simp, K0a, K1a, K2⟩
  case round =>
    obtain ⟨k, y1, cy1, hk, rfl, o2, O1, hb, hsz, k0, k1, k2⟩ := hrel
    clear K0a K1a K2 HB1 O1a
    obtain ⟨⟨u0, u1, u2⟩, -⟩ := blk3 k0
    obtain ⟨⟨v0, v1, v2⟩, f0, f1, f2⟩ := blk3 k2
    by_cases hlt : k < l.set.length
    · have hst := hide (take_snoc hlt)
      have hys := hL.set
      rcases hys with h | ⟨yb, yo, rfl, hyc⟩
      · simp [h] at hlt
      have q0 := ble hb (hyc k hlt)
      have e0 : l.set.getD k false = l.set[k] := by simp [List.getD, hlt]
      rw [e0] at q0
      generalize l.set[k] = q at *
      have hlt' : (k : Int) < l.set.length := by omega
      have hfrom := own_from o2 (Nat.le_refl _)
      have m1' : ∀ j, (Value.slice x1 l.pos.length cx1).ownBlock = some j → j < w1.heap.size := m1
      have va : ∀ o, (wr.alloc o).cell? ⟨w1.heap.size, 1, none⟩ = some (.slice y1 k cy1) := fun o => ble (balloc _ _) v1
      clear hyc e0
      go_wp2_with fail
      go_region_law
        ((refine step_append_lies _ (by rfl) _ _ _ (by rfl) (w1.heap.size + 1) 4 i0 _ 1 1 Try.underlying31 hi hz0 hz1 hz2 rfl (by omega) (.slice y1 k cy1) k ((l.set.take k).map .bool) (by rfl) ((o2.drew).alloc _)
            ⟨wr.heap.size, 0, none⟩ 1 1 [.bool q] (by rfl) (by rfl) (World.news_of_block (cs := #[.bool q]) (t := 4) (fr := (0, 0)) (new1 (w := wr.drew))) (by simp [Value.oneCell'])
            (by omega) (by unfold maxLen; omega) (by omega) (by simp; omega) (wr.heap.size + 1) (by simp) ?_; intro g cap w2 hown hgrow hat hlt2; obtain ⟨⟨v0', v1', v2'⟩, f0', f1', f2'⟩ := blk3 (blk_grown hgrow (blk_keep (balloc wr.drew (.cells #[.bool q] 4)) k2) (fun j hj => by have := hfrom j hj; omega))))
      all_goals have hba := balloc wr.drew (.cells #[.bool q] 4)
      all_goals have hbw : Below w.heap.size w (wr.drew.alloc (.cells #[.bool q] 4)) := btrans hb (btrans (bdraw (Below.refl _ _) 1) hba)
      all_goals have HB2 : Below w.heap.size w w2 := hbw.grown hgrow hbw.size (fun j e => by have := hfrom j e; omega)
      all_goals have HB3 := below_set (o := 1) (v := .slice (some ⟨g, 0, none⟩) (k + 1) cap) (b := w1.heap.size) (by omega) HB2
      all_goals have hnb : ∀ j, (Value.slice y1 k cy1).ownBlock = some j → w1.heap.size < j := fun j e => by have := hfrom j e; omega
      all_goals have kk0 := blk_other (i := 1) (v := .slice (some ⟨g, 0, none⟩) (k + 1) cap) (b := w1.heap.size) (blk_grown hgrow (blk_keep hba k0) (fun j hj => by have := hnb j hj; omega)) (by omega)
      all_goals have kk1 := blk_other (i := 1) (v := .slice (some ⟨g, 0, none⟩) (k + 1) cap) (b := w1.heap.size) (blk_grown hgrow (blk_keep hba k1) (fun j hj => by have := hnb j hj; omega)) (by omega)
      all_goals have kk2 := blk_set (i := 1) (v := .slice (some ⟨g, 0, none⟩) (k + 1) cap) (blk_grown hgrow (blk_keep hba k2) (fun j hj => by have := hnb j hj; omega))
      all_goals simp only [List.setIfInBounds_toArray, List.set_cons_zero, List.set_cons_succ] at kk2
      all_goals have oo1 := own_set (b := w1.heap.size) (i := 1) (u := .slice (some ⟨g, 0, none⟩) (k + 1) cap) (own_grown ((O1.drew).alloc (.cells #[.bool q] 4)) hgrow (fun j hj e => by have := hnb j e; have := m1' j hj; omega)) (fun j hj => by have := m1' j hj; omega)
      all_goals have oo2 := own_set (b := w1.heap.size) (i := 1) (u := .slice (some ⟨g, 0, none⟩) (k + 1) cap) hown (fun j hj => by have := own_from hown (Nat.le_refl _) j hj; omega)
      all_goals rw [show (l.set.take k).map Value.bool ++ [Value.bool q] = (l.set.take (k + 1)).map .bool by rw [← hst.out, List.map_append]; rfl] at oo2
      all_goals have ss : w1.heap.size + 1 ≤ (w2.setCell ⟨w1.heap.size, 1, none⟩ (.slice (some ⟨g, 0, none⟩) (k + 1) cap)).heap.size := (by have h2 : wr.heap.size + 1 ≤ w2.heap.size := Nat.le_trans (Nat.le_of_eq (sz1 wr _).symm) hgrow.size; simp only [World.size_setCell]; omega)
      all_goals clear hown hgrow hat v0' v1' v2' f0' f1' f2' hba hbw HB2 hnb k0 k1 k2 O1 o2 hb va
      all_goals go_wp2
      all_goals exact ⟨⟨k + 1, some ⟨g, 0, none⟩, cap, by omega, by go_num, oo2, oo1, HB3, ss, kk0, kk1, kk2⟩, by simp [intOf]; omega⟩
    obtain rfl : k = l.set.length := by omega
    rw [List.take_length] at o2
    have m2 := own_blk_lt o2
    go_wp2
    clear u0 u1 u2 v0 v1 v2 f0 f1 f2
    obtain ⟨wo, hwo⟩ : ∃ wo, wo = wr := ⟨wr, rfl⟩
    rw [← hwo] at hb k0 k1 k2 o2 O1 hsz m2
    rw [← hwo]
    clear hwo
    have b2 : w1.heap.size + 1 ≤ wo.heap.size := hsz
    go_loopw [5] (fun i wr => ∃ (k : Nat) (z1 : Option Addr) (cz1 : Nat), k ≤ l.taken.length ∧ i = .int .i64 k ∧ wr.ownsRow wo.heap.size 4 1 (.slice z1 k cz1) k ((l.taken.take k).map .bool) ∧ wr.ownsRow (w1.heap.size + 1) 4 1 (.slice y1 l.set.length cy1) l.set.length (l.set.map .bool) ∧ wr.ownsRow (w.heap.size + 1 + 1) 3 1 (.slice x1 l.pos.length cx1) l.pos.length (l.pos.map (.int .i64)) ∧ Below w.heap.size w wr ∧ wo.heap.size ≤ wr.heap.size ∧
      wr.heap[w.heap.size]? = some (.cells #[.slice x l.pos.length cx, .slice y l.set.length cy, .slice z l.taken.length cz] 33 (0, 0)) ∧ wr.heap[w.heap.size + 1]? = some (.cells #[.slice none 0 0, .slice none 0 0, .slice none 0 0] 33 (0, 0)) ∧ wr.heap[w1.heap.size]? = some (.cells #[.slice x1 l.pos.length cx1, .slice y1 l.set.length cy1, .slice z1 k cz1] 33 (0, 0))) (fun i _ => l.taken.length - (intOf i).toNat)
    case atStart => exact ⟨0, none, 0, Nat.zero_le _, rfl, by simpa using World.ownsRow_nil _ _ _ _, o2, O1, hb, Nat.le_refl _, k0, k1, k2⟩
    case round =>
      obtain ⟨k, z1, cz1, hk, rfl, o3, O2, OO1, hb2, hsz2, k0', k1', k2'⟩ := hrel
      clear k0 k1 k2 hb O1 o2 hsz
      obtain ⟨⟨u0, u1, u2⟩, -⟩ := blk3 k0'
      obtain ⟨⟨v0, v1, v2⟩, f0, f1, f2⟩ := blk3 k2'
      by_cases hlt : k < l.taken.length
      · have hst := hide (take_snoc hlt)
        have hzs := hL.taken
        rcases hzs with h | ⟨zb, zo, rfl, hzc⟩
        · simp [h] at hlt
        have q0 := ble hb2 (hzc k hlt)
        have e0 : l.taken.getD k false = l.taken[k] := by simp [List.getD, hlt]
        rw [e0] at q0
        generalize l.taken[k] = q at *
        have hlt' : (k : Int) < l.taken.length := by omega
        have hfrom := own_from o3 (Nat.le_refl _)
        have m1' : ∀ j, (Value.slice x1 l.pos.length cx1).ownBlock = some j → j < w1.heap.size := m1
        have va : ∀ o, (wr.alloc o).cell? ⟨w1.heap.size, 2, none⟩ = some (.slice z1 k cz1) := fun o => ble (balloc _ _) v2
        clear hzc e0
        go_wp2_with fail
        go_region_law
          ((refine step_append_lies _ (by rfl) _ _ _ (by rfl) wo.heap.size 4 i0 _ 1 1 Try.underlying31 hi hz0 hz1 hz2 rfl (by omega) (.slice z1 k cz1) k ((l.taken.take k).map .bool) (by rfl) ((o3.drew).alloc _)
                ⟨wr.heap.size, 0, none⟩ 1 1 [.bool q] (by rfl) (by rfl) (World.news_of_block (cs := #[.bool q]) (t := 4) (fr := (0, 0)) (new1 (w := wr.drew))) (by simp [Value.oneCell'])
                (by omega) (by unfold maxLen; omega) (by omega) (by simp; omega) (wr.heap.size + 1) (by simp) ?_; intro g cap w2 hown hgrow hat hlt2; obtain ⟨⟨v0', v1', v2'⟩, f0', f1', f2'⟩ := blk3 (blk_grown hgrow (blk_keep (balloc wr.drew (.cells #[.bool q] 4)) k2') (fun j hj => by have := hfrom j hj; omega))))
        all_goals have hba := balloc wr.drew (.cells #[.bool q] 4)
        all_goals have hbw : Below w.heap.size w (wr.drew.alloc (.cells #[.bool q] 4)) := btrans hb2 (btrans (bdraw (Below.refl _ _) 1) hba)
        all_goals have HB2 : Below w.heap.size w w2 := hbw.grown hgrow hbw.size (fun j e => by have := hfrom j e; omega)
        all_goals have HB3 := below_set (o := 2) (v := .slice (some ⟨g, 0, none⟩) (k + 1) cap) (b := w1.heap.size) (by omega) HB2
        all_goals have hnb : ∀ j, (Value.slice z1 k cz1).ownBlock = some j → wo.heap.size ≤ j := fun j e => hfrom j e
        all_goals have kk0 := blk_other (i := 2) (v := .slice (some ⟨g, 0, none⟩) (k + 1) cap) (b := w1.heap.size) (blk_grown hgrow (blk_keep hba k0') (fun j hj => by have := hnb j hj; omega)) (by omega)
        all_goals have kk1 := blk_other (i := 2) (v := .slice (some ⟨g, 0, none⟩) (k + 1) cap) (b := w1.heap.size) (blk_grown hgrow (blk_keep hba k1') (fun j hj => by have := hnb j hj; omega)) (by omega)
        all_goals have kk2 := blk_set (i := 2) (v := .slice (some ⟨g, 0, none⟩) (k + 1) cap) (blk_grown hgrow (blk_keep hba k2') (fun j hj => by have := hnb j hj; omega))
        all_goals simp only [List.setIfInBounds_toArray, List.set_cons_zero, List.set_cons_succ] at kk2
        all_goals have oo1 := own_set (b := w1.heap.size) (i := 2) (u := .slice (some ⟨g, 0, none⟩) (k + 1) cap) (own_grown ((OO1.drew).alloc (.cells #[.bool q] 4)) hgrow (fun j hj e => by have := hnb j e; have := m1' j hj; omega)) (fun j hj => by have := m1' j hj; omega)
        all_goals have oo2 := own_set (b := w1.heap.size) (i := 2) (u := .slice (some ⟨g, 0, none⟩) (k + 1) cap) (own_grown ((O2.drew).alloc (.cells #[.bool q] 4)) hgrow (fun j hj e => by have := hnb j e; have := m2 j hj; omega)) (fun j hj => by have := own_from O2 (Nat.le_refl _) j hj; omega)
        all_goals have oo3 := own_set (b := w1.heap.size) (i := 2) (u := .slice (some ⟨g, 0, none⟩) (k + 1) cap) hown (fun j hj => by have := own_from hown (Nat.le_refl _) j hj; omega)
        all_goals rw [show (l.taken.take k).map Value.bool ++ [Value.bool q] = (l.taken.take (k + 1)).map .bool by rw [← hst.out, List.map_append]; rfl] at oo3
        all_goals have ss : wo.heap.size ≤ (w2.setCell ⟨w1.heap.size, 2, none⟩ (.slice (some ⟨g, 0, none⟩) (k + 1) cap)).heap.size := (by have h2 : wr.heap.size + 1 ≤ w2.heap.size := Nat.le_trans (Nat.le_of_eq (sz1 wr _).symm) hgrow.size; simp only [World.size_setCell]; omega)
        all_goals clear hown hgrow hat v0' v1' v2' f0' f1' f2' hba hbw HB2 hnb k0' k1' k2' OO1 O2 o3 hb2 va
        all_goals go_wp2
        all_goals exact ⟨⟨k + 1, some ⟨g, 0, none⟩, cap, by omega, by go_num, oo3, oo2, oo1, HB3, ss, kk0, kk1, kk2⟩, by simp [intOf]; omega⟩
      obtain rfl : k = l.taken.length := by omega
      rw [List.take_length] at o3
      have m3 := own_blk_lt o3
      obtain ⟨⟨r0, r1, r2⟩, g0, g1, g2⟩ := blk3 k1'
      have O3 := own3 OO1 O2 o3 rfl rfl rfl (fun j hj => by have := m1 j hj; omega) m2 m3 (by omega) b2 hsz2
      have mO := ((O3.setFar (g := w.heap.size + 1) (i := 0) (u := .slice x1 l.pos.length cx1) (by omega)).setFar (g := w.heap.size + 1) (i := 1) (u := .slice y1 l.set.length cy1) (by omega)).setFar (g := w.heap.size + 1) (i := 2) (u := .slice z1 l.taken.length cz1) (by omega)
      have mB := below_set (o := 2) (v := .slice z1 l.taken.length cz1) (b := w.heap.size + 1) (by omega) (below_set (o := 1) (v := .slice y1 l.set.length cy1) (b := w.heap.size + 1) (by omega) (below_set (o := 0) (v := .slice x1 l.pos.length cx1) (b := w.heap.size + 1) (by omega) hb2))
      clear o3 O2 OO1 O3 k0' k1' k2' hb2
      go_wp2_with fail
      refine bodyPost_ret (v := .agg #[.slice x1 l.pos.length cx1, .slice y1 l.set.length cy1, .slice z1 l.taken.length cz1]) (by simp [results, Try.results53, go_sem, r0, r1, r2]) rfl ⟨x1, cx1, y1, cy1, z1, cz1, rfl, ?_, mB⟩
      exact mO.wider (by omega) (by simp)
end Go.Proofs.Ytpgjllefhlanpaa
