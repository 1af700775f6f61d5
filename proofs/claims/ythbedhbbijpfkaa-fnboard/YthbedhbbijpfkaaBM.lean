/- byMinute of departures. -/
import Derived.Test.YthbedhbbijpfkaaDB
import Derived.Test.YthbedhbbijpfkaaShelfD
import Derived.Deep.RegionHeld3
import Derived.Shelf.SlSortCmp.WholeK
import Derived.Shelf.SlSortCmp.NoneTotal
namespace Go.Proofs.Ythbedhbbijpfkaa
open Go.RowKit Go.Sort Go.Lib
def cmpI (x y : Int) : Int := if x < y then -1 else if y < x then 1 else 0
def Ints (w : World) (a : Option Addr) (zs : List Int) : Prop := zs = [] ∨ ∃ b off, a = some ⟨b, off, none⟩ ∧ ∀ i, i < zs.length → w.cell? ⟨b, off + i, none⟩ = some (.int .i64 (zs.getD i 0))
def orI : List Int → Int
  | [] => 0
  | z :: zs => if z = 0 then orI zs else z
theorem or2 (x y : Int) : orI [x, y] = if x = 0 then y else x := by
  unfold orI orI orI
  split
  · split
    · next h => exact h.symm
    · rfl
  · rfl
theorem cmpI_cases (x y : Int) : (x < y ∧ cmpI x y = -1) ∨ (x = y ∧ cmpI x y = 0) ∨ (y < x ∧ cmpI x y = 1) := by
  unfold cmpI; split
  · left; omega
  · split
    · right; right; omega
    · right; left; omega
set_option maxHeartbeats 400000 in
theorem cNaN (x : Int) (w : World) : Calls Try.prog 70 #[.int .i64 x] w fun e w' => e = .returned (.bool false) ∧ w' = w := by
  go_enter Try.func70, Try.ntmps70
  go_wp2
  go_ret
  exact ⟨by simp, rfl⟩

set_option maxHeartbeats 800000 in
theorem cCompare (x y : Int) (w : World) : Calls Try.prog 45 #[.int .i64 x, .int .i64 y] w fun e w' => e = .returned (.int .i64 (cmpI x y)) ∧ w' = w := by
  rcases cmpI_cases x y with ⟨h1, e1⟩ | ⟨h1, e1⟩ | ⟨h1, e1⟩ <;> rw [e1] <;> clear e1
  · go_enter Try.func45, Try.ntmps45
    go_wp2_with (go_at_call 70; refine (cNaN _ _).mono ?_; rintro e w' ⟨rfl, rfl⟩)
    go_ret
    exact ⟨rfl, rfl⟩
  · subst h1
    go_enter Try.func45, Try.ntmps45
    go_wp2_with (go_at_call 70; refine (cNaN _ _).mono ?_; rintro e w' ⟨rfl, rfl⟩)
    go_ret
    exact ⟨rfl, rfl⟩
  · have h2 : ¬ x < y := by omega
    go_enter Try.func45, Try.ntmps45
    go_wp2_with (go_at_call 70; refine (cNaN _ _).mono ?_; rintro e w' ⟨rfl, rfl⟩)
    go_ret
    exact ⟨rfl, rfl⟩

theorem orI_drop {zs : List Int} {k : Nat} (hk : k < zs.length) : orI (zs.drop k) = if zs[k] = 0 then orI (zs.drop (k + 1)) else zs[k] := by
  rw [List.drop_eq_getElem_cons hk]; rfl

set_option maxHeartbeats 800000 in
theorem cOr (a : Option Addr) (cap : Nat) (zs : List Int) (w : World) (hz : Ints w a zs) (hl : zs.length ≤ 1048576) :
    Calls Try.prog 44 #[.slice a zs.length cap] w fun e w' => e = .returned (.int .i64 (orI zs)) ∧ w' = w := by
  generalize hr : orI zs = res
  have hr0 : Hid (orI (zs.drop 0) = res) := hr
  clear hr
  go_enter Try.func44, Try.ntmps44
  go_wp2
  go_loop [8] (fun i => ∃ k : Nat, k ≤ zs.length ∧ i = .int .i64 k ∧ Hid (orI (zs.drop k) = res)) (fun i => zs.length - (intOf i).toNat)
  case atStart => exact ⟨0, Nat.zero_le _, rfl, hr0⟩
  case round =>
    obtain ⟨k, hk, rfl, hres⟩ := hrel
    clear hr0
    by_cases hlt : k < zs.length
    · rcases hz with h | ⟨b, off, rfl, hc⟩
      · simp [h] at hlt
      have q0 := hc k hlt
      have e0 : zs.getD k 0 = zs[k] := by simp [List.getD, hlt]
      rw [e0] at q0
      have hd := hide ((orI_drop hlt).symm.trans hres.out)
      generalize zs[k] = y at *
      clear hc e0 hres
      by_cases hy : y = 0
      · have hf := hide (show orI (zs.drop (k + 1)) = res by rw [← hd.out, if_pos hy])
        clear hd
        subst hy
        go_wp2
        go_round
        case rel => exact ⟨k + 1, by omega, by go_num, hf⟩
        case measure => simp [intOf]; omega
      · have hf := hide (show res = y by rw [← hd.out, if_neg hy])
        clear hd
        go_wp2
        go_ret
        exact ⟨ret_int hf.out.symm, rfl⟩
    · obtain rfl : k = zs.length := by omega
      have hf := hide (show res = 0 by rw [← hres.out, List.drop_length]; rfl)
      clear hz
      go_wp2
      go_ret
      exact ⟨ret_int hf.out.symm, rfl⟩



/-- Only draws and new blocks. -/
def Gr (w w' : World) : Prop := ∃ q os, w' = grow (w.drewN q) os
theorem Gr.refl (w : World) : Gr w w := ⟨0, #[], by rw [grow_empty]; rfl⟩
theorem Gr.drew {w w' : World} (h : Gr w w') : Gr w w'.drew := by
  obtain ⟨q, os, rfl⟩ := h
  exact ⟨q + 1, os, rfl⟩
theorem Gr.trans {a b c : World} (h : Gr a b) (g : Gr b c) : Gr a c := by
  obtain ⟨q, os, rfl⟩ := h
  obtain ⟨r, ps, rfl⟩ := g
  refine ⟨q + r, os ++ ps, ?_⟩
  show ({ a with drawn := a.drawn + q + r, heap := a.heap ++ os ++ ps } : World) = { a with drawn := a.drawn + (q + r), heap := a.heap ++ (os ++ ps) }
  rw [Nat.add_assoc, Array.append_assoc]
theorem Gr.drewN {w w' : World} (h : Gr w w') (n : Nat) : Gr w (w'.drewN n) := h.trans ⟨n, #[], by rw [grow_empty]⟩
theorem Gr.alloc {w w' : World} (h : Gr w w') (o : Obj) : Gr w (w'.alloc o) := h.trans ⟨0, #[o], by rw [alloc_eq_grow]; rfl⟩
theorem Gr.below {w w' : World} (h : Gr w w') : Below w.heap.size w w' := by
  obtain ⟨q, os, rfl⟩ := h
  exact ⟨rfl, rfl, rfl, by show w.heap.size ≤ (w.heap ++ os).size; simp, fun k hk => Array.getElem?_append_left hk⟩
theorem ints3 (w : World) (x y z : Int) (t : TypeId) : Ints (w.alloc (.cells #[.int .i64 x, .int .i64 y, .int .i64 z] t)) (some ⟨w.heap.size, 0, none⟩) [x, y, z] := by
  refine .inr ⟨w.heap.size, 0, rfl, fun i hi => ?_⟩
  match i, hi with
  | 0, _ => simp
  | 1, _ => simp
  | 2, _ => simp
theorem cOr3 (v : World) (x y z : Int) (t : TypeId) :
    Calls Try.prog 44 #[.slice (some ⟨v.heap.size, 0, none⟩) 3 3] (v.alloc (.cells #[.int .i64 x, .int .i64 y, .int .i64 z] t)) fun e w' => e = .returned (.int .i64 (orI [x, y, z])) ∧ w' = v.alloc (.cells #[.int .i64 x, .int .i64 y, .int .i64 z] t) :=
  cOr _ 3 [x, y, z] _ (show Ints _ _ _ from ints3 v x y z t) (by simp)
theorem two_blks (w : World) (o1 o2 : Obj) : ((w.alloc o1).alloc o2).heap[w.heap.size]? = some o1 ∧ ((w.alloc o1).alloc o2).heap[w.heap.size + 1]? = some o2 := by
  refine ⟨?_, ?_⟩
  · show ((w.heap.push o1).push o2)[w.heap.size]? = _
    simp [Array.getElem?_push]
  · show ((w.heap.push o1).push o2)[w.heap.size + 1]? = _
    rw [Array.getElem?_push, if_pos (by simp)]
theorem blk3 {w : World} {g : Nat} {c0 c1 c2 : Value} {t : TypeId} (h : w.heap[g]? = some (.cells #[c0, c1, c2] t (0, 0))) :
    (w.cell? ⟨g, 0, none⟩ = some c0 ∧ w.cell? ⟨g, 1, none⟩ = some c1 ∧ w.cell? ⟨g, 2, none⟩ = some c2) ∧ True :=
  ⟨⟨Go.Joins.cell_of_block h 0, Go.Joins.cell_of_block h 1, Go.Joins.cell_of_block h 2⟩, trivial⟩
set_option maxHeartbeats 800000 in
theorem cMinute (b off i1 k1 c1 o1 n1 p1 : Nat) (d1 : Int) (w : World) (h1 : w.cell? ⟨b, off + i1 * 2 + 1, none⟩ = some (.slice (some ⟨c1, o1, none⟩) n1 p1)) (h2 : w.cell? ⟨c1, o1 + k1 * 3 + 2, none⟩ = some (.int .i64 d1)) (hk : k1 < n1) :
    Calls Try.prog 46 #[.agg #[.pointer (some ⟨b, off + i1 * 2, none⟩), .int .i64 (i1 : Int), .int .i64 (k1 : Int)]] w fun e w' => e = .returned (.int .i64 d1) ∧ Gr w w' := by
  have hG := (Gr.refl w).alloc (.cells #[.pointer (some ⟨b, off + i1 * 2, none⟩), .int .i64 (i1 : Int), .int .i64 (k1 : Int)] 58)
  have hb := balloc w (.cells #[.pointer (some ⟨b, off + i1 * 2, none⟩), .int .i64 (i1 : Int), .int .i64 (k1 : Int)] 58)
  have X := one_block w (.cells #[.pointer (some ⟨b, off + i1 * 2, none⟩), .int .i64 (i1 : Int), .int .i64 (k1 : Int)] 58)
  obtain ⟨⟨x0, x1, x2⟩, -⟩ := blk3 X
  replace h1 := ble hb h1
  replace h2 := ble hb h2
  have e1 : (0 : Int) ≤ (k1 : Int) := by omega
  have e2 : (k1 : Int) < (n1 : Int) := by omega
  clear hb X
  go_enter Try.func46, Try.ntmps46
  go_wp2_with fail
  go_quiet (fail)
  go_wp2
  go_ret
  exact ⟨rfl, hG.drewN _⟩
/-- How two departures compare. -/
def cmpD (d1 : Int) (i1 k1 : Nat) (d2 : Int) (i2 k2 : Nat) : Int := orI [cmpI d1 d2, cmpI (i1 : Int) (i2 : Int), cmpI (k1 : Int) (k2 : Int)]
set_option maxHeartbeats 1600000 in
theorem cByMinute (b off i1 k1 c1 o1 n1 p1 i2 k2 c2 o2 n2 p2 : Nat) (d1 d2 : Int) (w : World) (h1 : w.cell? ⟨b, off + i1 * 2 + 1, none⟩ = some (.slice (some ⟨c1, o1, none⟩) n1 p1)) (h2 : w.cell? ⟨c1, o1 + k1 * 3 + 2, none⟩ = some (.int .i64 d1)) (hk : k1 < n1)
    (g1 : w.cell? ⟨b, off + i2 * 2 + 1, none⟩ = some (.slice (some ⟨c2, o2, none⟩) n2 p2)) (g2 : w.cell? ⟨c2, o2 + k2 * 3 + 2, none⟩ = some (.int .i64 d2)) (hk2 : k2 < n2) :
    Calls Try.prog 25 #[.agg #[.pointer (some ⟨b, off + i1 * 2, none⟩), .int .i64 (i1 : Int), .int .i64 (k1 : Int)], .agg #[.pointer (some ⟨b, off + i2 * 2, none⟩), .int .i64 (i2 : Int), .int .i64 (k2 : Int)]] w fun e w' => e = .returned (.int .i64 (cmpD d1 i1 k1 d2 i2 k2)) ∧ Gr w w' := by
  have hP : Hid (cmpD d1 i1 k1 d2 i2 k2 = orI [cmpI d1 d2, cmpI (i1 : Int) (i2 : Int), cmpI (k1 : Int) (k2 : Int)]) := hide rfl
  generalize cmpD d1 i1 k1 d2 i2 k2 = R at *
  have hG := ((Gr.refl w).alloc (.cells #[.pointer (some ⟨b, off + i1 * 2, none⟩), .int .i64 (i1 : Int), .int .i64 (k1 : Int)] 58)).alloc (.cells #[.pointer (some ⟨b, off + i2 * 2, none⟩), .int .i64 (i2 : Int), .int .i64 (k2 : Int)] 58)
  obtain ⟨hX, hY⟩ := two_blks w (.cells #[.pointer (some ⟨b, off + i1 * 2, none⟩), .int .i64 (i1 : Int), .int .i64 (k1 : Int)] 58) (.cells #[.pointer (some ⟨b, off + i2 * 2, none⟩), .int .i64 (i2 : Int), .int .i64 (k2 : Int)] 58)
  obtain ⟨⟨x0, x1, x2⟩, -⟩ := blk3 hX
  obtain ⟨⟨y0, y1, y2⟩, -⟩ := blk3 hY
  have CM := fun V (hV : Below w.heap.size w V) => cMinute b off i1 k1 c1 o1 n1 p1 d1 V (ble hV h1) (ble hV h2) hk
  have CN := fun V (hV : Below w.heap.size w V) => cMinute b off i2 k2 c2 o2 n2 p2 d2 V (ble hV g1) (ble hV g2) hk2
  go_enter Try.func25, Try.ntmps25
  go_wp2_with fail
  obtain ⟨v, hv⟩ : ∃ v, (w.alloc (.cells #[.pointer (some ⟨b, off + i1 * 2, none⟩), .int .i64 (i1 : Int), .int .i64 (k1 : Int)] 58)).alloc (.cells #[.pointer (some ⟨b, off + i2 * 2, none⟩), .int .i64 (i2 : Int), .int .i64 (k2 : Int)] 58) = v := ⟨_, rfl⟩
  rw [hv] at hG hX hY x0 x1 x2 y0 y1 y2 ⊢
  clear hv h1 h2 g1 g2
  have hGd := hG.drew
  go_region_held3 (fun w' => w'.cell? ⟨w.heap.size, 0, none⟩ = some (.pointer (some ⟨b, off + i1 * 2, none⟩)) ∧ w'.cell? ⟨w.heap.size, 1, none⟩ = some (.int .i64 (i1 : Int)) ∧ w'.cell? ⟨w.heap.size, 2, none⟩ = some (.int .i64 (k1 : Int)) ∧ w'.cell? ⟨w.heap.size + 1, 0, none⟩ = some (.pointer (some ⟨b, off + i2 * 2, none⟩)) ∧ w'.cell? ⟨w.heap.size + 1, 1, none⟩ = some (.int .i64 (i2 : Int)) ∧ w'.cell? ⟨w.heap.size + 1, 2, none⟩ = some (.int .i64 (k2 : Int))) (go_keep) (first
    | (go_at_call 44; with_reducible refine (cOr3 _ _ _ _ _).mono ?_; rintro e w' ⟨rfl, hw⟩; subst hw)
    | (go_at_call 45; with_reducible refine (cCompare _ _ _).mono ?_; rintro e w' ⟨rfl, hw⟩; subst hw)
    | (go_at_call 46; with_reducible refine (CN _ G1.below).mono ?_; rintro e wb ⟨rfl, hb⟩; have G2 := G1.trans hb; have B2 := btrans BX1 hb.below; clear hb; obtain ⟨⟨x0, x1, x2⟩, -⟩ := blk3 (blk_keep B2 hX); obtain ⟨⟨y0, y1, y2⟩, -⟩ := blk3 (blk_keep B2 hY))
    | (go_at_call 46; with_reducible refine (CM _ hGd.below).mono ?_; rintro e wa ⟨rfl, hb⟩; have G1 := hGd.trans hb; have BX1 := undrew hb.below; clear hb; obtain ⟨⟨x0, x1, x2⟩, -⟩ := blk3 (blk_keep BX1 hX); obtain ⟨⟨y0, y1, y2⟩, -⟩ := blk3 (blk_keep BX1 hY)))
  go_wp2
  go_ret
  exact ⟨ret_int hP.out.symm, G2.alloc _⟩
end Go.Proofs.Ythbedhbbijpfkaa
