/- ShuntOne and PlayShunts of the program. -/
import Derived.Test.YtipechbhhpagiaaCW
namespace Go.Proofs.Ytipechbhhpagiaa
open Go.RowKit
open Classical in
/-- What ShuntOne answers. -/
noncomputable def oneC (room : List Int) (rows : List (List Int)) (x : ShV) : Int := if sidB room rows = true then codeS room rows x else 1
open Classical in
noncomputable def oneR (room : List Int) (rows : List (List Int)) (x : ShV) : List (List Int) := if sidB room rows = true then leftS room rows x else rows
theorem one_yes {room : List Int} {rows : List (List Int)} (h : SidP room rows) (x : ShV) : oneC room rows x = codeS room rows x ∧ oneR room rows x = leftS room rows x := by
  have h1 := sidB_iff.2 h
  exact ⟨by unfold oneC; rw [if_pos h1], by unfold oneR; rw [if_pos h1]⟩
theorem one_no {room : List Int} {rows : List (List Int)} (h : sidB room rows = false) (x : ShV) : oneC room rows x = 1 ∧ oneR room rows x = rows := by
  have h1 : ¬ sidB room rows = true := by rw [h]; decide
  exact ⟨by unfold oneC; rw [if_neg h1], by unfold oneR; rw [if_neg h1]⟩
def AnsSid (w : World) (room : List Int) (rows : List (List Int)) (C : Value) (e : Ending) (w' : World) : Prop :=
  ∃ rv v vs, e = .returned (.tuple #[.agg #[rv, v], C]) ∧ SidO w.heap.size w' rv v vs room rows ∧ Below w.heap.size w w'
theorem SidO.set {B : Nat} {w : World} {rv v u : Value} {vs : List Value} {room : List Int} {rows : List (List Int)} {b i : Nat} (h : SidO B w rv v vs room rows) (hb : ∀ k, SidB rv v vs k → k ≠ b) : SidO B (w.setCell ⟨b, i, none⟩ u) rv v vs room rows := h.keep (fun k hk => heap_setCell (hb k hk))
theorem row_blk_ne2 {B : Nat} {w : World} {rv v : Value} {vs : List Value} {room : List Int} {rows : List (List Int)} (h : SidO B w rv v vs room rows) {b : Nat} {x y : Value} (hg : w.heap[b]? = some (.cells #[x, y] 27 (0, 0))) : ∀ k, SidB rv v vs k → k ≠ b := by
  rintro k (hk | hk | ⟨j, hj, hk⟩)
  · exact row_blk_ne h.room hg (by decide) k hk
  · exact own_blk_ne h.tab.own hg (by decide) k hk
  · exact row_blk_ne (h.tab.each j hj) hg (by decide) k hk
/-- A struct of two is stored into a box. -/
theorem box_set {w : World} {b : Nat} {x y p q : Value} {t : TypeId} (h : w.heap[b]? = some (.cells #[x, y] t (0, 0))) : ((w.setCell ⟨b, 0, none⟩ p).setCell ⟨b, 1, none⟩ q).heap[b]? = some (.cells #[p, q] t (0, 0)) := by
  have q2 := heap_setCell_same _ _ 0 _ _ p h
  have q3 := heap_setCell_same _ _ 1 _ _ q q2
  rw [q3]; rfl
theorem al3 (w : World) (o1 o2 o3 : Obj) : Below w.heap.size w (((w.alloc o1).alloc o2).alloc o3) ∧ (((w.alloc o1).alloc o2).alloc o3).heap[w.heap.size]? = some o1 ∧ (((w.alloc o1).alloc o2).alloc o3).heap[w.heap.size + 1]? = some o2 ∧ (((w.alloc o1).alloc o2).alloc o3).heap[w.heap.size + 1 + 1]? = some o3 ∧ (((w.alloc o1).alloc o2).alloc o3).heap.size = w.heap.size + 1 + 1 + 1 := by
  have b1 := balloc w o1
  have b2 := balloc (w.alloc o1) o2
  have b3 := balloc ((w.alloc o1).alloc o2) o3
  have k1 := blk_keep b3 (blk_keep b2 (heap_alloc_new w o1))
  have k2 := blk_keep b3 (heap_alloc_new (w.alloc o1) o2)
  have k3 := heap_alloc_new ((w.alloc o1).alloc o2) o3
  rw [sz1] at k2
  rw [sz1, sz1] at k3
  exact ⟨btrans (btrans b1 b2) b3, k1, k2, k3, by rw [sz1, sz1, sz1]⟩
theorem SidO.box {B : Nat} {w : World} {rv v p q : Value} {vs : List Value} {room : List Int} {rows : List (List Int)} {b : Nat} {x y : Value} (h : SidO B w rv v vs room rows) (hg : w.heap[b]? = some (.cells #[x, y] 27 (0, 0))) : SidO B ((w.setCell ⟨b, 0, none⟩ p).setCell ⟨b, 1, none⟩ q) rv v vs room rows :=
  h.keep (fun k hk => by have := row_blk_ne2 h hg k hk; rw [heap_setCell this, heap_setCell this])
set_option maxRecDepth 20000 in
set_option maxHeartbeats 6400000 in
theorem cOneI (ra : Option Addr) (rc : Nat) (room : List Int) (a : Option Addr) (c : Nat) (us : List Value) (rows : List (List Int)) (x : ShV) (w : World) (hM : Ints w ra room) (hR : RowsW w a us rows) (lM : room.length ≤ 1048576) (lR : rows.length ≤ 1048576) (lr : ∀ i, i < rows.length → (rwA rows i).length ≤ 1048576) :
    Calls Try.prog 16 #[.agg #[.slice ra room.length rc, .slice a rows.length c], x.val] w (AnsSid w room (oneR room rows x) (.int .i64 (oneC room rows x))) := by
  have CSh := fun B Y rv v vs w h hP => cShunt B Y rv v vs room rows x w h hP
  obtain ⟨HB, A0, A1, A2, hz⟩ := al3 w (.cells #[.slice ra room.length rc, .slice a rows.length c] 27) (.cells #[.int .i64 x.f, .int .i64 x.t, .int .i64 x.m] 37) (.cells #[.slice none 0 0, .slice none 0 0] 27)
  unfold ShV.val at CSh ⊢
  go_enter Try.func16, Try.ntmps16
  go_wp2_with fail
  generalize (((w.alloc (Obj.cells #[Value.slice ra room.length rc, Value.slice a rows.length c] 27)).alloc (Obj.cells #[Value.int IntKind.i64 x.f, Value.int IntKind.i64 x.t, Value.int IntKind.i64 x.m] 37)).alloc (Obj.cells #[Value.slice none 0 0, Value.slice none 0 0] 27)) = W at *
  refine (cYardOf ra rc room a c us rows W (hM.below HB) (hR.below HB) lM lR lr).mono ?_
  rintro e w1 ⟨Y, rv, v, vs, rfl, hY, hb⟩
  replace HB := btrans HB hb
  replace A1 := blk_keep hb A1
  replace A2 := blk_keep hb A2
  clear hb A0
  cases hok : sidB room rows
  · have hno := hide (one_no hok x)
    go_wp2_with fail
    refine (cBack _ Y rv v vs room rows w1 hY lR).mono ?_
    rintro e w2 ⟨v2, rfl, hS, hb⟩
    replace A2 := blk_keep hb A2
    have HB2 := btrans HB hb
    obtain ⟨ra2, rc2, a2, c2, rfl, rfl, -⟩ := hS.arg
    obtain ⟨⟨r0, r1⟩, f0, f1⟩ := blk2 A2
    have hSV := hS.box (p := .slice ra2 room.length rc2) (q := .slice a2 rows.length c2) A2
    have KV := box_set (p := .slice ra2 room.length rc2) (q := .slice a2 rows.length c2) A2
    have HBV : Below w.heap.size w ((w2.setCell ⟨w.heap.size + 1 + 1, 0, none⟩ (.slice ra2 room.length rc2)).setCell ⟨w.heap.size + 1 + 1, 1, none⟩ (.slice a2 rows.length c2)) := below_set (by omega) (below_set (by omega) HB2)
    obtain ⟨⟨v0, v1⟩, -⟩ := blk2 KV
    clear hS HB2 hb hY HB A2 KV
    go_wp2
    generalize (w2.setCell ⟨w.heap.size + 1 + 1, 0, none⟩ (.slice ra2 room.length rc2)).setCell ⟨w.heap.size + 1 + 1, 1, none⟩ (.slice a2 rows.length c2) = V at *
    refine bodyPost_ret (v := .tuple #[.agg #[.slice ra2 room.length rc2, .slice a2 rows.length c2], .int .i64 1]) (by simp [results, Try.results16, v0, v1, go_sem]) rfl ?_
    exact ⟨_, _, _, by rw [hno.out.1], by rw [hno.out.2]; exact hSV.base (by omega), HBV⟩
  · have hP := sidB_iff.1 hok
    have hyes := hide (one_yes hP x)
    have x0 : w1.cell? ⟨w.heap.size + 1, 0, none⟩ = some (.int .i64 x.f) := by rw [cell_blk A1]; rfl
    have x1 : w1.cell? ⟨w.heap.size + 1, 1, none⟩ = some (.int .i64 x.t) := by rw [cell_blk A1]; rfl
    have x2 : w1.cell? ⟨w.heap.size + 1, 2, none⟩ = some (.int .i64 x.m) := by rw [cell_blk A1]; rfl
    go_wp2_with fail
    refine (CSh _ Y rv v vs w1 hY hP).mono ?_
    rintro e w2 ⟨rfl, ⟨vs', hY2⟩, hb2⟩
    have HB2 : Below w.heap.size w w2 := HB.trans (hb2.mono (by omega))
    have A22 := (hb2.block (w.heap.size + 1 + 1) (by omega)).trans A2
    clear CSh hY hb2 HB x0 x1 x2 A1 A2
    generalize hcd : codeS room rows x = cd at *
    go_wp2_with fail
    refine (cBack _ Y rv v vs' room (leftS room rows x) w2 hY2 (by rw [leftS_len]; exact lR)).mono ?_
    rintro e w3 ⟨v2, rfl, hS, hb⟩
    have A2 := blk_keep hb A22
    have HB3 := btrans HB2 hb
    obtain ⟨ra2, rc2, a2, c2, rfl, rfl, -⟩ := hS.arg
    obtain ⟨⟨r0, r1⟩, f0, f1⟩ := blk2 A2
    generalize hNl : (leftS room rows x).length = NL at *
    replace hNl := hide hNl
    have hSV := hS.box (p := .slice ra2 room.length rc2) (q := .slice a2 NL c2) A2
    have KV := box_set (p := .slice ra2 room.length rc2) (q := .slice a2 NL c2) A2
    have HBV : Below w.heap.size w ((w3.setCell ⟨w.heap.size + 1 + 1, 0, none⟩ (.slice ra2 room.length rc2)).setCell ⟨w.heap.size + 1 + 1, 1, none⟩ (.slice a2 NL c2)) := below_set (by omega) (below_set (by omega) HB3)
    obtain ⟨⟨v0, v1⟩, -⟩ := blk2 KV
    clear hS HB3 hb hY2 HB2 A2 A22 KV
    go_wp2
    generalize (w3.setCell ⟨w.heap.size + 1 + 1, 0, none⟩ (.slice ra2 room.length rc2)).setCell ⟨w.heap.size + 1 + 1, 1, none⟩ (.slice a2 NL c2) = V at *
    refine bodyPost_ret (v := .tuple #[.agg #[.slice ra2 room.length rc2, .slice a2 NL c2], .int .i64 cd]) (by simp [results, Try.results16, v0, v1, go_sem]) rfl ?_
    exact ⟨_, _, _, by rw [hyes.out.1], by rw [hyes.out.2]; exact hSV.base (by omega), HBV⟩
end Go.Proofs.Ytipechbhhpagiaa
