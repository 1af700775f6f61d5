/- Drawn shunts. -/
import Derived.Test.YtipechbhhpagiaaDA
import Derived.Test.YtipechbhhpagiaaSL
import Derived.Test.YtipechbhhpagiaaWK
namespace Go.Proofs.Ytipechbhhpagiaa
open Go.RowKit
theorem blkS3 {w : World} {b : Nat} {x y z : Value} {t : TypeId} (h : w.heap[b]? = some (.cells #[x, y, z] t (0, 0))) : w.cell? ⟨b, 0, none⟩ = some x ∧ w.cell? ⟨b, 1, none⟩ = some y ∧ w.cell? ⟨b, 2, none⟩ = some z ∧ w.frozen? ⟨b, 0, none⟩ = false ∧ w.frozen? ⟨b, 1, none⟩ = false ∧ w.frozen? ⟨b, 2, none⟩ = false :=
  ⟨by rw [cell_blk h]; rfl, by rw [cell_blk h]; rfl, by rw [cell_blk h]; rfl, frozen_of_row w b 0 _ _ h, frozen_of_row w b 1 _ _ h, frozen_of_row w b 2 _ _ h⟩
theorem boxS3 {w : World} {b : Nat} {x y z p q r : Value} {t : TypeId} (h : w.heap[b]? = some (.cells #[x, y, z] t (0, 0))) : (((w.setCell ⟨b, 0, none⟩ p).setCell ⟨b, 1, none⟩ q).setCell ⟨b, 2, none⟩ r).heap[b]? = some (.cells #[p, q, r] t (0, 0)) := by
  have q2 := heap_setCell_same _ _ 0 _ _ p h
  have q3 := heap_setCell_same _ _ 1 _ _ q q2
  have q4 := heap_setCell_same _ _ 2 _ _ r q3
  rw [q4]; rfl
theorem twoI (w : World) (p q : Int) : Ints (w.alloc (.cells #[.int .i64 p, .int .i64 q] 3)) (some ⟨w.heap.size, 0, none⟩) [p, q] := by
  refine .inr ⟨_, 0, rfl, fun i hi => ?_⟩
  match i, hi with
  | 0, _ => simp
  | 1, _ => simp
  | (k + 2), hi => simp at hi; omega

set_option maxRecDepth 20000 in
set_option maxHeartbeats 6400000 in
theorem cDrawSh (cb cap : Nat) (a : Option Addr) (bs : List Int) (n : Int) (w : World) (hc : Cur w cb a cap bs) (hl : bs.length ≤ 1048576) (n1 : 1 ≤ n) (n2 : n ≤ 1000) :
    Calls Try.prog 75 #[.pointer (some ⟨cb, 0, none⟩), .int .i64 n] w fun e w' => ∃ x : ShV, e = .returned x.val ∧ Cur w' cb a cap bs ∧ w.grownBy w' (some cb) := by
  unfold ShV.val
  have hcl := hc.lt (.inl rfl)
  have hOn : ∀ k, OnCur cb a bs k → k < w.heap.size := fun k hk => hc.lt hk
  have A1 := balloc w (.cells #[.int .i64 0, .int .i64 0, .int .i64 0] 37)
  have C := hc.below A1
  have AR := heap_alloc_new w (.cells #[.int .i64 0, .int .i64 0, .int .i64 0] 37)
  have hG := gofr (some cb) A1
  clear A1 hc
  go_enter Try.func75, Try.ntmps75
  go_wp2_with fail
  refine (cbelow cb cap a bs n _ C hl (by omega) (by omega)).mono ?_
  rintro e w1 ⟨f, rfl, f0, f1, C', G'⟩
  replace AR := far_blk G' AR (fun j hj => by injection hj; omega)
  clear f0 f1
  replace hG := gtrans hG G'
  clear C G'
  have C := C'
  clear C'
  go_wp2_with fail
  refine (cbelow cb cap a bs n _ C hl (by omega) (by omega)).mono ?_
  rintro e w2 ⟨t, rfl, t0, t1, C', G'⟩
  replace AR := far_blk G' AR (fun j hj => by injection hj; omega)
  clear t0 t1
  replace hG := gtrans hG G'
  clear C G'
  have C := C'
  clear C'
  go_wp2_with fail
  refine (cbelow cb cap a bs 4 _ C hl (by omega) (by omega)).mono ?_
  rintro e w3 ⟨m, rfl, m0, m1, C', G'⟩
  replace AR := far_blk G' AR (fun j hj => by injection hj; omega)
  replace hG := gtrans hG G'
  clear C G'
  have C := C'
  clear C'
  have B1 := balloc w3 (.cells #[.int .i64 f, .int .i64 t, .int .i64 (1 + m)] 37)
  have AQ := heap_alloc_new w3 (.cells #[.int .i64 f, .int .i64 t, .int .i64 (1 + m)] 37)
  have hq := lt_of_block AR
  have hc3 : cb < w3.heap.size := C.lt (.inl rfl)
  have hw3 := sz1 w3 (.cells #[.int .i64 f, .int .i64 t, .int .i64 (1 + m)] 37)
  replace AR := blk_keep B1 AR
  replace C := C.below B1
  replace hG := gtrans hG (gofr (some cb) B1)
  clear B1
  go_wp2_with fail
  generalize w3.alloc (.cells #[.int .i64 f, .int .i64 t, .int .i64 (1 + m)] 37) = W3 at *
  generalize w3.heap.size = q at *
  clear hw3
  refine (cbelow cb cap a bs 25 _ C hl (by omega) (by omega)).mono ?_
  rintro e w4 ⟨y, rfl, y0, y1, C', G'⟩
  replace AR := far_blk G' AR (fun j hj => by injection hj; omega)
  replace AQ := far_blk G' AQ (fun j hj => by injection hj; omega)
  replace hG := gtrans hG G'
  clear C G'
  have C := C'
  clear C'
  by_cases h0 : y = 0
  · subst h0
    have F := twoI w4 (-1) n
    have hA := balloc w4 (.cells #[.int .i64 (-1), .int .i64 n] 3)
    have hcw : cb < w4.heap.size := C.lt (.inl rfl)
    have hnb : ∀ x, (some (⟨w4.heap.size, 0, none⟩ : Addr)) = some x → x.block ≠ cb := fun x hx => by injection hx with hx; subst hx; show w4.heap.size ≠ cb; omega
    replace C := C.below hA
    replace AR := blk_keep hA AR
    replace AQ := blk_keep hA AQ
    replace hG := gtrans hG (gofr _ hA)
    clear hA hcw
    go_wp2_with fail
    refine (cPick cb cap a bs _ 2 [-1, n] _ C hl F hnb (by simp) (by simp)).mono ?_
    rintro e w5 ⟨r, rfl, -, C', G'⟩
    replace AR := far_blk G' AR (fun j hj => by injection hj; omega)
    replace AQ := far_blk G' AQ (fun j hj => by injection hj; omega)
    clear F hnb
    replace hG := gtrans hG G'
    clear C G'
    have C := C'
    clear C'
    obtain ⟨x0, x1, x2, f0, f1, f2⟩ := blkS3 AQ
    have AQ2 := heap_setCell_same _ _ 0 _ _ (.int .i64 r) AQ
    have AR2 := (heap_setCell (w := w5) (g := q) (o := 0) (u := .int .i64 r) (show w.heap.size ≠ q by omega)).trans AR
    have C2 : Cur (w5.setCell ⟨q, 0, none⟩ (.int .i64 r)) cb a cap bs := C.keep (fun k hk => by have := hOn k hk; rw [heap_setCell (by omega)])
    have G2 : w.grownBy (w5.setCell ⟨q, 0, none⟩ (.int .i64 r)) (some cb) := grown_far hG (grown_set _ q 0 _) (fun k hk => by cases hk; omega)
    replace AQ2 : (w5.setCell ⟨q, 0, none⟩ (.int .i64 r)).heap[q]? = some (.cells #[.int .i64 r, .int .i64 t, .int .i64 (1 + m)] 37 (0, 0)) := AQ2
    clear AQ AR C hG
    have AQ := AQ2
    have AR := AR2
    have C := C2
    have hG := G2
    clear AQ2 AR2 C2 G2
    obtain ⟨x0, x1, x2, -⟩ := blkS3 AQ
    obtain ⟨r0, r1, r2, f0, f1, f2⟩ := blkS3 AR
    have KV := boxS3 (p := .int .i64 r) (q := .int .i64 t) (r := .int .i64 (1 + m)) AR
    have CV : Cur ((((w5.setCell ⟨q, 0, none⟩ (.int .i64 r)).setCell ⟨w.heap.size, 0, none⟩ (.int .i64 r)).setCell ⟨w.heap.size, 1, none⟩ (.int .i64 t)).setCell ⟨w.heap.size, 2, none⟩ (.int .i64 (1 + m))) cb a cap bs := C.keep (fun k hk => by have := hOn k hk; rw [heap_setCell (by omega), heap_setCell (by omega), heap_setCell (by omega)])
    have GV : w.grownBy ((((w5.setCell ⟨q, 0, none⟩ (.int .i64 r)).setCell ⟨w.heap.size, 0, none⟩ (.int .i64 r)).setCell ⟨w.heap.size, 1, none⟩ (.int .i64 t)).setCell ⟨w.heap.size, 2, none⟩ (.int .i64 (1 + m))) (some cb) := grown_far (grown_far (grown_far hG (grown_set _ w.heap.size 0 _) (fun k hk => by cases hk; exact Nat.le_refl _)) (grown_set _ w.heap.size 1 _) (fun k hk => by cases hk; exact Nat.le_refl _)) (grown_set _ w.heap.size 2 _) (fun k hk => by cases hk; exact Nat.le_refl _)
    obtain ⟨v0, v1, v2, -⟩ := blkS3 KV
    clear C hG AQ AR KV
    go_wp2
    generalize ((((w5.setCell ⟨q, 0, none⟩ (.int .i64 r)).setCell ⟨w.heap.size, 0, none⟩ (.int .i64 r)).setCell ⟨w.heap.size, 1, none⟩ (.int .i64 t)).setCell ⟨w.heap.size, 2, none⟩ (.int .i64 (1 + m))) = V9 at *
    refine bodyPost_ret (v := .agg #[.int .i64 r, .int .i64 t, .int .i64 (1 + m)]) (by simp [results, Try.results75, v0, v1, v2, go_sem]) rfl ?_
    exact ⟨⟨r, t, (1 + m)⟩, rfl, CV, GV⟩
  by_cases h1 : y = 1
  · subst h1
    have F := twoI w4 (-1) n
    have hA := balloc w4 (.cells #[.int .i64 (-1), .int .i64 n] 3)
    have hcw : cb < w4.heap.size := C.lt (.inl rfl)
    have hnb : ∀ x, (some (⟨w4.heap.size, 0, none⟩ : Addr)) = some x → x.block ≠ cb := fun x hx => by injection hx with hx; subst hx; show w4.heap.size ≠ cb; omega
    replace C := C.below hA
    replace AR := blk_keep hA AR
    replace AQ := blk_keep hA AQ
    replace hG := gtrans hG (gofr _ hA)
    clear hA hcw
    go_wp2_with fail
    refine (cPick cb cap a bs _ 2 [-1, n] _ C hl F hnb (by simp) (by simp)).mono ?_
    rintro e w5 ⟨r, rfl, -, C', G'⟩
    replace AR := far_blk G' AR (fun j hj => by injection hj; omega)
    replace AQ := far_blk G' AQ (fun j hj => by injection hj; omega)
    clear F hnb
    replace hG := gtrans hG G'
    clear C G'
    have C := C'
    clear C'
    obtain ⟨x0, x1, x2, f0, f1, f2⟩ := blkS3 AQ
    have AQ2 := heap_setCell_same _ _ 1 _ _ (.int .i64 r) AQ
    have AR2 := (heap_setCell (w := w5) (g := q) (o := 1) (u := .int .i64 r) (show w.heap.size ≠ q by omega)).trans AR
    have C2 : Cur (w5.setCell ⟨q, 1, none⟩ (.int .i64 r)) cb a cap bs := C.keep (fun k hk => by have := hOn k hk; rw [heap_setCell (by omega)])
    have G2 : w.grownBy (w5.setCell ⟨q, 1, none⟩ (.int .i64 r)) (some cb) := grown_far hG (grown_set _ q 1 _) (fun k hk => by cases hk; omega)
    replace AQ2 : (w5.setCell ⟨q, 1, none⟩ (.int .i64 r)).heap[q]? = some (.cells #[.int .i64 f, .int .i64 r, .int .i64 (1 + m)] 37 (0, 0)) := AQ2
    clear AQ AR C hG
    have AQ := AQ2
    have AR := AR2
    have C := C2
    have hG := G2
    clear AQ2 AR2 C2 G2
    obtain ⟨x0, x1, x2, -⟩ := blkS3 AQ
    obtain ⟨r0, r1, r2, f0, f1, f2⟩ := blkS3 AR
    have KV := boxS3 (p := .int .i64 f) (q := .int .i64 r) (r := .int .i64 (1 + m)) AR
    have CV : Cur ((((w5.setCell ⟨q, 1, none⟩ (.int .i64 r)).setCell ⟨w.heap.size, 0, none⟩ (.int .i64 f)).setCell ⟨w.heap.size, 1, none⟩ (.int .i64 r)).setCell ⟨w.heap.size, 2, none⟩ (.int .i64 (1 + m))) cb a cap bs := C.keep (fun k hk => by have := hOn k hk; rw [heap_setCell (by omega), heap_setCell (by omega), heap_setCell (by omega)])
    have GV : w.grownBy ((((w5.setCell ⟨q, 1, none⟩ (.int .i64 r)).setCell ⟨w.heap.size, 0, none⟩ (.int .i64 f)).setCell ⟨w.heap.size, 1, none⟩ (.int .i64 r)).setCell ⟨w.heap.size, 2, none⟩ (.int .i64 (1 + m))) (some cb) := grown_far (grown_far (grown_far hG (grown_set _ w.heap.size 0 _) (fun k hk => by cases hk; exact Nat.le_refl _)) (grown_set _ w.heap.size 1 _) (fun k hk => by cases hk; exact Nat.le_refl _)) (grown_set _ w.heap.size 2 _) (fun k hk => by cases hk; exact Nat.le_refl _)
    obtain ⟨v0, v1, v2, -⟩ := blkS3 KV
    clear C hG AQ AR KV
    go_wp2
    generalize ((((w5.setCell ⟨q, 1, none⟩ (.int .i64 r)).setCell ⟨w.heap.size, 0, none⟩ (.int .i64 f)).setCell ⟨w.heap.size, 1, none⟩ (.int .i64 r)).setCell ⟨w.heap.size, 2, none⟩ (.int .i64 (1 + m))) = V9 at *
    refine bodyPost_ret (v := .agg #[.int .i64 f, .int .i64 r, .int .i64 (1 + m)]) (by simp [results, Try.results75, v0, v1, v2, go_sem]) rfl ?_
    exact ⟨⟨f, r, (1 + m)⟩, rfl, CV, GV⟩
  by_cases h2 : y = 2
  · subst h2
    have F := three w4 0 (-1) 9223372036854775807
    have hA := balloc w4 (.cells #[.int .i64 0, .int .i64 (-1), .int .i64 9223372036854775807] 3)
    have hcw : cb < w4.heap.size := C.lt (.inl rfl)
    have hnb : ∀ x, (some (⟨w4.heap.size, 0, none⟩ : Addr)) = some x → x.block ≠ cb := fun x hx => by injection hx with hx; subst hx; show w4.heap.size ≠ cb; omega
    replace C := C.below hA
    replace AR := blk_keep hA AR
    replace AQ := blk_keep hA AQ
    replace hG := gtrans hG (gofr _ hA)
    clear hA hcw
    go_wp2_with fail
    refine (cPick cb cap a bs _ 3 [0, -1, 9223372036854775807] _ C hl F hnb (by simp) (by simp)).mono ?_
    rintro e w5 ⟨r, rfl, -, C', G'⟩
    replace AR := far_blk G' AR (fun j hj => by injection hj; omega)
    replace AQ := far_blk G' AQ (fun j hj => by injection hj; omega)
    clear F hnb
    replace hG := gtrans hG G'
    clear C G'
    have C := C'
    clear C'
    obtain ⟨x0, x1, x2, f0, f1, f2⟩ := blkS3 AQ
    have AQ2 := heap_setCell_same _ _ 2 _ _ (.int .i64 r) AQ
    have AR2 := (heap_setCell (w := w5) (g := q) (o := 2) (u := .int .i64 r) (show w.heap.size ≠ q by omega)).trans AR
    have C2 : Cur (w5.setCell ⟨q, 2, none⟩ (.int .i64 r)) cb a cap bs := C.keep (fun k hk => by have := hOn k hk; rw [heap_setCell (by omega)])
    have G2 : w.grownBy (w5.setCell ⟨q, 2, none⟩ (.int .i64 r)) (some cb) := grown_far hG (grown_set _ q 2 _) (fun k hk => by cases hk; omega)
    replace AQ2 : (w5.setCell ⟨q, 2, none⟩ (.int .i64 r)).heap[q]? = some (.cells #[.int .i64 f, .int .i64 t, .int .i64 r] 37 (0, 0)) := AQ2
    clear AQ AR C hG
    have AQ := AQ2
    have AR := AR2
    have C := C2
    have hG := G2
    clear AQ2 AR2 C2 G2
    obtain ⟨x0, x1, x2, -⟩ := blkS3 AQ
    obtain ⟨r0, r1, r2, f0, f1, f2⟩ := blkS3 AR
    have KV := boxS3 (p := .int .i64 f) (q := .int .i64 t) (r := .int .i64 r) AR
    have CV : Cur ((((w5.setCell ⟨q, 2, none⟩ (.int .i64 r)).setCell ⟨w.heap.size, 0, none⟩ (.int .i64 f)).setCell ⟨w.heap.size, 1, none⟩ (.int .i64 t)).setCell ⟨w.heap.size, 2, none⟩ (.int .i64 r)) cb a cap bs := C.keep (fun k hk => by have := hOn k hk; rw [heap_setCell (by omega), heap_setCell (by omega), heap_setCell (by omega)])
    have GV : w.grownBy ((((w5.setCell ⟨q, 2, none⟩ (.int .i64 r)).setCell ⟨w.heap.size, 0, none⟩ (.int .i64 f)).setCell ⟨w.heap.size, 1, none⟩ (.int .i64 t)).setCell ⟨w.heap.size, 2, none⟩ (.int .i64 r)) (some cb) := grown_far (grown_far (grown_far hG (grown_set _ w.heap.size 0 _) (fun k hk => by cases hk; exact Nat.le_refl _)) (grown_set _ w.heap.size 1 _) (fun k hk => by cases hk; exact Nat.le_refl _)) (grown_set _ w.heap.size 2 _) (fun k hk => by cases hk; exact Nat.le_refl _)
    obtain ⟨v0, v1, v2, -⟩ := blkS3 KV
    clear C hG AQ AR KV
    go_wp2
    generalize ((((w5.setCell ⟨q, 2, none⟩ (.int .i64 r)).setCell ⟨w.heap.size, 0, none⟩ (.int .i64 f)).setCell ⟨w.heap.size, 1, none⟩ (.int .i64 t)).setCell ⟨w.heap.size, 2, none⟩ (.int .i64 r)) = V9 at *
    refine bodyPost_ret (v := .agg #[.int .i64 f, .int .i64 t, .int .i64 r]) (by simp [results, Try.results75, v0, v1, v2, go_sem]) rfl ?_
    exact ⟨⟨f, t, r⟩, rfl, CV, GV⟩
  obtain ⟨x0, x1, x2, -⟩ := blkS3 AQ
  obtain ⟨r0, r1, r2, f0, f1, f2⟩ := blkS3 AR
  have KV := boxS3 (p := .int .i64 f) (q := .int .i64 t) (r := .int .i64 (1 + m)) AR
  have CV : Cur (((w4.setCell ⟨w.heap.size, 0, none⟩ (.int .i64 f)).setCell ⟨w.heap.size, 1, none⟩ (.int .i64 t)).setCell ⟨w.heap.size, 2, none⟩ (.int .i64 (1 + m))) cb a cap bs := C.keep (fun k hk => by have := hOn k hk; rw [heap_setCell (by omega), heap_setCell (by omega), heap_setCell (by omega)])
  have GV : w.grownBy (((w4.setCell ⟨w.heap.size, 0, none⟩ (.int .i64 f)).setCell ⟨w.heap.size, 1, none⟩ (.int .i64 t)).setCell ⟨w.heap.size, 2, none⟩ (.int .i64 (1 + m))) (some cb) := grown_far (grown_far (grown_far hG (grown_set _ w.heap.size 0 _) (fun k hk => by cases hk; exact Nat.le_refl _)) (grown_set _ w.heap.size 1 _) (fun k hk => by cases hk; exact Nat.le_refl _)) (grown_set _ w.heap.size 2 _) (fun k hk => by cases hk; exact Nat.le_refl _)
  obtain ⟨v0, v1, v2, -⟩ := blkS3 KV
  clear C hG AQ AR KV
  go_wp2
  generalize (((w4.setCell ⟨w.heap.size, 0, none⟩ (.int .i64 f)).setCell ⟨w.heap.size, 1, none⟩ (.int .i64 t)).setCell ⟨w.heap.size, 2, none⟩ (.int .i64 (1 + m))) = V9 at *
  refine bodyPost_ret (v := .agg #[.int .i64 f, .int .i64 t, .int .i64 (1 + m)]) (by simp [results, Try.results75, v0, v1, v2, go_sem]) rfl ?_
  exact ⟨⟨f, t, (1 + m)⟩, rfl, CV, GV⟩

/-- Shunts that are drawn. -/
def DrawnSh (w : World) (cb : Nat) (a : Option Addr) (cap : Nat) (bs : List Int) (e : Ending) (w' : World) : Prop :=
  ∃ (l : List ShV) (v : Value), e = .returned v ∧ l.length ≤ 17 ∧ w'.ownsRow w.heap.size 37 3 v l.length (flatShs l) ∧ Cur w' cb a cap bs ∧ w.grownBy w' (some cb)

set_option maxRecDepth 20000 in
set_option maxHeartbeats 6400000 in
theorem cDrawShs (cb cap : Nat) (a : Option Addr) (bs : List Int) (n : Int) (w : World) (hc : Cur w cb a cap bs) (hl : bs.length ≤ 1048576) (n1 : 1 ≤ n) (n2 : n ≤ 1000) :
    Calls Try.prog 50 #[.pointer (some ⟨cb, 0, none⟩), .slice a bs.length cap, .int .i64 n] w (DrawnSh w cb a cap bs) := by
  obtain ⟨i1, hi1, hy0, hy1, hy2⟩ := info_parts infoShs
  have hcl := hc.lt (.inl rfl)
  have hOn : ∀ k, OnCur cb a bs k → k < w.heap.size := fun k hk => hc.lt hk
  have A1 := balloc w (.cells #[] 37)
  have C1 := hc.below A1
  have O0 : (w.alloc (.cells #[] 37)).ownsRow w.heap.size 37 3 (.slice (some ⟨w.heap.size, 0, none⟩) 0 0) 0 (flatShs []) := World.ownsRow_made w #[] 0 (Nat.le_refl _) (by unfold maxLen; omega) (by simp)
  have CD := fun w hC => cDrawSh cb cap a bs n w hC hl n1 n2
  unfold ShV.val at CD
  go_enter Try.func50, Try.ntmps50
  go_wp2_with fail
  refine (csize a bs.length cap 16 _ hl (by omega) (by omega)).mono ?_
  rintro e w1 ⟨r0, rfl, hr1, hr2, hw⟩
  subst w1
  go_wp2_with fail
  refine (cbelow cb cap a bs (2 + r0) _ C1 hl (by omega) (by omega)).mono ?_
  rintro e w1 ⟨n3, rfl, n30, n31, C2, G2⟩
  have OA := own_far O0 G2 (fun k hk e => by have := own_from O0 (Nat.le_refl _) k hk; simp at e; omega)
  have GA := gtrans (gofr (some cb) A1) G2
  clear A1 C1 O0 G2 hc
  go_wp2
  go_loopw [7, 8] (fun o ii wr => ∃ (ms : List ShV) (I : Int), ii = .int .i64 I ∧ 0 ≤ I ∧ (ms.length : Int) + I = n3 ∧ wr.ownsRow w.heap.size 37 3 o ms.length (flatShs ms) ∧ Cur wr cb a cap bs ∧ w.grownBy wr (some cb)) (fun _ ii _ => (intOf ii).toNat)
  case atStart => exact ⟨[], n3, rfl, n30, by simp, OA, C2, GA⟩
  case round =>
    clear OA GA C2
    obtain ⟨ms, I, rfl, I0, hLI, O, C, hG⟩ := hrel
    obtain ⟨go, co, rfl⟩ := own_form O
    replace hLI := hide hLI
    have hml : ms.length ≤ 17 := by have := hLI.out; omega
    have hI4 : I ≤ 17 := by have := hLI.out; omega
    by_cases hI : 0 < I
    · go_wp2_with fail
      refine (CD _ C).mono ?_
      rintro e wd ⟨⟨xf, xt, xm⟩, rfl, C', G'⟩
      dsimp only
      replace O := own_far O G' (fun k hk e => by have := own_from O (Nat.le_refl _) k hk; simp at e; omega)
      replace hG := gtrans hG G'
      clear C G'
      have C := C'
      clear C'
      have hL2 : Hid (((ms ++ [(⟨xf, xt, xm⟩ : ShV)]).length : Int) + (I - 1) = n3) := hide (by have := hLI.out; simp; omega)
      clear hLI CD
      have hszg := hG.size
      go_wp2_with (at_builtin; refine wpList_append_own _ rfl _ _ 28 rfl w.heap.size 37 i1 _ 3 24 Try.underlying28 hi1 hy0 hy1 hy2 rfl (by decide) _ _ _ rfl (O.alloc _) ⟨wd.heap.size, 0, none⟩ 1 1 (ShV.vs ⟨xf, xt, xm⟩) rfl rfl ?c1 ?c2 ?c3 ?c4 ?c5 ?_)
      case c1 => exact World.news_of_block (heap_alloc_new wd _)
      case c2 => simp [Value.oneCell', ShV.vs]
      case c3 => unfold maxLen; omega
      case c4 => omega
      case c5 => simp; omega
      intro v5 w5 hown hgrow _
      have hfrom := own_from O (Nat.le_refl _)
      have C5 : Cur w5 cb a cap bs := Cur.grow (C.below (balloc wd _)) hOn hgrow hfrom
      have hG5 : w.grownBy w5 (some cb) := grown_far (gtrans hG (gofr _ (balloc wd _))) hgrow hfrom
      have O5 : w5.ownsRow w.heap.size 37 3 v5 (ms ++ [(⟨xf, xt, xm⟩ : ShV)]).length (flatShs (ms ++ [(⟨xf, xt, xm⟩ : ShV)])) := by
        rw [List.length_append, flatShs_app, show flatShs [(⟨xf, xt, xm⟩ : ShV)] = ShV.vs ⟨xf, xt, xm⟩ by simp [flatShs]]; exact hown
      clear hown hgrow O C hG hfrom
      go_wp2
      go_roundw
      case rel => exact ⟨ms ++ [⟨xf, xt, xm⟩], I - 1, by go_num, by omega, hL2.out, O5, C5, hG5⟩
      case measure => simp [intOf]; omega
    · obtain rfl : I = 0 := by omega
      clear hLI CD
      go_wp2
      go_ret
      exact ⟨ms, _, rfl, hml, O, C, hG⟩
end Go.Proofs.Ytipechbhhpagiaa
