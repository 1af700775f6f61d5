/- Drawn formations. -/
import Derived.Test.YtnddhpdhbmbikaaDoorDK
import Derived.Test.YtnddhpdhbmbikaaDoorCF
import Derived.Test.YtnddhpdhbmbikaaDoorB
import Derived.Deep.RegionLaw
import Derived.Deep.AppendLies
import Derived.Deep.RegionHeld3
namespace Go.Proofs.YtnddhpdhbmbikaaDoor
open Go.RowKit
theorem Ints.off {w w' : World} {b : Option Addr} {xs : List Int} {cb : Nat} (h : Ints w b xs) (hg : w.grownBy w' (some cb)) (hbc : ∀ x, b = some x → x.block ≠ cb) : Ints w' b xs := by
  rcases h with h | ⟨g, off, rfl, hc⟩
  · exact .inl h
  · refine .inr ⟨g, off, rfl, fun i hi => ?_⟩
    have hx := hc i hi
    have hb := hg.block g (cell_lt hx) (by simpa using hbc _ rfl)
    simp only [World.cell?] at hx ⊢
    rw [hb]
    exact hx

theorem far_blk {w w' : World} {r : Option Nat} (hg : w.grownBy w' r) {g : Nat} {o : Obj} (h : w.heap[g]? = some o) (hne : ∀ j, r = some j → g ≠ j) : w'.heap[g]? = some o :=
  (hg.block g (lt_of_block h) (fun e => hne g e.symm rfl)).trans h
theorem gofr {w w' : World} (r : Option Nat) (hb : Below w.heap.size w w') : w.grownBy w' r := ⟨hb.os, hb.tape, hb.output, hb.size, fun k hk _ => hb.block k hk⟩
theorem undrewG {w w1 : World} {r : Option Nat} (h : w.drew.grownBy w1 r) : w.grownBy w1 r := ⟨h.os, h.tape, h.output, h.size, h.block⟩
theorem heap_alloc_new (w : World) (o : Obj) : (w.alloc o).heap[w.heap.size]? = some o := one_block' w o
theorem four (w : World) (p q r s : Int) : Ints (w.alloc (.cells #[.int .i64 p, .int .i64 q, .int .i64 r, .int .i64 s] 3)) (some ⟨w.heap.size, 0, none⟩) [p, q, r, s] := by
  refine .inr ⟨_, 0, rfl, fun i hi => ?_⟩
  match i, hi with
  | 0, _ => simp
  | 1, _ => simp
  | 2, _ => simp
  | 3, _ => simp
  | (k + 4), hi => simp at hi; omega
/-- A drawn right unit at place i, of those from a number on. -/
def RightAt (f : Int) (i : Nat) (u : UV) : Prop := f + 3 * i ≤ u.i ∧ u.i ≤ f + 3 * i + 2 ∧ 1 ≤ u.c ∧ u.c ≤ 9 ∧ 10 ≤ u.m ∧ u.m ≤ 49
def RightL (f : Int) (l : List UV) : Prop := ∀ i, i < l.length → RightAt f i (l.getD i UV.zero)
theorem RightL.snoc {f : Int} {l : List UV} {u : UV} (h : RightL f l) (g : RightAt f l.length u) : RightL f (l ++ [u]) := by
  intro i hi
  by_cases e : i = l.length
  · subst e
    rw [show (l ++ [u]).getD l.length UV.zero = u by simp [List.getD]]
    exact g
  · have hi2 : i < l.length := by simp at hi; omega
    rw [show (l ++ [u]).getD i UV.zero = l.getD i UV.zero by simp [List.getD, List.getElem?_append_left hi2]]
    exact h i hi2
theorem RightL.form {f : Int} {l : List UV} (h : RightL f l) (h0 : 1 ≤ f) (h1 : f ≤ 1000) (hl : l.length ≤ 30) : formB l = true := by
  refine formB_iff.2 ⟨hl, fun k hk => ⟨?_, fun j hj => ?_⟩⟩
  · have := h k hk
    unfold RightAt at this
    generalize l.getD k UV.zero = u at *
    simp only [uOk, inB, Bool.and_eq_true, decide_eq_true_eq]
    omega
  · have h1 := h k hk
    have h2 := h j (by omega)
    unfold RightAt at h1 h2
    generalize l.getD k UV.zero = u at *
    generalize l.getD j UV.zero = v at *
    omega
/-- A list that is drawn. -/
def DrawnU (w : World) (cb : Nat) (a : Option Addr) (cap : Nat) (bs : List Int) (Pd : List UV → Prop) (e : Ending) (w' : World) : Prop :=
  ∃ (l : List UV) (v : Value), e = .returned v ∧ Pd l ∧ w'.ownsRow w.heap.size 34 4 v l.length (flatUs l) ∧ Cur w' cb a cap bs ∧ w.grownBy w' (some cb)

set_option maxRecDepth 20000 in
set_option maxHeartbeats 6400000 in
theorem cDrawR (cb cap : Nat) (a : Option Addr) (bs : List Int) (n f : Int) (like : Bool) (w : World) (hc : Cur w cb a cap bs) (hl : bs.length ≤ 1048576) (n1 : 0 ≤ n) (n2 : n ≤ 100) (f1 : 0 ≤ f) (f2 : f ≤ 1000) :
    Calls Tryd.prog 22 #[.pointer (some ⟨cb, 0, none⟩), .int .i64 n, .int .i64 f, .bool like] w (DrawnU w cb a cap bs (fun l => (l.length : Int) = n ∧ RightL f l)) := by
  obtain ⟨i1, hi1, hy0, hy1, hy2⟩ := info_parts infoUs
  have hcl := hc.lt (.inl rfl)
  have hOn : ∀ k, OnCur cb a bs k → k < w.heap.size := fun k hk => hc.lt hk
  have A1 := balloc w (.cells #[] 34)
  have C := hc.below A1
  have O : (w.alloc (.cells #[] 34)).ownsRow w.heap.size 34 4 (.slice (some ⟨w.heap.size, 0, none⟩) 0 0) 0 (flatUs []) := World.ownsRow_made w #[] 0 (Nat.le_refl _) (by unfold maxLen; omega) (by simp)
  have hG := gofr (some cb) A1
  clear A1 hc
  go_enter Tryd.func22, Tryd.ntmps22
  go_wp2_with fail
  refine (cbelow cb cap a bs 9 _ C hl (by omega) (by omega)).mono ?_
  rintro e w1 ⟨x, rfl, x0, x1, C', G'⟩
  replace O := own_far O G' (fun k hk e => by have := own_from O (Nat.le_refl _) k hk; simp at e; omega)
  replace hG := gtrans hG G'
  clear C G'
  have C := C'
  clear C'
  go_wp2
  go_loopw [9, 10, 11] (fun o cc ii wr => ∃ (ms : List UV) (cv : Int), ii = .int .i64 (ms.length : Int) ∧ cc = .int .i64 (1 + cv) ∧ 0 ≤ cv ∧ cv < 9 ∧ (ms.length : Int) ≤ n ∧ RightL f ms ∧ wr.ownsRow w.heap.size 34 4 o ms.length (flatUs ms) ∧ Cur wr cb a cap bs ∧ w.grownBy wr (some cb)) (fun _ _ ii _ => (n - intOf ii).toNat)
  case atStart => exact ⟨[], x, rfl, rfl, x0, x1, by simpa using n1, fun i hi => by simp at hi, O, C, hG⟩
  case round =>
    clear O C hG x0 x1
    obtain ⟨ms, cv, rfl, rfl, c0, c1, hmn, hR, O, C, hG⟩ := hrel
    obtain ⟨go, co, rfl⟩ := own_form O
    replace hR := hide hR
    by_cases hI : (ms.length : Int) < n
    · obtain ⟨L, hL⟩ : ∃ L, L = ms.length := ⟨_, rfl⟩
      rw [← hL] at O hmn hI ⊢
      replace hL := hide hL
      cases like
      · go_wp2_with fail
        refine (cbelow cb cap a bs 9 _ C hl (by omega) (by omega)).mono ?_
        rintro e wa ⟨y, rfl, y0, y1, C', G'⟩
        replace O := own_far O G' (fun k hk e => by have := own_from O (Nat.le_refl _) k hk; simp at e; omega)
        replace hG := gtrans hG G'
        clear C G'
        have C := C'
        clear C'
        have hwy : 0 ≤ y ∧ y < 9 := ⟨y0, y1⟩
        obtain ⟨cw, hcw⟩ : ∃ cw, cw = y := ⟨_, rfl⟩
        rw [← hcw] at hwy ⊢
        clear hcw
        obtain ⟨d0, d1⟩ := hwy
        have e1 : IntKind.i64.wrap ((L : Int) * 3) = (L : Int) * 3 := wrap_in _ (by omega) (by omega)
        have e2 : IntKind.i64.wrap (f + (L : Int) * 3) = f + (L : Int) * 3 := wrap_in _ (by omega) (by omega)
        go_wp2_with fail
        refine (cbelow cb cap a bs 3 _ C hl (by omega) (by omega)).mono ?_
        rintro e wb ⟨p, rfl, p0, p1, C', G'⟩
        replace O := own_far O G' (fun k hk e => by have := own_from O (Nat.le_refl _) k hk; simp at e; omega)
        replace hG := gtrans hG G'
        clear C G'
        have C := C'
        clear C'
        have e3 : IntKind.i64.wrap (f + (L : Int) * 3 + p) = f + (L : Int) * 3 + p := wrap_in _ (by omega) (by omega)
        go_wp2_with fail
        refine (cbelow cb cap a bs 40 _ C hl (by omega) (by omega)).mono ?_
        rintro e wc ⟨m, rfl, m0, m1, C', G'⟩
        replace O := own_far O G' (fun k hk e => by have := own_from O (Nat.le_refl _) k hk; simp at e; omega)
        replace hG := gtrans hG G'
        clear C G'
        have C := C'
        clear C'
        go_wp2_with fail
        refine (conce cb cap a bs 3 _ C hl (by omega) (by omega)).mono ?_
        rintro e wd ⟨bk, rfl, C', G'⟩
        replace O := own_far O G' (fun k hk e => by have := own_from O (Nat.le_refl _) k hk; simp at e; omega)
        replace hG := gtrans hG G'
        clear C G'
        have C := C'
        clear C'
        have hsz := hG.size
        go_wp2_with (at_builtin; refine wpList_append_own _ rfl _ _ 24 rfl w.heap.size 34 i1 _ 4 32 Tryd.underlying24 hi1 hy0 hy1 hy2 rfl (by decide) _ _ _ rfl (O.alloc _) ⟨wd.heap.size, 0, none⟩ 1 1 [.int .i64 (f + (L : Int) * 3 + p), .int .i64 (1 + cw), .int .i64 (10 + m), .bool bk] rfl rfl ?c1 ?c2 ?c3 ?c4 ?c5 ?_)
        case c1 => exact World.news_of_block (heap_alloc_new wd _)
        case c2 => intro u hu; simp at hu; rcases hu with rfl | rfl | rfl | rfl <;> rfl
        case c3 => unfold maxLen; omega
        case c4 => omega
        case c5 => simp; omega
        intro v' w9 hown' hgrow _
        have hfrom := own_from O (Nat.le_refl _)
        have C9 := Cur.grow (C.below (balloc wd _)) hOn hgrow hfrom
        have O9 : w9.ownsRow w.heap.size 34 4 v' (ms ++ [(⟨f + (L : Int) * 3 + p, 1 + cw, 10 + m, bk⟩ : UV)]).length (flatUs (ms ++ [(⟨f + (L : Int) * 3 + p, 1 + cw, 10 + m, bk⟩ : UV)])) := by
          rw [List.length_append, flatUs_app, ← hL.out]; exact hown'
        have G9 : w.grownBy w9 (some cb) := grown_far (gtrans hG (gofr _ (balloc wd _))) hgrow hfrom
        clear O C hown' hgrow hfrom hG
        have R9 := hide (hR.out.snoc (u := (⟨f + (L : Int) * 3 + p, 1 + cw, 10 + m, bk⟩ : UV)) (by rw [← hL.out]; unfold RightAt; dsimp only; omega))
        have hL9 : Hid ((ms ++ [(⟨f + (L : Int) * 3 + p, 1 + cw, 10 + m, bk⟩ : UV)]).length = L + 1) := hide (by rw [List.length_append, ← hL.out]; rfl)
        go_wp2
        go_roundw
        case rel => exact ⟨ms ++ [(⟨f + (L : Int) * 3 + p, 1 + cw, 10 + m, bk⟩ : UV)], cw, by rw [hL9.out]; go_num, rfl, d0, d1, by rw [hL9.out]; omega, R9.out, O9, C9, G9⟩
        case measure => simp [intOf]; omega
      · have hwy : 0 ≤ cv ∧ cv < 9 := ⟨c0, c1⟩
        obtain ⟨cw, hcw⟩ : ∃ cw, cw = cv := ⟨_, rfl⟩
        rw [← hcw] at hwy ⊢
        clear hcw
        obtain ⟨d0, d1⟩ := hwy
        have e1 : IntKind.i64.wrap ((L : Int) * 3) = (L : Int) * 3 := wrap_in _ (by omega) (by omega)
        have e2 : IntKind.i64.wrap (f + (L : Int) * 3) = f + (L : Int) * 3 := wrap_in _ (by omega) (by omega)
        go_wp2_with fail
        refine (cbelow cb cap a bs 3 _ C hl (by omega) (by omega)).mono ?_
        rintro e wb ⟨p, rfl, p0, p1, C', G'⟩
        replace O := own_far O G' (fun k hk e => by have := own_from O (Nat.le_refl _) k hk; simp at e; omega)
        replace hG := gtrans hG G'
        clear C G'
        have C := C'
        clear C'
        have e3 : IntKind.i64.wrap (f + (L : Int) * 3 + p) = f + (L : Int) * 3 + p := wrap_in _ (by omega) (by omega)
        go_wp2_with fail
        refine (cbelow cb cap a bs 40 _ C hl (by omega) (by omega)).mono ?_
        rintro e wc ⟨m, rfl, m0, m1, C', G'⟩
        replace O := own_far O G' (fun k hk e => by have := own_from O (Nat.le_refl _) k hk; simp at e; omega)
        replace hG := gtrans hG G'
        clear C G'
        have C := C'
        clear C'
        go_wp2_with fail
        refine (conce cb cap a bs 3 _ C hl (by omega) (by omega)).mono ?_
        rintro e wd ⟨bk, rfl, C', G'⟩
        replace O := own_far O G' (fun k hk e => by have := own_from O (Nat.le_refl _) k hk; simp at e; omega)
        replace hG := gtrans hG G'
        clear C G'
        have C := C'
        clear C'
        have hsz := hG.size
        go_wp2_with (at_builtin; refine wpList_append_own _ rfl _ _ 24 rfl w.heap.size 34 i1 _ 4 32 Tryd.underlying24 hi1 hy0 hy1 hy2 rfl (by decide) _ _ _ rfl (O.alloc _) ⟨wd.heap.size, 0, none⟩ 1 1 [.int .i64 (f + (L : Int) * 3 + p), .int .i64 (1 + cw), .int .i64 (10 + m), .bool bk] rfl rfl ?c1 ?c2 ?c3 ?c4 ?c5 ?_)
        case c1 => exact World.news_of_block (heap_alloc_new wd _)
        case c2 => intro u hu; simp at hu; rcases hu with rfl | rfl | rfl | rfl <;> rfl
        case c3 => unfold maxLen; omega
        case c4 => omega
        case c5 => simp; omega
        intro v' w9 hown' hgrow _
        have hfrom := own_from O (Nat.le_refl _)
        have C9 := Cur.grow (C.below (balloc wd _)) hOn hgrow hfrom
        have O9 : w9.ownsRow w.heap.size 34 4 v' (ms ++ [(⟨f + (L : Int) * 3 + p, 1 + cw, 10 + m, bk⟩ : UV)]).length (flatUs (ms ++ [(⟨f + (L : Int) * 3 + p, 1 + cw, 10 + m, bk⟩ : UV)])) := by
          rw [List.length_append, flatUs_app, ← hL.out]; exact hown'
        have G9 : w.grownBy w9 (some cb) := grown_far (gtrans hG (gofr _ (balloc wd _))) hgrow hfrom
        clear O C hown' hgrow hfrom hG
        have R9 := hide (hR.out.snoc (u := (⟨f + (L : Int) * 3 + p, 1 + cw, 10 + m, bk⟩ : UV)) (by rw [← hL.out]; unfold RightAt; dsimp only; omega))
        have hL9 : Hid ((ms ++ [(⟨f + (L : Int) * 3 + p, 1 + cw, 10 + m, bk⟩ : UV)]).length = L + 1) := hide (by rw [List.length_append, ← hL.out]; rfl)
        go_wp2
        go_roundw
        case rel => exact ⟨ms ++ [(⟨f + (L : Int) * 3 + p, 1 + cw, 10 + m, bk⟩ : UV)], cw, by rw [hL9.out]; go_num, rfl, d0, d1, by rw [hL9.out]; omega, R9.out, O9, C9, G9⟩
        case measure => simp [intOf]; omega
    · have hlen : (ms.length : Int) = n := by omega
      have HL := hide hlen
      clear hlen hmn
      go_wp2
      go_ret
      exact ⟨ms, _, rfl, ⟨HL.out, hR.out⟩, O, C, hG⟩
end Go.Proofs.YtnddhpdhbmbikaaDoor
