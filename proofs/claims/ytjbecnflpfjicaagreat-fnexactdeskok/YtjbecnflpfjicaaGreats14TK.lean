/- Trains measured, copied, compared, marked. -/
import Derived.Test.YtjbecnflpfjicaaGreats14MT
import Derived.Deep.RegionHeld3
namespace Go.Proofs.YtjbecnflpfjicaaGreat.s14
open Go.RowKit Go.Lib
theorem blocks3b (w : World) (o1 o2 o3 : Obj) : (((w.alloc o1).alloc o2).alloc o3).heap.size = w.heap.size + 1 + 1 + 1 := by simp

set_option maxHeartbeats 800000 in
theorem cSzTr (a : Option Addr) (n c : Nat) (x y : Value) (left : Int) (w : World) (h0 : 0 ≤ left) (h1 : left ≤ 1048576) (hn : n ≤ maxLen) :
    Calls Tryz.prog 11 #[.agg #[x, y, .slice a n c], .int .i64 left] w fun e w' => ∃ r, e = .returned (.int .i64 r) ∧ (r = -1 ∨ (r = left - n ∧ 0 ≤ r)) ∧ Below w.heap.size w w' := by
  have hW := balloc w (.cells #[x, y, .slice a n c] 28)
  go_enter Tryz.func11, Tryz.ntmps11
  go_wp2_with fail
  refine (cSzBks a n c left _ h0 h1 hn).mono ?_
  rintro e w1 ⟨r, rfl, hr, rfl⟩
  rcases hr with rfl | ⟨hr, hr0⟩
  · go_wp2
    go_ret
    exact ⟨_, rfl, .inl rfl, hW⟩
  · have HR := hide hr
    clear hr
    go_wp2
    go_ret
    exact ⟨_, rfl, .inr ⟨HR.out, hr0⟩, hW⟩

set_option maxHeartbeats 800000 in
theorem cEqTr (a1 a2 : Option Addr) (p1 p2 : Nat) (x y : Int) (es : List BkV) (w : World) (h1 : Bks w a1 es) (h2 : Bks w a2 es) (hl : es.length ≤ 1048576) :
    Calls Tryz.prog 27 #[.agg #[.int .i64 x, .int .i64 y, .slice a1 es.length p1], .agg #[.int .i64 x, .int .i64 y, .slice a2 es.length p2]] w fun e w' => e = .returned (.bool true) ∧ Below w.heap.size w w' := by
  have hW := btrans (balloc w (.cells #[.int .i64 x, .int .i64 y, .slice a1 es.length p1] 43)) (balloc _ (.cells #[.int .i64 x, .int .i64 y, .slice a2 es.length p2] 43))
  go_enter Tryz.func27, Tryz.ntmps27
  go_wp2_with fail
  refine (cEqBks a1 a2 p1 p2 es _ (h1.below hW) (h2.below hW) hl).mono ?_
  rintro e w0 ⟨rfl, hb0⟩
  have HB := btrans hW hb0
  go_wp2
  go_ret
  exact ⟨rfl, HB⟩

set_option maxRecDepth 20000 in
set_option maxHeartbeats 1600000 in
theorem cToTr (a : Option Addr) (p : Nat) (x y : Int) (es : List BkV) (w : World) (hz : Bks w a es) (hl : es.length ≤ 1048576) :
    Calls Tryz.prog 19 #[.agg #[.int .i64 x, .int .i64 y, .slice a es.length p]] w fun e w' =>
      ∃ g, e = .returned (.agg #[.int .i64 x, .int .i64 y, .slice (some ⟨g, 0, none⟩) es.length es.length]) ∧ w'.ownsRow w.heap.size 82 4 (.slice (some ⟨g, 0, none⟩) es.length es.length) es.length (flatBks es) ∧ Below w.heap.size w w' := by
  go_enter Tryz.func19, Tryz.ntmps19
  go_wp2_with fail
  refine (cToBks a p es _ (((hz.below (balloc _ _)).below (balloc _ _)).below (balloc _ _)) hl).mono ?_
  rintro e w1 ⟨g, rfl, hown, hg, hb⟩
  obtain ⟨k1, k2, k3⟩ := blocks3 w (Obj.cells #[.int .i64 x, .int .i64 y, .slice a es.length p] 28) (Obj.cells #[.int .i64 0, .int .i64 0, .slice none 0 0] 43) (Obj.cells #[.int .i64 x, .int .i64 y, .slice none 0 0] 43)
  rw [blocks3b] at hb hg hown
  have hbw : Below w.heap.size w w1 := (((balloc _ _).trans ((balloc _ _).mono (by simp))).trans ((balloc _ _).mono (by simp; omega))).trans (hb.mono (by omega))
  rw [← hb.block _ (by omega)] at k1 k2 k3
  have hs1 := hb.size
  rw [blocks3b] at hs1
  clear hb
  subst hg
  have hs1' := owns_lt hown
  have hown' := Go.Joins.ownsRow_le hown (base' := w.heap.size) (by omega)
  obtain ⟨⟨d0, d1, d2⟩, _, _, _⟩ := blk3 k1
  obtain ⟨⟨b0, b1, b2⟩, f0, f1, f2⟩ := blk3 k2
  obtain ⟨⟨c0, c1, c2⟩, e0, e1, e2⟩ := blk3 k3
  clear k1 k2 k3 hown
  go_wp2_with fail
  refine bodyPost_ret (v := .agg #[.int .i64 x, .int .i64 y, .slice (some ⟨w.heap.size + 1 + 1 + 1, 0, none⟩) es.length es.length]) (by simp [results, Tryz.results19, go_sem, b0, b1, b2]) rfl ⟨_, rfl, ?_, ?_⟩
  · repeat' apply own_setg (by omega)
    exact hown'
  · repeat' apply below_set (by omega)
    exact hbw

theorem grown_own {w w' : World} {r v : Option Nat} (h : w.grownBy w' r) (hj : ∀ j, r = some j → v = some j) : w.grownBy w' v :=
  ⟨h.os, h.tape, h.output, h.size, fun k hk hne => h.block k hk (fun e => hne (hj k e.symm).symm)⟩

end Go.Proofs.YtjbecnflpfjicaaGreat.s14
