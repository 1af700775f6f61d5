/- Nets measured, copied, compared. -/
import Derived.Test.YtdjambejppanoaaBK
import Derived.Deep.RegionWith
namespace Go.Proofs.Ytdjambejppanoaa
open Go.RowKit
set_option maxHeartbeats 400000 in
theorem cSzNet (a : Option Addr) (n cap : Nat) (x : Value) (left : Int) (w : World) (h0 : 0 ≤ left) (h1 : left ≤ 1048576) (hn : n ≤ maxLen) :
    Calls Try.prog 24 #[.agg #[x, .slice a n cap], .int .i64 left] w fun e w' => ∃ r, e = .returned (.int .i64 r) ∧ (r = -1 ∨ (r = left - n ∧ 0 ≤ r)) ∧ Below w.heap.size w w' := by
  have hW := balloc w (.cells #[x, .slice a n cap] 44)
  go_enter Try.func24, Try.ntmps24
  go_wp2_with fail
  refine (cSzEdges a n cap left _ h0 h1 hn).mono ?_
  rintro e w1 ⟨r, rfl, hr, rfl⟩
  rcases hr with rfl | ⟨hr, hr0⟩
  · go_wp2
    go_ret
    exact ⟨_, rfl, .inl rfl, hW⟩
  · have HR := hide hr
    clear hr
    go_wp2
    go_ret
    exact ⟨_, rfl, .inr ⟨HR.out, hr0⟩, hW⟩

set_option maxHeartbeats 800000 in
theorem cEqNet (a1 a2 : Option Addr) (p1 p2 : Nat) (n : Int) (es : List EdgeV) (w : World) (h1 : Edges w a1 es) (h2 : Edges w a2 es) (hl : es.length ≤ 1048576) :
    Calls Try.prog 27 #[.agg #[.int .i64 n, .slice a1 es.length p1], .agg #[.int .i64 n, .slice a2 es.length p2]] w fun e w' => e = .returned (.bool true) ∧ Below w.heap.size w w' := by
  have hW := btrans (balloc w (.cells #[.int .i64 n, .slice a1 es.length p1] 26)) (balloc _ (.cells #[.int .i64 n, .slice a2 es.length p2] 26))
  go_enter Try.func27, Try.ntmps27
  go_wp2_with fail
  refine (cEqEdges a1 a2 p1 p2 es _ (h1.below hW) (h2.below hW) hl).mono ?_
  rintro e w1 ⟨rfl, hb⟩
  have HB := btrans hW hb
  go_wp2
  go_ret
  exact ⟨rfl, HB⟩
theorem own_setg {w : World} {base e sz g n cap b i : Nat} {xs : List Value} {u : Value} (hne : g ≠ b) (h : w.ownsRow base e sz (.slice (some ⟨g, 0, none⟩) n cap) n xs) : (w.setCell ⟨b, i, none⟩ u).ownsRow base e sz (.slice (some ⟨g, 0, none⟩) n cap) n xs :=
  own_set h (by intro k hk; simp [Value.ownBlock] at hk; omega)
/-- A net that the call itself made: its list of edges is a row of its own. -/
def OwnNet (B : Nat) (w : World) (g : Nat) (es : List EdgeV) : Prop := w.ownsRow B 41 4 (.slice (some ⟨g, 0, none⟩) es.length es.length) es.length (flatEdges es)

set_option maxHeartbeats 1600000 in
theorem cToNet (a : Option Addr) (p : Nat) (n : Int) (es : List EdgeV) (w : World) (he : Edges w a es) (hl : es.length ≤ 1048576) :
    Calls Try.prog 25 #[.agg #[.int .i64 n, .slice a es.length p]] w fun e w' =>
      ∃ g, e = .returned (.agg #[.int .i64 n, .slice (some ⟨g, 0, none⟩) es.length es.length]) ∧ OwnNet w.heap.size w' g es ∧ Below w.heap.size w w' := by
  go_enter Try.func25, Try.ntmps25
  go_wp2_with fail
  refine (cToEdges a p es _ (((he.below (balloc _ _)).below (balloc _ _)).below (balloc _ _)) hl).mono ?_
  rintro e w1 ⟨g, rfl, hown, hg, hb⟩
  obtain ⟨k1, k2, k3⟩ := three_blocks w (Obj.cells #[.int .i64 n, .slice a es.length p] 44) (Obj.cells #[.int .i64 0, .slice none 0 0] 26) (Obj.cells #[.int .i64 n, .slice none 0 0] 26)
  rw [size3] at hb hg hown
  have hbw : Below w.heap.size w w1 := (((balloc _ _).trans ((balloc _ _).mono (by simp))).trans ((balloc _ _).mono (by simp; omega))).trans (hb.mono (by omega))
  rw [← hb.block _ (by omega)] at k1 k2 k3
  have hs1 := hb.size
  rw [size3] at hs1
  clear hb
  subst hg
  have hs1' := owns_lt hown
  have hown' := Go.Joins.ownsRow_le hown (base' := w.heap.size) (by omega)
  obtain ⟨⟨b0, b1⟩, f0, f1⟩ := blk2 k2
  obtain ⟨⟨d0, d1⟩, e0, e1⟩ := blk2 k3
  clear k1 k2 k3 hown
  go_wp2_with fail
  refine bodyPost_ret (v := .agg #[.int .i64 n, .slice (some ⟨w.heap.size + 1 + 1 + 1, 0, none⟩) es.length es.length]) (by simp [results, Try.results25, go_sem, b0, b1]) rfl ⟨_, rfl, ?_, ?_⟩
  · exact own_setg (by omega) (own_setg (by omega) (own_setg (by omega) hown'))
  · exact below_set (by omega) (below_set (by omega) (below_set (by omega) hbw))

theorem OwnNet.below {B g : Nat} {w w' : World} {es : List EdgeV} (h : OwnNet B w g es) (hb : Below w.heap.size w w') : OwnNet B w' g es := own_keep h hb
theorem OwnNet.edges {B g : Nat} {w : World} {es : List EdgeV} (h : OwnNet B w g es) : Edges w (some ⟨g, 0, none⟩) es := Edges.of_owns h
theorem Bx2.mk {w w1 : World} {c0 c1 : Value} {t : TypeId} (h : Below (w.alloc (.cells #[c0, c1] t)).heap.size (w.alloc (.cells #[c0, c1] t)) w1) : Bx2 w1 w.heap.size c0 c1 := (Bx2.new w c0 c1 t).below h

end Go.Proofs.Ytdjambejppanoaa
