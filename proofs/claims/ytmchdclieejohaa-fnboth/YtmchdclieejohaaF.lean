/- The laws' helpers over patterns: how large one is, a copy of one, whether two are the same. -/
import Derived.Test.YtmchdclieejohaaE
namespace Go.Proofs.Ytmchdclieejohaa
open Go.RowKit

set_option maxHeartbeats 1600000 in
theorem c24 (a1 a2 : Option Addr) (n1 n2 p1 p2 : Nat) (u0 u1 u2 : Value) (left : Int) (w : World) (h0 : 0 ≤ left) (h1 : left ≤ 1048576) (hn1 : n1 ≤ maxLen) (hn2 : n2 ≤ maxLen) :
    Calls Try.prog 24 #[.agg #[u0, u1, u2, .slice a1 n1 p1, .slice a2 n2 p2], .int .i64 left] w fun e w' => ∃ r, e = .returned (.int .i64 r) ∧ (r = -1 ∨ (r = left - n1 - n2 ∧ 0 ≤ r)) ∧ Below w.heap.size w w' := by
  go_enter Try.func24, Try.ntmps24
  go_wp2_with fail
  refine (c48 a1 n1 p1 left _ h0 h1 hn1).mono ?_
  rintro e w1 ⟨r, rfl, hr, rfl⟩
  rcases hr with rfl | ⟨hr, hr0⟩
  · go_wp2
    go_ret
    exact ⟨_, rfl, .inl rfl, balloc _ _⟩
  · have HR := hide hr
    have hr1 : r ≤ 1048576 := by omega
    clear hr
    go_wp2_with fail
    refine (c48 a2 n2 p2 r _ hr0 hr1 hn2).mono ?_
    rintro e w1 ⟨s, rfl, hs, rfl⟩
    rcases hs with rfl | ⟨hs, hs0⟩
    · go_wp2
      go_ret
      exact ⟨_, rfl, .inl rfl, balloc _ _⟩
    · have HS := hide hs
      clear hs
      go_wp2
      go_ret
      exact ⟨_, rfl, .inr ⟨by rw [HS.out, HR.out], hs0⟩, balloc _ _⟩

/-- A pattern that the call itself made: its two lists are rows of its own, apart from each other. -/
structure OwnPat (B : Nat) (w : World) (g1 g2 : Nat) (zs es : List Int) : Prop where
  own1 : w.ownsRow B 3 1 (.slice (some ⟨g1, 0, none⟩) zs.length zs.length) zs.length (zs.map (Value.int .i64))
  own2 : w.ownsRow B 3 1 (.slice (some ⟨g2, 0, none⟩) es.length es.length) es.length (es.map (Value.int .i64))
  apart : g1 ≠ g2

theorem OwnPat.below {B g1 g2 : Nat} {w w' : World} {zs es : List Int} (h : OwnPat B w g1 g2 zs es) (hb : Below w.heap.size w w') : OwnPat B w' g1 g2 zs es :=
  ⟨owns_below h.own1 hb, owns_below h.own2 hb, h.apart⟩

theorem own_set {w : World} {base g n cap b i : Nat} {xs : List Value} {u : Value} (hne : g ≠ b) (h : w.ownsRow base 3 1 (.slice (some ⟨g, 0, none⟩) n cap) n xs) : (w.setCell ⟨b, i, none⟩ u).ownsRow base 3 1 (.slice (some ⟨g, 0, none⟩) n cap) n xs :=
  ownsRow_setCell_other h (by intro e; simp only [Value.ownBlock, Option.some.injEq] at e; exact hne e) u
theorem below_set {B b i : Nat} {a w : World} {u : Value} (hp : B ≤ b) (h : Below B a w) : Below B a (w.setCell ⟨b, i, none⟩ u) := h.setCell hp u
theorem owns_lt {w : World} {base g n cap : Nat} {xs : List Value} (h : w.ownsRow base 3 1 (.slice (some ⟨g, 0, none⟩) n cap) n xs) : g < w.heap.size := by
  rcases h.2 with ⟨h', _⟩ | ⟨g', cap', cur, h', _, hg, _⟩
  · simp at h'
  · simp only [Value.slice.injEq, Option.some.injEq, Addr.mk.injEq, and_true, true_and] at h'
    obtain ⟨rfl, rfl⟩ := h'
    exact lt_of_block hg

theorem three_blocks (w : World) (o1 o2 o3 : Obj) : (((w.alloc o1).alloc o2).alloc o3).heap[w.heap.size]? = some o1 ∧ (((w.alloc o1).alloc o2).alloc o3).heap[w.heap.size + 1]? = some o2 ∧ (((w.alloc o1).alloc o2).alloc o3).heap[w.heap.size + 1 + 1]? = some o3 := by
  refine ⟨?_, ?_, ?_⟩
  · show (((w.heap.push o1).push o2).push o3)[w.heap.size]? = _
    simp [Array.getElem?_push]; omega
  · show (((w.heap.push o1).push o2).push o3)[w.heap.size + 1]? = _
    rw [Array.getElem?_push, if_neg (by simp), Array.getElem?_push, if_pos (by simp)]
  · show (((w.heap.push o1).push o2).push o3)[w.heap.size + 1 + 1]? = _
    rw [Array.getElem?_push, if_pos (by simp)]
theorem size3 (w : World) (o1 o2 o3 : Obj) : (((w.alloc o1).alloc o2).alloc o3).heap.size = w.heap.size + 1 + 1 + 1 := by simp

theorem blk5 {w : World} {g : Nat} {c0 c1 c2 c3 c4 : Value} {t : TypeId} (h : w.heap[g]? = some (.cells #[c0, c1, c2, c3, c4] t (0, 0))) :
    (w.cell? ⟨g, 0, none⟩ = some c0 ∧ w.cell? ⟨g, 1, none⟩ = some c1 ∧ w.cell? ⟨g, 2, none⟩ = some c2 ∧ w.cell? ⟨g, 3, none⟩ = some c3 ∧ w.cell? ⟨g, 4, none⟩ = some c4) ∧
    (w.frozen? ⟨g, 0, none⟩ = false ∧ w.frozen? ⟨g, 1, none⟩ = false ∧ w.frozen? ⟨g, 2, none⟩ = false ∧ w.frozen? ⟨g, 3, none⟩ = false ∧ w.frozen? ⟨g, 4, none⟩ = false) :=
  ⟨⟨Go.Joins.cell_of_block h 0, Go.Joins.cell_of_block h 1, Go.Joins.cell_of_block h 2, Go.Joins.cell_of_block h 3, Go.Joins.cell_of_block h 4⟩,
   ⟨Go.Joins.unfrozen_of_block h 0, Go.Joins.unfrozen_of_block h 1, Go.Joins.unfrozen_of_block h 2, Go.Joins.unfrozen_of_block h 3, Go.Joins.unfrozen_of_block h 4⟩⟩

set_option maxHeartbeats 1600000 in
theorem c26 (a1 a2 : Option Addr) (p1 p2 : Nat) (zs es : List Int) (W F T : Int) (w : World) (hz : Ints w a1 zs) (he : Ints w a2 es) (hl1 : zs.length ≤ 1048576) (hl2 : es.length ≤ 1048576) :
    Calls Try.prog 26 #[.agg #[.int .i64 W, .int .i64 F, .int .i64 T, .slice a1 zs.length p1, .slice a2 es.length p2]] w fun e w' =>
      ∃ g1 g2, e = .returned (.agg #[.int .i64 W, .int .i64 F, .int .i64 T, .slice (some ⟨g1, 0, none⟩) zs.length zs.length, .slice (some ⟨g2, 0, none⟩) es.length es.length]) ∧ OwnPat w.heap.size w' g1 g2 zs es ∧ Below w.heap.size w w' := by
  go_enter Try.func26, Try.ntmps26
  go_wp2_with fail
  refine (c50 a1 p1 zs _ (((hz.below (balloc _ _)).below (balloc _ _)).below (balloc _ _)) hl1).mono ?_
  rintro e w1 ⟨g, rfl, hown, hg, hb⟩
  obtain ⟨k1, k2, k3⟩ := three_blocks w (Obj.cells #[.int .i64 W, .int .i64 F, .int .i64 T, .slice a1 zs.length p1, .slice a2 es.length p2] 38) (Obj.cells #[.int .i64 0, .int .i64 0, .int .i64 0, .slice none 0 0, .slice none 0 0] 26) (Obj.cells #[.int .i64 W, .int .i64 F, .int .i64 T, .slice none 0 0, .slice none 0 0] 26)
  rw [size3] at hb hg hown
  have hbw : Below w.heap.size w w1 := (((balloc _ _).trans ((balloc _ _).mono (by simp))).trans ((balloc _ _).mono (by simp; omega))).trans (hb.mono (by omega))
  rw [← hb.block _ (by omega)] at k1 k2 k3
  have hs1 := hb.size
  rw [size3] at hs1
  clear hb
  subst hg
  have hs1' := owns_lt hown
  obtain ⟨⟨b0, b1, b2, b3, b4⟩, f0, f1, f2, f3, f4⟩ := blk5 k1
  obtain ⟨⟨d0, d1, d2, d3, d4⟩, e0, e1, e2, e3, e4⟩ := blk5 k3
  go_wp2_with fail
  clear b0 b1 b2 b3 b4 f0 f1 f2 f3 f4 d0 d1 d2 d3 d4 e0 e1 e2 e3 e4
  have k2' := (Below.heap_setCell w1 ⟨w.heap.size + 1 + 1, 3, none⟩ (Value.slice (some ⟨w.heap.size + 1 + 1 + 1, 0, none⟩) zs.length zs.length) (w.heap.size + 1) (by simp)).trans k2
  have k3' := Go.Joins.block_setCell (i := 3) k3 (Value.slice (some ⟨w.heap.size + 1 + 1 + 1, 0, none⟩) zs.length zs.length)
  have hbw' := hbw.setCell (p := ⟨w.heap.size + 1 + 1, 3, none⟩) (by simp; omega) (Value.slice (some ⟨w.heap.size + 1 + 1 + 1, 0, none⟩) zs.length zs.length)
  have hown' := ownsRow_setCell_other hown (a := ⟨w.heap.size + 1 + 1, 3, none⟩) (by simp [Value.ownBlock]) (Value.slice (some ⟨w.heap.size + 1 + 1 + 1, 0, none⟩) zs.length zs.length)
  have hsz : (w1.setCell ⟨w.heap.size + 1 + 1, 3, none⟩ (Value.slice (some ⟨w.heap.size + 1 + 1 + 1, 0, none⟩) zs.length zs.length)).heap.size = w1.heap.size := by simp [World.setCell]
  refine (c50 a2 p2 es _ (he.below hbw') hl2).mono ?_
  rintro e w2 ⟨g, rfl, hown2, hg, hb2⟩
  have hbw2 := hbw'.trans (hb2.mono (by rw [hsz]; omega))
  have hs2 := hb2.size
  rw [hsz] at hs2 hg
  rw [← hb2.block _ (by rw [hsz]; omega)] at k2' k3'
  have hown1 := owns_below hown' hb2
  have hown2' := Go.Joins.ownsRow_le hown2 (base' := w.heap.size) (by rw [hsz]; omega)
  have hown1' := Go.Joins.ownsRow_le hown1 (base' := w.heap.size) (by omega)
  clear hb2 hbw' hown' hown hbw k1 k2 k3 hown1 hown2 hsz
  have G := hide hg
  clear hg
  simp at k3'
  obtain ⟨⟨b0, b1, b2, b3, b4⟩, f0, f1, f2, f3, f4⟩ := blk5 k2'
  obtain ⟨⟨d0, d1, d2, d3, d4⟩, e0, e1, e2, e3, e4⟩ := blk5 k3'
  clear k2' k3'
  go_wp2_with fail
  have hne1 : g ≠ w.heap.size + 1 + 1 := by have := G.out; omega
  have hne2 : g ≠ w.heap.size + 1 := by have := G.out; omega
  have hne3 : w.heap.size + 1 + 1 + 1 ≠ g := by have := G.out; omega
  refine bodyPost_ret (v := .agg #[.int .i64 W, .int .i64 F, .int .i64 T, .slice (some ⟨w.heap.size + 1 + 1 + 1, 0, none⟩) zs.length zs.length, .slice (some ⟨g, 0, none⟩) es.length es.length])
    (by simp [results, Try.results26, go_sem, b0, b1, b2, b3, b4]) rfl ⟨_, _, rfl, ⟨?_, ?_, hne3⟩, ?_⟩
  · exact own_set (by omega) (own_set (by omega) (own_set (by omega) (own_set (by omega) (own_set (by omega) (own_set (by omega) hown1')))))
  · exact own_set hne2 (own_set hne2 (own_set hne2 (own_set hne2 (own_set hne2 (own_set hne1 hown2')))))
  · exact below_set (by omega) (below_set (by omega) (below_set (by omega) (below_set (by omega) (below_set (by omega) (below_set (by omega) hbw2)))))
end Go.Proofs.Ytmchdclieejohaa
