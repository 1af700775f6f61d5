/- The walk of the law on Both. -/
import Derived.Test.YtmchdclieejohaaT
import Derived.Test.YtmchdclieejohaaZ
import Derived.Deep.Cut
namespace Go.Proofs.Ytmchdclieejohaa
open Go.RowKit

set_option maxHeartbeats 1600000 in
theorem c30k (lo hi : Nat) (ao1 ao2 : Option Addr) (cp1 cp2 : Nat) (xs ys : List Int) (u0 u1 u2 : Value) (k : Int) (w : World)
    (o1 : w.ownsRow lo 3 1 (.slice ao1 xs.length cp1) xs.length (xs.map (Value.int .i64))) (o2 : w.ownsRow lo 3 1 (.slice ao2 ys.length cp2) ys.length (ys.map (Value.int .i64)))
    (hap : (Value.slice ao1 xs.length cp1).ownBlock = none ∨ (Value.slice ao1 xs.length cp1).ownBlock ≠ (Value.slice ao2 ys.length cp2).ownBlock)
    (h1 : ∀ g, (Value.slice ao1 xs.length cp1).ownBlock = some g → g < hi) (h2 : ∀ g, (Value.slice ao2 ys.length cp2).ownBlock = some g → g < hi) (hhi : hi ≤ w.heap.size) (hlo : lo ≤ hi)
    (hl1 : xs.length ≤ 1048576) (hl2 : ys.length ≤ 1048576) (hk0 : 0 ≤ k) (hk1 : k ≤ 4000000) :
    Calls Try.prog 30 #[.agg #[u0, u1, u2, .slice ao1 xs.length cp1, .slice ao2 ys.length cp2], .int .i64 k] w fun e w' => e = .returned (.int .i64 (k + xs.length + ys.length)) ∧
      w'.ownsRow lo 3 1 (.slice ao1 xs.length cp1) xs.length ((marks k xs.length).map (Value.int .i64)) ∧ w'.ownsRow lo 3 1 (.slice ao2 ys.length cp2) ys.length ((marks (k + xs.length) ys.length).map (Value.int .i64)) ∧ Marked lo hi w w' := by
  go_enter Try.func30, Try.ntmps30
  go_wp2_with fail
  refine (c52v lo cp1 ao1 xs k _ (o1.alloc _) hl1 hk0 (by omega)).mono ?_
  rintro e w1 ⟨rfl, m1, hg1⟩
  have M0 : Marked lo hi w (w.alloc (.cells #[u0, u1, u2, .slice ao1 xs.length cp1, .slice ao2 ys.length cp2] 26)) := Marked.of_below (balloc _ _) (by omega)
  have M1 := Marked.of_grown hg1 (own_ge o1) h1 (by simp; omega)
  have X1 : Bx w1 w.heap.size u0 u1 u2 (.slice ao1 xs.length cp1) (.slice ao2 ys.length cp2) := M1.box hhi ⟨by simp, by simp, by simp, by simp, by simp⟩
  have o2' := grown_own hg1 (o2.alloc _) (by rcases hap with h | h; exact .inl h; exact .inr (.inr h))
  obtain ⟨b0, b1, b2, b3, b4⟩ := id X1
  clear hg1 X1
  go_wp2_with fail
  refine (c52v lo cp2 ao2 ys _ _ o2' hl2 (by omega) (by omega)).mono ?_
  rintro e w2 ⟨rfl, m2, hg2⟩
  have M2 := Marked.of_grown hg2 (own_ge o2) h2 (by have := M1.low.size; simp at this; omega)
  have m1' := grown_own hg2 m1 (by rcases hap with h | h; exact .inr (.inl h); exact .inr (.inr (fun e => h e.symm)))
  go_wp2
  go_ret
  exact ⟨rfl, m1', m2, (M0.trans M1).trans M2⟩


theorem BB.alc {b1 b2 : Nat} {c0 c1 c2 c3 c4 d0 d1 d2 d3 d4 : Value} {W0 w1 : World} {o : Obj} (h : BB b1 b2 c0 c1 c2 c3 c4 d0 d1 d2 d3 d4 W0 w1) : BB b1 b2 c0 c1 c2 c3 c4 d0 d1 d2 d3 d4 W0 (w1.alloc o) := BB.step h (balloc _ _)
theorem BB.st5 {b1 b2 b : Nat} {c0 c1 c2 c3 c4 d0 d1 d2 d3 d4 u0 u1 u2 u3 u4 : Value} {W0 w1 : World} (hX : Bx W0 b1 c0 c1 c2 c3 c4) (hY : Bx W0 b2 d0 d1 d2 d3 d4) (hb : W0.heap.size ≤ b) (h : BB b1 b2 c0 c1 c2 c3 c4 d0 d1 d2 d3 d4 W0 w1) :
    BB b1 b2 c0 c1 c2 c3 c4 d0 d1 d2 d3 d4 W0 (((((w1.setCell ⟨b, 0, none⟩ u0).setCell ⟨b, 1, none⟩ u1).setCell ⟨b, 2, none⟩ u2).setCell ⟨b, 3, none⟩ u3).setCell ⟨b, 4, none⟩ u4) :=
  BB.mk (hX.below (below_set5 hb h.bel)) (hY.below (below_set5 hb h.bel)) (below_set5 hb h.bel)
theorem newblk {v w' : World} {o : Obj} (h : Below (v.alloc o).heap.size (v.alloc o) w') : w'.heap[v.heap.size]? = some o :=
  (h.block _ (by simp)).trans (by show (v.heap.push _)[v.heap.size]? = _; rw [Array.getElem?_push, if_pos rfl])
theorem newblkd {v w' : World} {o : Obj} (h : Below (v.alloc o).drew.heap.size (v.alloc o).drew w') : w'.heap[v.heap.size]? = some o := newblk (undrew h)
theorem szdrew (v : World) : v.drew.heap.size = v.heap.size := rfl
theorem keepblk {v w' : World} {b : Nat} {o : Obj} (h : Below v.heap.size v w') (hz : v.heap[b]? = some o) : w'.heap[b]? = some o := (h.block _ (lt_of_block hz)).trans hz
theorem bx_set5 {w1 : World} {b : Nat} {c0 c1 c2 c3 c4 u0 u1 u2 u3 u4 : Value} {t : TypeId} (h : w1.heap[b]? = some (.cells #[c0, c1, c2, c3, c4] t (0, 0))) :
    Bx (((((w1.setCell ⟨b, 0, none⟩ u0).setCell ⟨b, 1, none⟩ u1).setCell ⟨b, 2, none⟩ u2).setCell ⟨b, 3, none⟩ u3).setCell ⟨b, 4, none⟩ u4) b u0 u1 u2 u3 u4 := by
  have h1 := Go.Joins.block_setCell (i := 0) h u0
  have h2 := Go.Joins.block_setCell (i := 1) h1 u1
  have h3 := Go.Joins.block_setCell (i := 2) h2 u2
  have h4 := Go.Joins.block_setCell (i := 3) h3 u3
  have h5 := Go.Joins.block_setCell (i := 4) h4 u4
  exact (blk5 (by simpa using h5)).1
/-- What a box that holds an answer is, when the statement that fills it is over. -/
structure Got (b1 b2 : Nat) (c0 c1 c2 c3 c4 d0 d1 d2 d3 d4 : Value) (W0 : World) (R : PatV) (v : Value) (w' : World) : Prop where
  ex : ∃ b o1 p1 o2 p2, v = .pointer (some ⟨b, 0, none⟩) ∧ W0.heap.size ≤ b ∧ b < w'.heap.size ∧ Bx w' b (.int .i64 R.w) (.int .i64 R.f) (.int .i64 R.t) (.slice o1 R.xs.length p1) (.slice o2 R.ys.length p2) ∧ Ints w' o1 R.xs ∧ Ints w' o2 R.ys
  bb : BB b1 b2 c0 c1 c2 c3 c4 d0 d1 d2 d3 d4 W0 w'
theorem Got.new {b1 b2 : Nat} {c0 c1 c2 c3 c4 d0 d1 d2 d3 d4 : Value} {W0 w1 : World} {R : PatV} {o1 o2 : Option Addr} {p1 p2 B : Nat} (h : BB b1 b2 c0 c1 c2 c3 c4 d0 d1 d2 d3 d4 W0 w1)
    (q1 : w1.ownsRow B 3 1 (.slice o1 R.xs.length p1) R.xs.length (R.xs.map (Value.int .i64))) (q2 : w1.ownsRow B 3 1 (.slice o2 R.ys.length p2) R.ys.length (R.ys.map (Value.int .i64))) :
    Got b1 b2 c0 c1 c2 c3 c4 d0 d1 d2 d3 d4 W0 R (.pointer (some ⟨w1.heap.size, 0, none⟩)) (w1.alloc (.cells #[.int .i64 R.w, .int .i64 R.f, .int .i64 R.t, .slice o1 R.xs.length p1, .slice o2 R.ys.length p2] 26)) :=
  ⟨⟨_, o1, p1, o2, p2, rfl, h.bel.size, by simp, Bx.new _ _ _ _ _ _ _, (ints_of_own q1).below (balloc _ _), (ints_of_own q2).below (balloc _ _)⟩, h.alc⟩
theorem Got.st {b1 b2 b : Nat} {c0 c1 c2 c3 c4 d0 d1 d2 d3 d4 z0 z1 z2 z3 z4 : Value} {t : TypeId} {W0 w1 : World} {R : PatV} {o1 o2 : Option Addr} {p1 p2 B : Nat} (hX : Bx W0 b1 c0 c1 c2 c3 c4) (hY : Bx W0 b2 d0 d1 d2 d3 d4) (h : BB b1 b2 c0 c1 c2 c3 c4 d0 d1 d2 d3 d4 W0 w1)
    (hz : w1.heap[b]? = some (.cells #[z0, z1, z2, z3, z4] t (0, 0))) (hb : W0.heap.size ≤ b) (hB : b < B)
    (q1 : w1.ownsRow B 3 1 (.slice o1 R.xs.length p1) R.xs.length (R.xs.map (Value.int .i64))) (q2 : w1.ownsRow B 3 1 (.slice o2 R.ys.length p2) R.ys.length (R.ys.map (Value.int .i64))) :
    Got b1 b2 c0 c1 c2 c3 c4 d0 d1 d2 d3 d4 W0 R (.pointer (some ⟨b, 0, none⟩)) (((((w1.setCell ⟨b, 0, none⟩ (.int .i64 R.w)).setCell ⟨b, 1, none⟩ (.int .i64 R.f)).setCell ⟨b, 2, none⟩ (.int .i64 R.t)).setCell ⟨b, 3, none⟩ (.slice o1 R.xs.length p1)).setCell ⟨b, 4, none⟩ (.slice o2 R.ys.length p2)) :=
  ⟨⟨_, o1, p1, o2, p2, rfl, hb, by have := lt_of_block hz; simpa [World.setCell] using this, bx_set5 hz, ints_of_own (own_set5 hB q1), ints_of_own (own_set5 hB q2)⟩, h.st5 hX hY hb⟩

set_option maxHeartbeats 12800000 in
theorem walk9 (a1 a2 a3 a4 : Option Addr) (p1 p2 p3 p4 : Nat) (zs es ys ds : List Int) (W F T V G H : Int) (w : World) (h1 : Ints w a1 zs) (h2 : Ints w a2 es) (h3 : Ints w a3 ys) (h4 : Ints w a4 ds) (hn1 : zs.length ≤ maxLen) (hn2 : es.length ≤ maxLen) (hn3 : ys.length ≤ maxLen) (hn4 : ds.length ≤ maxLen) :
    Calls Try.prog 9 #[.agg #[.int .i64 W, .int .i64 F, .int .i64 T, .slice a1 zs.length p1, .slice a2 es.length p2], .agg #[.int .i64 V, .int .i64 G, .int .i64 H, .slice a3 ys.length p3, .slice a4 ds.length p4]] w fun e w' => e = .returned (.bool true) ∧ Below w.heap.size w w' := by
  go_enter Try.func9, Try.ntmps9
  go_wp2_with fail
  obtain ⟨Wa, hWa⟩ : ∃ Wa, (w.alloc (.cells #[.int .i64 W, .int .i64 F, .int .i64 T, .slice a1 zs.length p1, .slice a2 es.length p2] 38)).alloc (.cells #[.int .i64 V, .int .i64 G, .int .i64 H, .slice a3 ys.length p3, .slice a4 ds.length p4] 38) = Wa := ⟨_, rfl⟩
  have HA : Below w.heap.size w Wa := by rw [← hWa]; exact btrans (balloc _ _) (balloc _ _)
  have ZA : Wa.heap.size = w.heap.size + 1 + 1 := by rw [← hWa]; simp
  have XP : Bx Wa w.heap.size (.int .i64 W) (.int .i64 F) (.int .i64 T) (.slice a1 zs.length p1) (.slice a2 es.length p2) := by rw [← hWa]; exact (Bx.new _ _ _ _ _ _ _).below (balloc _ _)
  have XQ : Bx Wa (w.heap.size + 1) (.int .i64 V) (.int .i64 G) (.int .i64 H) (.slice a3 ys.length p3) (.slice a4 ds.length p4) := by rw [← hWa]; have := Bx.new (w.alloc (.cells #[.int .i64 W, .int .i64 F, .int .i64 T, .slice a1 zs.length p1, .slice a2 es.length p2] 38)) (.int .i64 V) (.int .i64 G) (.int .i64 H) (.slice a3 ys.length p3) (.slice a4 ds.length p4) 38; rw [szalloc] at this; exact this
  rw [hWa]
  clear hWa
  refine (c24 a1 a2 zs.length es.length p1 p2 _ _ _ 1048576 _ (by omega) (by omega) hn1 hn2).mono ?_
  rintro e w0 ⟨r, rfl, hr, hb⟩
  have HB0 := btrans HA hb
  replace XP := XP.below hb
  replace XQ := XQ.below hb
  have z0 := hb.size
  clear hb HA
  rcases hr with rfl | ⟨hr, hr0⟩
  · go_wp2
    go_ret
    exact ⟨rfl, HB0⟩
  have hl1 : zs.length ≤ 1048576 := by omega
  have hl2 : es.length ≤ 1048576 := by omega
  have hr1 : r ≤ 1048576 := by omega
  clear hr
  obtain ⟨b0, b1, b2, b3, b4⟩ := id XQ
  go_wp2_with fail
  clear b0 b1 b2 b3 b4
  refine (c24 a3 a4 ys.length ds.length p3 p4 _ _ _ r _ hr0 hr1 hn3 hn4).mono ?_
  rintro e w1 ⟨s, rfl, hs, hb⟩
  have HB1 := btrans HB0 hb
  replace XP := XP.below hb
  replace XQ := XQ.below hb
  have z1 := hb.size
  clear hb HB0
  rcases hs with rfl | ⟨hs, hs0⟩
  · go_wp2
    go_ret
    exact ⟨rfl, HB1⟩
  have hl3 : ys.length ≤ 1048576 := by omega
  have hl4 : ds.length ≤ 1048576 := by omega
  clear hs
  have A1 := h1.below HB1
  have A2 := h2.below HB1
  have A3 := h3.below HB1
  have A4 := h4.below HB1
  clear h1 h2 h3 h4
  have H1 := BB.mk XP XQ (Below.refl w1.heap.size w1)
  obtain ⟨b0, b1, b2, b3, b4⟩ := id XP
  obtain ⟨e0, e1, e2, e3, e4⟩ := id XQ
  go_upto_region 8 with fail
  have C15h := hide (fun a1 a2 a3 a4 p1 p2 p3 p4 (w : World) hz he hy hd => (c15 a1 a2 a3 a4 p1 p2 p3 p4 zs es ys ds W F T V G H w hz he hy hd hl1 hl2 hl3 hl4))
  have C13h := hide (fun a1 a2 a3 a4 p1 p2 p3 p4 (w : World) hz he hy hd => (c13 a1 a2 a3 a4 p1 p2 p3 p4 zs es ys ds W F T V G H w hz he hy hd hl1 hl2 hl3 hl4))
  obtain ⟨lx, ly⟩ := bothR_len (W := W) (F := F) (T := T) (zs := zs) (es := es) (V := V) (G := G) (H := H) (ys := ys) (ds := ds)
  generalize bothR W F T zs es V G H ys ds = R at *
  go_cut [6] from 24 (fun sv wc => Got w.heap.size (w.heap.size + 1) (.int .i64 W) (.int .i64 F) (.int .i64 T) (.slice a1 zs.length p1) (.slice a2 es.length p2) (.int .i64 V) (.int .i64 G) (.int .i64 H) (.slice a3 ys.length p3) (.slice a4 ds.length p4) w1 R sv wc)
  case first =>
    go_region_held3 (fun w' => BB w.heap.size (w.heap.size + 1) (.int .i64 W) (.int .i64 F) (.int .i64 T) (.slice a1 zs.length p1) (.slice a2 es.length p2) (.int .i64 V) (.int .i64 G) (.int .i64 H) (.slice a3 ys.length p3) (.slice a4 ds.length p4) w1 w')
      ((first | (with_reducible exact BB.drw H1) | (with_reducible exact BB.drw (BB.alc H1)) | (with_reducible assumption) | (with_reducible exact BB.alc (by with_reducible assumption)) | (with_reducible exact BB.st5 XP XQ (by omega) (by with_reducible assumption))))
      (first
        | (go_at_call_of 26 (Value.agg #[.int .i64 W, .int .i64 F, .int .i64 T, .slice a1 zs.length p1, .slice a2 es.length p2]); refine (c26 a1 a2 p1 p2 zs es W F T _ (A1.below (BB.bel (by assumption))) (A2.below (BB.bel (by assumption))) hl1 hl2).mono ?_; rintro e wp ⟨g1, g2, rfl, hopP, hbP⟩; have hxP := BB.step (by assumption) hbP; have sP := hbP.size; (try simp only [szalloc, szdrew] at sP); (first | (have zB := newblk hbP) | (have zB := newblkd hbP) | skip))
        | (go_at_call_of 26 (Value.agg #[.int .i64 V, .int .i64 G, .int .i64 H, .slice a3 ys.length p3, .slice a4 ds.length p4]); refine (c26 a3 a4 p3 p4 ys ds V G H _ (A3.below (BB.bel (by assumption))) (A4.below (BB.bel (by assumption))) hl3 hl4).mono ?_; rintro e wq ⟨g3, g4, rfl, hopQ, hbQ⟩; have hxQ := BB.step (by assumption) hbQ; have sQ := hbQ.size; (try simp only [szalloc] at sQ); (first | (have zB := newblk hbQ) | (have zB := keepblk hbQ zB) | skip))
        | (go_at_call 15; refine (C15h.out _ _ _ _ _ _ _ _ _ ((Ints.of_owns hopP.own1).below (by first | with_reducible exact hbQ | with_reducible exact btrans (balloc _ _) hbQ | with_reducible exact btrans hbQ (balloc _ _))) ((Ints.of_owns hopP.own2).below (by first | with_reducible exact hbQ | with_reducible exact btrans (balloc _ _) hbQ | with_reducible exact btrans hbQ (balloc _ _))) ((Ints.of_owns hopQ.own1).below (by first | with_reducible exact Below.refl _ _ | with_reducible exact balloc _ _)) ((Ints.of_owns hopQ.own2).below (by first | with_reducible exact Below.refl _ _ | with_reducible exact balloc _ _))).mono ?_; rintro e w3 ⟨so1, sp1, so2, sp2, rfl, q1, q2, _, hb3⟩; have hx3 := BB.step (by assumption) hb3; have s3 := hb3.size; (try simp only [szalloc] at s3); (first | (have zB := newblk hb3; obtain ⟨⟨r0, r1, r2, r3, r4⟩, t0, t1, t2, t3, t4⟩ := blk5 zB) | (have zC := keepblk hb3 zB; obtain ⟨⟨r0, r1, r2, r3, r4⟩, t0, t1, t2, t3, t4⟩ := blk5 zC) | skip)))
    all_goals (go_wp2_with fail; go_meet)
    all_goals first
      | (with_reducible refine Got.new ?_ q1 q2; with_reducible assumption)
      | (with_reducible refine Got.st XP XQ ?_ zC ?_ ?_ q1 q2; (with_reducible assumption); omega; omega)
      | (with_reducible refine Got.st XP XQ ?_ zB ?_ ?_ q1 q2; (with_reducible assumption); omega; simp)
  case rest =>
  clear b0 b1 b2 b3 b4 e0 e1 e2 e3 e4
  obtain ⟨⟨bw, so1, sp1, so2, sp2, rfl, hbw, hbw2, XW, S1, S2⟩, BW⟩ := hcut
  have HW := btrans HB1 BW.bel
  have zc := BW.bel.size
  replace XP := XP.below BW.bel
  replace XQ := XQ.below BW.bel
  replace A1 := A1.below BW.bel
  replace A2 := A2.below BW.bel
  replace A3 := A3.below BW.bel
  replace A4 := A4.below BW.bel
  clear BW HB1 H1 C15h
  obtain ⟨b0, b1, b2, b3, b4⟩ := id XP
  have nP : w.heap.size < wc.heap.size := by omega
  have nQ : w.heap.size + 1 < wc.heap.size := by omega
  go_wp2_with fail
  clear b0 b1 b2 b3 b4
  refine (c26 a1 a2 p1 p2 zs es W F T _ A1 A2 hl1 hl2).mono ?_
  rintro e w4 ⟨g3, g4, rfl, hop, hb4⟩
  have z4 := hb4.size
  obtain ⟨b0, b1, b2, b3, b4⟩ := XQ.below hb4
  have nQ4 : w.heap.size + 1 < w4.heap.size := by omega
  go_wp2_with fail
  clear b0 b1 b2 b3 b4
  obtain ⟨W4, hW4⟩ : ∃ W4, w4.alloc (.cells #[.int .i64 W, .int .i64 F, .int .i64 T, .slice (some ⟨g3, 0, none⟩) zs.length zs.length, .slice (some ⟨g4, 0, none⟩) es.length es.length] 26) = W4 := ⟨_, rfl⟩
  have Z4 : W4.heap.size = w4.heap.size + 1 := by rw [← hW4]; simp
  have B4 : Below wc.heap.size wc W4 := by rw [← hW4]; exact btrans hb4 (balloc _ _)
  have X0 : Bx W4 w4.heap.size (.int .i64 W) (.int .i64 F) (.int .i64 T) (.slice (some ⟨g3, 0, none⟩) zs.length zs.length) (.slice (some ⟨g4, 0, none⟩) es.length es.length) := by rw [← hW4]; exact Bx.new _ _ _ _ _ _ _
  have P4 : OwnPat wc.heap.size W4 g3 g4 zs es := by rw [← hW4]; exact hop.below (balloc _ _)
  have k3 : g3 < w4.heap.size := owns_lt hop.own1
  have k4 : g4 < w4.heap.size := owns_lt hop.own2
  rw [hW4]
  clear hW4 hop hb4
  refine (c26 a3 a4 p3 p4 ys ds V G H _ (A3.below B4) (A4.below B4) hl3 hl4).mono ?_
  rintro e w5 ⟨g5, g6, rfl, hop, hb5⟩
  have z5 := hb5.size
  obtain ⟨b0, b1, b2, b3, b4⟩ := X0.below hb5
  have nX5 : w4.heap.size < w5.heap.size := by omega
  go_wp2_with fail
  clear b0 b1 b2 b3 b4
  obtain ⟨W5, hW5⟩ : ∃ W5, w5.alloc (.cells #[.int .i64 V, .int .i64 G, .int .i64 H, .slice (some ⟨g5, 0, none⟩) ys.length ys.length, .slice (some ⟨g6, 0, none⟩) ds.length ds.length] 26) = W5 := ⟨_, rfl⟩
  have Z5 : W5.heap.size = w5.heap.size + 1 := by rw [← hW5]; simp
  have B45 : Below W4.heap.size W4 W5 := by rw [← hW5]; exact btrans hb5 (balloc _ _)
  have X1 : Bx W5 w5.heap.size (.int .i64 V) (.int .i64 G) (.int .i64 H) (.slice (some ⟨g5, 0, none⟩) ys.length ys.length) (.slice (some ⟨g6, 0, none⟩) ds.length ds.length) := by rw [← hW5]; exact Bx.new _ _ _ _ _ _ _
  have P5 : OwnPat W4.heap.size W5 g5 g6 ys ds := by rw [← hW5]; exact hop.below (balloc _ _)
  have k5 : g5 < w5.heap.size := owns_lt hop.own1
  have k6 : g6 < w5.heap.size := owns_lt hop.own2
  rw [hW5]
  clear hW5 hop hb5
  replace X0 := X0.below B45
  replace P4 := P4.below B45
  have B5 := btrans B4 B45
  clear B4 B45
  refine (C13h.out _ _ _ _ _ _ _ _ _ (Ints.of_owns P4.own1) (Ints.of_owns P4.own2) (Ints.of_owns P5.own1) (Ints.of_owns P5.own2)).mono ?_
  rintro e w6 ⟨go1, gp1, go2, gp2, rfl, o1, o2, ap, hb6⟩
  have z6 := hb6.size
  have c0 := XW.below (btrans B5 hb6)
  obtain ⟨b0, b1, b2, b3, b4⟩ := id c0
  have nW6 : bw < w6.heap.size := cell_lt b0
  go_wp2_with fail
  clear b0 b1 b2 b3 b4 c0
  obtain ⟨W6, hW6⟩ : ∃ W6, w6.alloc (.cells #[.int .i64 R.w, .int .i64 R.f, .int .i64 R.t, .slice go1 R.xs.length gp1, .slice go2 R.ys.length gp2] 26) = W6 := ⟨_, rfl⟩
  have Z6 : W6.heap.size = w6.heap.size + 1 := by rw [← hW6]; simp
  have B56 : Below W5.heap.size W5 W6 := by rw [← hW6]; exact btrans hb6 (balloc _ _)
  have XG : Bx W6 w6.heap.size (.int .i64 R.w) (.int .i64 R.f) (.int .i64 R.t) (.slice go1 R.xs.length gp1) (.slice go2 R.ys.length gp2) := by rw [← hW6]; exact Bx.new _ _ _ _ _ _ _
  have O1 : W6.ownsRow W5.heap.size 3 1 (.slice go1 R.xs.length gp1) R.xs.length (R.xs.map (Value.int .i64)) := by rw [← hW6]; exact own_keep o1 (balloc _ _)
  have O2 : W6.ownsRow W5.heap.size 3 1 (.slice go2 R.ys.length gp2) R.ys.length (R.ys.map (Value.int .i64)) := by rw [← hW6]; exact own_keep o2 (balloc _ _)
  have ho1 := own_hi o1
  have ho2 := own_hi o2
  rw [hW6]
  clear hW6 o1 o2 hb6
  replace X0 := X0.below B56
  replace X1 := X1.below B56
  replace P4 := P4.below B56
  replace P5 := P5.below B56
  have B6 := btrans B5 B56
  clear B5 B56
  refine (c27 go1 go2 so1 so2 gp1 gp2 sp1 sp2 R.xs R.ys R.w R.f R.t _ (ints_of_own O1) (ints_of_own O2) (S1.below B6) (S2.below B6) lx ly).mono ?_
  rintro e w7 ⟨rfl, hb7⟩
  have B7 := btrans B6 hb7
  replace X0 := X0.below hb7
  replace X1 := X1.below hb7
  replace XG := XG.below hb7
  replace P4 := P4.below hb7
  replace P5 := P5.below hb7
  replace O1 := own_keep O1 hb7
  replace O2 := own_keep O2 hb7
  have z7 := hb7.size
  clear B6 hb7
  have H7 := BB.mk (XP.below B7) X0 (Below.refl w7.heap.size w7)
  go_wp2_with fail
  go_region_held3 (fun w' => BB w.heap.size w4.heap.size (.int .i64 W) (.int .i64 F) (.int .i64 T) (.slice a1 zs.length p1) (.slice a2 es.length p2) (.int .i64 W) (.int .i64 F) (.int .i64 T) (.slice (some ⟨g3, 0, none⟩) zs.length zs.length) (.slice (some ⟨g4, 0, none⟩) es.length es.length) w7 w')
    ((first | (with_reducible exact BB.drw H7) | (with_reducible assumption)))
    (first
      | (go_at_call 26; refine (c26 a1 a2 p1 p2 zs es W F T _ (A1.below (btrans B7 (BB.bel (by assumption)))) (A2.below (btrans B7 (BB.bel (by assumption)))) hl1 hl2).mono ?_; rintro e wp ⟨g7, g8, rfl, hop7, hbp⟩; have hx7 := BB.step (by assumption) hbp)
      | (go_at_call 27; refine (c27 _ _ _ _ _ _ _ _ zs es W F T _ ((Ints.of_owns P4.own1).below (BB.bel (by assumption))) ((Ints.of_owns P4.own2).below (BB.bel (by assumption))) (Ints.of_owns hop7.own1) (Ints.of_owns hop7.own2) hl1 hl2).mono ?_; rintro e w8 ⟨rfl, hb8⟩; have hx8 := BB.step (by assumption) hb8))
  have hb8' := BB.bel hx8
  have B8 := btrans B7 hb8'
  replace X0 := X0.below hb8'
  replace X1 := X1.below hb8'
  replace XG := XG.below hb8'
  replace P4 := P4.below hb8'
  replace P5 := P5.below hb8'
  replace O1 := own_keep O1 hb8'
  replace O2 := own_keep O2 hb8'
  have z8 := hb8'.size
  clear B7 hb8' hb8 hx7 hx8 H7 hop7 hbp
  have H8 := BB.mk (XQ.below B8) X1 (Below.refl w8.heap.size w8)
  go_wp2_with fail
  go_region_held3 (fun w' => BB (w.heap.size + 1) w5.heap.size (.int .i64 V) (.int .i64 G) (.int .i64 H) (.slice a3 ys.length p3) (.slice a4 ds.length p4) (.int .i64 V) (.int .i64 G) (.int .i64 H) (.slice (some ⟨g5, 0, none⟩) ys.length ys.length) (.slice (some ⟨g6, 0, none⟩) ds.length ds.length) w8 w')
    ((first | (with_reducible exact BB.drw H8) | (with_reducible assumption)))
    (first
      | (go_at_call 26; refine (c26 a3 a4 p3 p4 ys ds V G H _ (A3.below (btrans B8 (BB.bel (by assumption)))) (A4.below (btrans B8 (BB.bel (by assumption)))) hl3 hl4).mono ?_; rintro e wp ⟨g7, g8, rfl, hop7, hbp⟩; have hx7 := BB.step (by assumption) hbp)
      | (go_at_call 27; refine (c27 _ _ _ _ _ _ _ _ ys ds V G H _ ((Ints.of_owns P5.own1).below (BB.bel (by assumption))) ((Ints.of_owns P5.own2).below (BB.bel (by assumption))) (Ints.of_owns hop7.own1) (Ints.of_owns hop7.own2) hl3 hl4).mono ?_; rintro e w9 ⟨rfl, hb9⟩; have hx9 := BB.step (by assumption) hb9))
  have hb9' := BB.bel hx9
  have B9 := btrans B8 hb9'
  replace X0 := X0.below hb9'
  replace X1 := X1.below hb9'
  replace XG := XG.below hb9'
  replace P4 := P4.below hb9'
  replace P5 := P5.below hb9'
  replace O1 := own_keep O1 hb9'
  replace O2 := own_keep O2 hb9'
  have z9 := hb9'.size
  clear B8 hb9' hb9 hx7 hx9 H8 hop7 hbp
  obtain ⟨b0, b1, b2, b3, b4⟩ := id X0
  go_wp2_with fail
  clear b0 b1 b2 b3 b4
  refine (c30k wc.heap.size w4.heap.size (some ⟨g3, 0, none⟩) (some ⟨g4, 0, none⟩) zs.length es.length zs es _ _ _ 1 _ P4.own1 P4.own2 (.inr (by simpa [Value.ownBlock] using P4.apart)) (fun g e => by simp [Value.ownBlock] at e; omega) (fun g e => by simp [Value.ownBlock] at e; omega) (by omega) (by omega) hl1 hl2 (by omega) (by omega)).mono ?_
  rintro e w10 ⟨rfl, _, _, M⟩
  replace X1 := M.box (by omega) X1
  replace XG := M.box (by omega) XG
  have P51 := M.own (by omega) P5.own1
  have P52 := M.own (by omega) P5.own2
  replace O1 := M.own (by omega) O1
  replace O2 := M.own (by omega) O2
  have B10 : Below wc.heap.size wc w10 := B9.trans M.low
  have z10 := M.low.size
  clear M B9
  obtain ⟨b0, b1, b2, b3, b4⟩ := id X1
  go_wp2_with fail
  clear b0 b1 b2 b3 b4
  refine (c30k W4.heap.size w5.heap.size (some ⟨g5, 0, none⟩) (some ⟨g6, 0, none⟩) ys.length ds.length ys ds _ _ _ _ _ P51 P52 (.inr (by simpa [Value.ownBlock] using P5.apart)) (fun g e => by simp [Value.ownBlock] at e; omega) (fun g e => by simp [Value.ownBlock] at e; omega) (by omega) (by omega) hl3 hl4 (by omega) (by omega)).mono ?_
  rintro e w11 ⟨rfl, _, _, M⟩
  replace XG := M.box (by omega) XG
  replace O1 := M.own (by omega) O1
  replace O2 := M.own (by omega) O2
  have B11 : Below wc.heap.size wc w11 := B10.trans (M.low.mono (by omega))
  have z11 := M.low.size
  clear M B10 P51 P52
  obtain ⟨b0, b1, b2, b3, b4⟩ := id XG
  obtain ⟨e0, e1, e2, e3, e4⟩ := XW.below B11
  go_wp2_with fail
  clear b0 b1 b2 b3 b4 e0 e1 e2 e3 e4
  refine (c27 go1 go2 so1 so2 gp1 gp2 sp1 sp2 R.xs R.ys R.w R.f R.t _ (ints_of_own O1) (ints_of_own O2) (S1.below B11) (S2.below B11) lx ly).mono ?_
  rintro e w12 ⟨rfl, hb⟩
  have B12 := btrans B11 hb
  replace XG := XG.below hb
  replace O1 := own_keep O1 hb
  replace O2 := own_keep O2 hb
  have z12 := hb.size
  clear hb B11
  obtain ⟨b0, b1, b2, b3, b4⟩ := id XG
  go_wp2_with fail
  clear b0 b1 b2 b3 b4
  refine (c30k W5.heap.size w6.heap.size go1 go2 gp1 gp2 R.xs R.ys _ _ _ 1 _ O1 O2 ap ho1 ho2 (by omega) (by omega) lx ly (by omega) (by omega)).mono ?_
  rintro e w13 ⟨rfl, m1, m2, M⟩
  replace XG := M.box (Nat.le_refl _) XG
  have B13 : Below wc.heap.size wc w13 := B12.trans (M.low.mono (by omega))
  have I1 := ints_of_own m1
  have I2 := ints_of_own m2
  have z13 := M.low.size
  clear M B12 O1 O2 m1 m2
  obtain ⟨b0, b1, b2, b3, b4⟩ := id XG
  go_wp2_with fail
  clear b0 b1 b2 b3 b4
  refine (c31 go1 go2 R.xs.length R.ys.length gp1 gp2 _ _ _ 1 _ I1 I2 lx ly (by omega) (by omega)).mono ?_
  rintro e w14 ⟨rfl, hb⟩
  have B14 := btrans B13 hb
  replace XG := XG.below hb
  replace I1 := I1.below hb
  replace I2 := I2.below hb
  have z14 := hb.size
  clear hb B13
  have HB14 := btrans HW B14
  replace XP := XP.below B14
  replace XQ := XQ.below B14
  replace XW := XW.below B14
  replace S1 := S1.below B14
  replace S2 := S2.below B14
  replace A1 := A1.below B14
  replace A2 := A2.below B14
  replace A3 := A3.below B14
  replace A4 := A4.below B14
  clear B14 HW X0 X1 P4 P5
  have H1 := BB.mk XP XQ (Below.refl w14.heap.size w14)
  obtain ⟨b0, b1, b2, b3, b4⟩ := id XP
  obtain ⟨e0, e1, e2, e3, e4⟩ := id XQ
  go_upto_region 31 with fail
  go_cut [13] from 75 (fun sv wc => Got w.heap.size (w.heap.size + 1) (.int .i64 W) (.int .i64 F) (.int .i64 T) (.slice a1 zs.length p1) (.slice a2 es.length p2) (.int .i64 V) (.int .i64 G) (.int .i64 H) (.slice a3 ys.length p3) (.slice a4 ds.length p4) w14 R sv wc)
  case first =>
    go_region_held3 (fun w' => BB w.heap.size (w.heap.size + 1) (.int .i64 W) (.int .i64 F) (.int .i64 T) (.slice a1 zs.length p1) (.slice a2 es.length p2) (.int .i64 V) (.int .i64 G) (.int .i64 H) (.slice a3 ys.length p3) (.slice a4 ds.length p4) w14 w')
      ((first | (with_reducible exact BB.drw H1) | (with_reducible exact BB.drw (BB.alc H1)) | (with_reducible assumption) | (with_reducible exact BB.alc (by with_reducible assumption)) | (with_reducible exact BB.st5 XP XQ (by omega) (by with_reducible assumption))))
      (first
        | (go_at_call_of 26 (Value.agg #[.int .i64 W, .int .i64 F, .int .i64 T, .slice a1 zs.length p1, .slice a2 es.length p2]); refine (c26 a1 a2 p1 p2 zs es W F T _ (A1.below (BB.bel (by assumption))) (A2.below (BB.bel (by assumption))) hl1 hl2).mono ?_; rintro e wp ⟨g1, g2, rfl, hopP, hbP⟩; have hxP := BB.step (by assumption) hbP; have sP := hbP.size; (try simp only [szalloc, szdrew] at sP); (first | (have zB := newblk hbP) | (have zB := newblkd hbP) | skip))
        | (go_at_call_of 26 (Value.agg #[.int .i64 V, .int .i64 G, .int .i64 H, .slice a3 ys.length p3, .slice a4 ds.length p4]); refine (c26 a3 a4 p3 p4 ys ds V G H _ (A3.below (BB.bel (by assumption))) (A4.below (BB.bel (by assumption))) hl3 hl4).mono ?_; rintro e wq ⟨g3, g4, rfl, hopQ, hbQ⟩; have hxQ := BB.step (by assumption) hbQ; have sQ := hbQ.size; (try simp only [szalloc] at sQ); (first | (have zB := newblk hbQ) | (have zB := keepblk hbQ zB) | skip))
        | (go_at_call 13; refine (C13h.out _ _ _ _ _ _ _ _ _ ((Ints.of_owns hopP.own1).below (by first | with_reducible exact hbQ | with_reducible exact btrans (balloc _ _) hbQ | with_reducible exact btrans hbQ (balloc _ _))) ((Ints.of_owns hopP.own2).below (by first | with_reducible exact hbQ | with_reducible exact btrans (balloc _ _) hbQ | with_reducible exact btrans hbQ (balloc _ _))) ((Ints.of_owns hopQ.own1).below (by first | with_reducible exact Below.refl _ _ | with_reducible exact balloc _ _)) ((Ints.of_owns hopQ.own2).below (by first | with_reducible exact Below.refl _ _ | with_reducible exact balloc _ _))).mono ?_; rintro e w3 ⟨so1, sp1, so2, sp2, rfl, q1, q2, _, hb3⟩; have hx3 := BB.step (by assumption) hb3; have s3 := hb3.size; (try simp only [szalloc] at s3); (first | (have zB := newblk hb3; obtain ⟨⟨r0, r1, r2, r3, r4⟩, t0, t1, t2, t3, t4⟩ := blk5 zB) | (have zC := keepblk hb3 zB; obtain ⟨⟨r0, r1, r2, r3, r4⟩, t0, t1, t2, t3, t4⟩ := blk5 zC) | skip)))
    all_goals (go_wp2_with fail; go_meet)
    all_goals first
      | (with_reducible refine Got.new ?_ q1 q2; with_reducible assumption)
      | (with_reducible refine Got.st XP XQ ?_ zC ?_ ?_ q1 q2; (with_reducible assumption); omega; omega)
      | (with_reducible refine Got.st XP XQ ?_ zB ?_ ?_ q1 q2; (with_reducible assumption); omega; simp)
  case rest =>
  clear b0 b1 b2 b3 b4 e0 e1 e2 e3 e4
  obtain ⟨⟨bh, fo1, fp1, fo2, fp2, rfl, hbh, hbh2, XH, J1, J2⟩, BH⟩ := hcut
  obtain ⟨b0, b1, b2, b3, b4⟩ := id XH
  obtain ⟨e0, e1, e2, e3, e4⟩ := XW.below BH.bel
  go_wp2_with fail
  clear b0 b1 b2 b3 b4 e0 e1 e2 e3 e4
  refine (c27 fo1 fo2 so1 so2 fp1 fp2 sp1 sp2 R.xs R.ys R.w R.f R.t _ J1 J2 (S1.below BH.bel) (S2.below BH.bel) lx ly).mono ?_
  rintro e w16 ⟨rfl, hb⟩
  have BL := btrans BH.bel hb
  obtain ⟨b0, b1, b2, b3, b4⟩ := XG.below BL
  go_wp2_with fail
  clear b0 b1 b2 b3 b4
  refine (c31 go1 go2 R.xs.length R.ys.length gp1 gp2 _ _ _ 1 _ (I1.below BL) (I2.below BL) lx ly (by omega) (by omega)).mono ?_
  rintro e w17 ⟨rfl, hb17⟩
  go_wp2
  go_ret
  exact ⟨rfl, btrans (btrans HB14 BL) hb17⟩
end Go.Proofs.Ytmchdclieejohaa
