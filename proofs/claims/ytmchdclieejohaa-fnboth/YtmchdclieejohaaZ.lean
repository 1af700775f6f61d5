/- Both: both texts at every argument. -/
import Derived.Test.YtmchdclieejohaaX
namespace Go.Proofs.Ytmchdclieejohaa
open Go.RowKit

def bothF (F G : Int) : Int := if F < G then G else F
def bothT (T H : Int) : Int := if H < T then H else T
def skB (W F T : Int) (zs es : List Int) (V G H : Int) (ys ds : List Int) (d : Int) : Bool := wkB (bits BinOp.and IntKind.i64 W V) d && !(onB W F T zs es d && onB V G H ys ds d)
def exB (W F T : Int) (zs es : List Int) (V G H : Int) (ys ds : List Int) (d : Int) : Bool := !wkB (bits BinOp.and IntKind.i64 W V) d && (onB W F T zs es d && onB V G H ys ds d)
/-- What Both answers. -/
def bothR (W F T : Int) (zs es : List Int) (V G H : Int) (ys ds : List Int) : PatV :=
  if patOk W F T zs es = true ∧ patOk V G H ys ds = true ∧ bothF F G ≤ bothT T H then
    keep20 (bits BinOp.and IntKind.i64 W V) (bothF F G) (bothT T H) (pick (skB W F T zs es V G H ys ds) (bothF F G) (bothT T H + 1 - bothF F G).toNat) (pick (exB W F T zs es V G H ys ds) (bothF F G) (bothT T H + 1 - bothF F G).toNat)
  else ⟨0, 0, 0, [], []⟩
section
variable {W F T V G H : Int} {zs es ys ds : List Int}
theorem both_no1 (h : patOk W F T zs es = false) : bothR W F T zs es V G H ys ds = ⟨0, 0, 0, [], []⟩ := by unfold bothR; rw [if_neg]; rw [h]; simp
theorem both_no2 (h : patOk V G H ys ds = false) : bothR W F T zs es V G H ys ds = ⟨0, 0, 0, [], []⟩ := by unfold bothR; rw [if_neg]; rw [h]; simp
theorem both_no3 (h : bothT T H < bothF F G) : bothR W F T zs es V G H ys ds = ⟨0, 0, 0, [], []⟩ := by unfold bothR; rw [if_neg]; rintro ⟨_, _, h'⟩; omega
theorem both_yes (h1 : patOk W F T zs es = true) (h2 : patOk V G H ys ds = true) (h3 : bothF F G ≤ bothT T H) : bothR W F T zs es V G H ys ds =
    keep20 (bits BinOp.and IntKind.i64 W V) (bothF F G) (bothT T H) (pick (skB W F T zs es V G H ys ds) (bothF F G) (bothT T H + 1 - bothF F G).toNat) (pick (exB W F T zs es V G H ys ds) (bothF F G) (bothT T H + 1 - bothF F G).toNat) := by unfold bothR; rw [if_pos ⟨h1, h2, h3⟩]
theorem bothR_len : (bothR W F T zs es V G H ys ds).xs.length ≤ 1048576 ∧ (bothR W F T zs es V G H ys ds).ys.length ≤ 1048576 := by
  unfold bothR
  split
  · unfold keep20
    split
    · simp only; omega
    · simp
  · simp
end

set_option maxHeartbeats 3200000 in
theorem c13no1 (a1 a2 a3 a4 : Option Addr) (p1 p2 p3 p4 : Nat) (zs es ys ds : List Int) (W F T V G H : Int) (w : World) (hz : Ints w a1 zs) (he : Ints w a2 es) (_hy : Ints w a3 ys) (_hd : Ints w a4 ds)
    (hl1 : zs.length ≤ 1048576) (hl2 : es.length ≤ 1048576) (_hl3 : ys.length ≤ 1048576) (_hl4 : ds.length ≤ 1048576) (hp : patOk W F T zs es = false) :
    Calls Try.prog 13 #[.agg #[.int .i64 W, .int .i64 F, .int .i64 T, .slice a1 zs.length p1, .slice a2 es.length p2], .agg #[.int .i64 V, .int .i64 G, .int .i64 H, .slice a3 ys.length p3, .slice a4 ds.length p4]] w (AnsPat w ⟨0, 0, 0, [], []⟩) := by
  go_enter Try.func13, Try.ntmps13
  go_wp2_with fail
  have BA := btrans (btrans (balloc w (.cells #[.int .i64 W, .int .i64 F, .int .i64 T, .slice a1 zs.length p1, .slice a2 es.length p2] 26)) (balloc _ (.cells #[.int .i64 V, .int .i64 G, .int .i64 H, .slice a3 ys.length p3, .slice a4 ds.length p4] 26))) (balloc _ (.cells #[.int .i64 0, .int .i64 0, .int .i64 0, .slice none 0 0, .slice none 0 0] 26))
  obtain ⟨k1, k2, k3⟩ := three_blocks w (.cells #[.int .i64 W, .int .i64 F, .int .i64 T, .slice a1 zs.length p1, .slice a2 es.length p2] 26) (.cells #[.int .i64 V, .int .i64 G, .int .i64 H, .slice a3 ys.length p3, .slice a4 ds.length p4] 26) (.cells #[.int .i64 0, .int .i64 0, .int .i64 0, .slice none 0 0, .slice none 0 0] 26)
  have sz := size3 w (.cells #[.int .i64 W, .int .i64 F, .int .i64 T, .slice a1 zs.length p1, .slice a2 es.length p2] 26) (.cells #[.int .i64 V, .int .i64 G, .int .i64 H, .slice a3 ys.length p3, .slice a4 ds.length p4] 26) (.cells #[.int .i64 0, .int .i64 0, .int .i64 0, .slice none 0 0, .slice none 0 0] 26)
  refine (c21 a1 a2 p1 p2 zs es W F T _ (hz.below BA) (he.below BA) hl1 hl2).mono ?_
  rintro e w1 ⟨rfl, hb⟩
  have HB1 := btrans BA hb
  have z1 := hb.size
  rw [sz] at z1
  rw [← hb.block _ (by rw [sz]; omega)] at k1 k2 k3
  clear hb BA sz
  obtain ⟨⟨r0, r1, r2, r3, r4⟩, g0, g1, g2, g3, g4⟩ := blk5 k3
  clear k1 k2 k3
  go_wp2
  refine bodyPost_ret (v := .agg #[.int .i64 0, .int .i64 0, .int .i64 0, .slice none 0 0, .slice none 0 0]) (by simp [results, Try.results13, go_sem, r0, r1, r2, r3, r4]) rfl (ans_zero _ _ (below_set5 (by omega) HB1))

set_option maxHeartbeats 3200000 in
theorem c13no2 (a1 a2 a3 a4 : Option Addr) (p1 p2 p3 p4 : Nat) (zs es ys ds : List Int) (W F T V G H : Int) (w : World) (hz : Ints w a1 zs) (he : Ints w a2 es) (hy : Ints w a3 ys) (hd : Ints w a4 ds)
    (hl1 : zs.length ≤ 1048576) (hl2 : es.length ≤ 1048576) (hl3 : ys.length ≤ 1048576) (hl4 : ds.length ≤ 1048576) (hp : patOk W F T zs es = true) (hq : patOk V G H ys ds = false) :
    Calls Try.prog 13 #[.agg #[.int .i64 W, .int .i64 F, .int .i64 T, .slice a1 zs.length p1, .slice a2 es.length p2], .agg #[.int .i64 V, .int .i64 G, .int .i64 H, .slice a3 ys.length p3, .slice a4 ds.length p4]] w (AnsPat w ⟨0, 0, 0, [], []⟩) := by
  go_enter Try.func13, Try.ntmps13
  go_wp2_with fail
  have BA := btrans (btrans (balloc w (.cells #[.int .i64 W, .int .i64 F, .int .i64 T, .slice a1 zs.length p1, .slice a2 es.length p2] 26)) (balloc _ (.cells #[.int .i64 V, .int .i64 G, .int .i64 H, .slice a3 ys.length p3, .slice a4 ds.length p4] 26))) (balloc _ (.cells #[.int .i64 0, .int .i64 0, .int .i64 0, .slice none 0 0, .slice none 0 0] 26))
  obtain ⟨k1, k2, k3⟩ := three_blocks w (.cells #[.int .i64 W, .int .i64 F, .int .i64 T, .slice a1 zs.length p1, .slice a2 es.length p2] 26) (.cells #[.int .i64 V, .int .i64 G, .int .i64 H, .slice a3 ys.length p3, .slice a4 ds.length p4] 26) (.cells #[.int .i64 0, .int .i64 0, .int .i64 0, .slice none 0 0, .slice none 0 0] 26)
  have sz := size3 w (.cells #[.int .i64 W, .int .i64 F, .int .i64 T, .slice a1 zs.length p1, .slice a2 es.length p2] 26) (.cells #[.int .i64 V, .int .i64 G, .int .i64 H, .slice a3 ys.length p3, .slice a4 ds.length p4] 26) (.cells #[.int .i64 0, .int .i64 0, .int .i64 0, .slice none 0 0, .slice none 0 0] 26)
  refine (c21 a1 a2 p1 p2 zs es W F T _ (hz.below BA) (he.below BA) hl1 hl2).mono ?_
  rintro e w1 ⟨rfl, hb⟩
  have HB1 := btrans BA hb
  have z1 := hb.size
  rw [sz] at z1
  rw [← hb.block _ (by rw [sz]; omega)] at k1 k2 k3
  clear hb BA sz
  obtain ⟨⟨e0, e1, e2, e3, e4⟩, _⟩ := blk5 k2
  go_wp2_with fail
  refine (c21 a3 a4 p3 p4 ys ds V G H _ (hy.below HB1) (hd.below HB1) hl3 hl4).mono ?_
  rintro e W0 ⟨rfl, hb⟩
  have HB := btrans HB1 hb
  have z0 := hb.size
  rw [← hb.block _ (by omega)] at k1 k2 k3
  clear hb HB1 e0 e1 e2 e3 e4
  obtain ⟨⟨r0, r1, r2, r3, r4⟩, g0, g1, g2, g3, g4⟩ := blk5 k3
  clear k1 k2 k3
  go_wp2
  refine bodyPost_ret (v := .agg #[.int .i64 0, .int .i64 0, .int .i64 0, .slice none 0 0, .slice none 0 0]) (by simp [results, Try.results13, go_sem, r0, r1, r2, r3, r4]) rfl (ans_zero _ _ (below_set5 (by omega) HB))

set_option maxRecDepth 20000 in
set_option maxHeartbeats 6400000 in
theorem c13no3 (a1 a2 a3 a4 : Option Addr) (p1 p2 p3 p4 : Nat) (zs es ys ds : List Int) (W F T V G H : Int) (w : World) (hz : Ints w a1 zs) (he : Ints w a2 es) (hy : Ints w a3 ys) (hd : Ints w a4 ds)
    (hl1 : zs.length ≤ 1048576) (hl2 : es.length ≤ 1048576) (hl3 : ys.length ≤ 1048576) (hl4 : ds.length ≤ 1048576) (hp : patOk W F T zs es = true) (hq : patOk V G H ys ds = true) (wk f t : Int) (hwk : bits BinOp.and IntKind.i64 W V = wk) (hf : (if F < G then G else F) = f) (ht : (if H < T then H else T) = t) (hft : t < f) :
    Calls Try.prog 13 #[.agg #[.int .i64 W, .int .i64 F, .int .i64 T, .slice a1 zs.length p1, .slice a2 es.length p2], .agg #[.int .i64 V, .int .i64 G, .int .i64 H, .slice a3 ys.length p3, .slice a4 ds.length p4]] w (AnsPat w ⟨0, 0, 0, [], []⟩) := by
  go_enter Try.func13, Try.ntmps13
  go_wp2_with fail
  have BA := btrans (btrans (balloc w (.cells #[.int .i64 W, .int .i64 F, .int .i64 T, .slice a1 zs.length p1, .slice a2 es.length p2] 26)) (balloc _ (.cells #[.int .i64 V, .int .i64 G, .int .i64 H, .slice a3 ys.length p3, .slice a4 ds.length p4] 26))) (balloc _ (.cells #[.int .i64 0, .int .i64 0, .int .i64 0, .slice none 0 0, .slice none 0 0] 26))
  obtain ⟨k1, k2, k3⟩ := three_blocks w (.cells #[.int .i64 W, .int .i64 F, .int .i64 T, .slice a1 zs.length p1, .slice a2 es.length p2] 26) (.cells #[.int .i64 V, .int .i64 G, .int .i64 H, .slice a3 ys.length p3, .slice a4 ds.length p4] 26) (.cells #[.int .i64 0, .int .i64 0, .int .i64 0, .slice none 0 0, .slice none 0 0] 26)
  have sz := size3 w (.cells #[.int .i64 W, .int .i64 F, .int .i64 T, .slice a1 zs.length p1, .slice a2 es.length p2] 26) (.cells #[.int .i64 V, .int .i64 G, .int .i64 H, .slice a3 ys.length p3, .slice a4 ds.length p4] 26) (.cells #[.int .i64 0, .int .i64 0, .int .i64 0, .slice none 0 0, .slice none 0 0] 26)
  refine (c21 a1 a2 p1 p2 zs es W F T _ (hz.below BA) (he.below BA) hl1 hl2).mono ?_
  rintro e w1 ⟨rfl, hb⟩
  have HB1 := btrans BA hb
  have z1 := hb.size
  rw [sz] at z1
  rw [← hb.block _ (by rw [sz]; omega)] at k1 k2 k3
  clear hb BA sz
  obtain ⟨⟨e0, e1, e2, e3, e4⟩, _⟩ := blk5 k2
  go_wp2_with fail
  refine (c21 a3 a4 p3 p4 ys ds V G H _ (hy.below HB1) (hd.below HB1) hl3 hl4).mono ?_
  rintro e W0 ⟨rfl, hb⟩
  have HB := btrans HB1 hb
  have z0 := hb.size
  rw [← hb.block _ (by omega)] at k1 k2 k3
  clear hb HB1 e0 e1 e2 e3 e4
  have XP : Bx W0 w.heap.size (.int .i64 W) (.int .i64 F) (.int .i64 T) (.slice a1 zs.length p1) (.slice a2 es.length p2) := (blk5 k1).1
  have XQ : Bx W0 (w.heap.size + 1) (.int .i64 V) (.int .i64 G) (.int .i64 H) (.slice a3 ys.length p3) (.slice a4 ds.length p4) := (blk5 k2).1
  obtain ⟨b0, b1, b2, b3, b4⟩ := id XP
  obtain ⟨e0, e1, e2, e3, e4⟩ := id XQ
  go_upto_if 38 with fail
  have L := Out.new W0 wk f t
  obtain ⟨W1, hW1⟩ : ∃ W1, W0.alloc (.cells #[.int .i64 wk, .int .i64 f, .int .i64 t, .slice none 0 0, .slice none 0 0] 26) = W1 := ⟨_, rfl⟩
  rw [hW1] at L ⊢
  clear hW1 hwk hf ht b0 b1 b2 b3 b4 e0 e1 e2 e3 e4
  obtain ⟨⟨u0, u1, u2, u3, u4⟩, f0, f1, f2, f3, f4⟩ := L.cells
  obtain ⟨⟨r0, r1, r2, r3, r4⟩, g0, g1, g2, g3, g4⟩ := blk5 ((L.bel.block _ (by omega)).trans k3)
  clear k1 k2 k3 XP XQ
  go_wp2
  refine bodyPost_ret (v := .agg #[.int .i64 0, .int .i64 0, .int .i64 0, .slice none 0 0, .slice none 0 0]) (by simp [results, Try.results13, go_sem, r0, r1, r2, r3, r4]) rfl (ans_zero _ _ (below_set5 (by omega) (btrans HB L.bel)))

theorem c13 (a1 a2 a3 a4 : Option Addr) (p1 p2 p3 p4 : Nat) (zs es ys ds : List Int) (W F T V G H : Int) (w : World) (hz : Ints w a1 zs) (he : Ints w a2 es) (hy : Ints w a3 ys) (hd : Ints w a4 ds)
    (hl1 : zs.length ≤ 1048576) (hl2 : es.length ≤ 1048576) (hl3 : ys.length ≤ 1048576) (hl4 : ds.length ≤ 1048576) :
    Calls Try.prog 13 #[.agg #[.int .i64 W, .int .i64 F, .int .i64 T, .slice a1 zs.length p1, .slice a2 es.length p2], .agg #[.int .i64 V, .int .i64 G, .int .i64 H, .slice a3 ys.length p3, .slice a4 ds.length p4]] w (AnsPat w (bothR W F T zs es V G H ys ds)) := by
  cases hp : patOk W F T zs es
  · rw [both_no1 hp]; exact c13no1 a1 a2 a3 a4 p1 p2 p3 p4 zs es ys ds W F T V G H w hz he hy hd hl1 hl2 hl3 hl4 hp
  · cases hq : patOk V G H ys ds
    · rw [both_no2 hq]; exact c13no2 a1 a2 a3 a4 p1 p2 p3 p4 zs es ys ds W F T V G H w hz he hy hd hl1 hl2 hl3 hl4 hp hq
    · by_cases h : bothT T H < bothF F G
      · rw [both_no3 h]; exact c13no3 a1 a2 a3 a4 p1 p2 p3 p4 zs es ys ds W F T V G H w hz he hy hd hl1 hl2 hl3 hl4 hp hq _ _ _ rfl rfl rfl h
      · obtain ⟨_, ⟨q2, q3, q4⟩, _, _⟩ := patOk_bd hp
        obtain ⟨_, ⟨r2, r3, r4⟩, _, _⟩ := patOk_bd hq
        have b1 : 0 ≤ bothF F G := by unfold bothF; split <;> omega
        have b2 : bothT T H ≤ 3650 := by unfold bothT; split <;> omega
        rw [both_yes hp hq (by omega)]
        exact c13yes a1 a2 a3 a4 p1 p2 p3 p4 zs es ys ds W F T V G H w hz he hy hd hl1 hl2 hl3 hl4 hp hq _ _ _ rfl rfl rfl (by show bothF F G ≤ bothT T H; omega) b1 b2 _ _ (fun _ => rfl) (fun _ => rfl)

set_option maxHeartbeats 3200000 in
theorem c15no1 (a1 a2 a3 a4 : Option Addr) (p1 p2 p3 p4 : Nat) (zs es ys ds : List Int) (W F T V G H : Int) (w : World) (hz : Ints w a1 zs) (he : Ints w a2 es) (_hy : Ints w a3 ys) (_hd : Ints w a4 ds)
    (hl1 : zs.length ≤ 1048576) (hl2 : es.length ≤ 1048576) (_hl3 : ys.length ≤ 1048576) (_hl4 : ds.length ≤ 1048576) (hp : patOk W F T zs es = false) :
    Calls Try.prog 15 #[.agg #[.int .i64 W, .int .i64 F, .int .i64 T, .slice a1 zs.length p1, .slice a2 es.length p2], .agg #[.int .i64 V, .int .i64 G, .int .i64 H, .slice a3 ys.length p3, .slice a4 ds.length p4]] w (AnsPat w ⟨0, 0, 0, [], []⟩) := by
  go_enter Try.func15, Try.ntmps15
  go_wp2_with fail
  have BA := btrans (btrans (balloc w (.cells #[.int .i64 W, .int .i64 F, .int .i64 T, .slice a1 zs.length p1, .slice a2 es.length p2] 26)) (balloc _ (.cells #[.int .i64 V, .int .i64 G, .int .i64 H, .slice a3 ys.length p3, .slice a4 ds.length p4] 26))) (balloc _ (.cells #[.int .i64 0, .int .i64 0, .int .i64 0, .slice none 0 0, .slice none 0 0] 26))
  obtain ⟨k1, k2, k3⟩ := three_blocks w (.cells #[.int .i64 W, .int .i64 F, .int .i64 T, .slice a1 zs.length p1, .slice a2 es.length p2] 26) (.cells #[.int .i64 V, .int .i64 G, .int .i64 H, .slice a3 ys.length p3, .slice a4 ds.length p4] 26) (.cells #[.int .i64 0, .int .i64 0, .int .i64 0, .slice none 0 0, .slice none 0 0] 26)
  have sz := size3 w (.cells #[.int .i64 W, .int .i64 F, .int .i64 T, .slice a1 zs.length p1, .slice a2 es.length p2] 26) (.cells #[.int .i64 V, .int .i64 G, .int .i64 H, .slice a3 ys.length p3, .slice a4 ds.length p4] 26) (.cells #[.int .i64 0, .int .i64 0, .int .i64 0, .slice none 0 0, .slice none 0 0] 26)
  refine (c25 a1 a2 p1 p2 zs es W F T _ (hz.below BA) (he.below BA) hl1 hl2).mono ?_
  rintro e w1 ⟨rfl, hb⟩
  have HB1 := btrans BA hb
  have z1 := hb.size
  rw [sz] at z1
  rw [← hb.block _ (by rw [sz]; omega)] at k1 k2 k3
  clear hb BA sz
  obtain ⟨⟨r0, r1, r2, r3, r4⟩, g0, g1, g2, g3, g4⟩ := blk5 k3
  clear k1 k2 k3
  go_wp2
  refine bodyPost_ret (v := .agg #[.int .i64 0, .int .i64 0, .int .i64 0, .slice none 0 0, .slice none 0 0]) (by simp [results, Try.results15, go_sem, r0, r1, r2, r3, r4]) rfl (ans_zero _ _ (below_set5 (by omega) HB1))

set_option maxHeartbeats 3200000 in
theorem c15no2 (a1 a2 a3 a4 : Option Addr) (p1 p2 p3 p4 : Nat) (zs es ys ds : List Int) (W F T V G H : Int) (w : World) (hz : Ints w a1 zs) (he : Ints w a2 es) (hy : Ints w a3 ys) (hd : Ints w a4 ds)
    (hl1 : zs.length ≤ 1048576) (hl2 : es.length ≤ 1048576) (hl3 : ys.length ≤ 1048576) (hl4 : ds.length ≤ 1048576) (hp : patOk W F T zs es = true) (hq : patOk V G H ys ds = false) :
    Calls Try.prog 15 #[.agg #[.int .i64 W, .int .i64 F, .int .i64 T, .slice a1 zs.length p1, .slice a2 es.length p2], .agg #[.int .i64 V, .int .i64 G, .int .i64 H, .slice a3 ys.length p3, .slice a4 ds.length p4]] w (AnsPat w ⟨0, 0, 0, [], []⟩) := by
  go_enter Try.func15, Try.ntmps15
  go_wp2_with fail
  have BA := btrans (btrans (balloc w (.cells #[.int .i64 W, .int .i64 F, .int .i64 T, .slice a1 zs.length p1, .slice a2 es.length p2] 26)) (balloc _ (.cells #[.int .i64 V, .int .i64 G, .int .i64 H, .slice a3 ys.length p3, .slice a4 ds.length p4] 26))) (balloc _ (.cells #[.int .i64 0, .int .i64 0, .int .i64 0, .slice none 0 0, .slice none 0 0] 26))
  obtain ⟨k1, k2, k3⟩ := three_blocks w (.cells #[.int .i64 W, .int .i64 F, .int .i64 T, .slice a1 zs.length p1, .slice a2 es.length p2] 26) (.cells #[.int .i64 V, .int .i64 G, .int .i64 H, .slice a3 ys.length p3, .slice a4 ds.length p4] 26) (.cells #[.int .i64 0, .int .i64 0, .int .i64 0, .slice none 0 0, .slice none 0 0] 26)
  have sz := size3 w (.cells #[.int .i64 W, .int .i64 F, .int .i64 T, .slice a1 zs.length p1, .slice a2 es.length p2] 26) (.cells #[.int .i64 V, .int .i64 G, .int .i64 H, .slice a3 ys.length p3, .slice a4 ds.length p4] 26) (.cells #[.int .i64 0, .int .i64 0, .int .i64 0, .slice none 0 0, .slice none 0 0] 26)
  refine (c25 a1 a2 p1 p2 zs es W F T _ (hz.below BA) (he.below BA) hl1 hl2).mono ?_
  rintro e w1 ⟨rfl, hb⟩
  have HB1 := btrans BA hb
  have z1 := hb.size
  rw [sz] at z1
  rw [← hb.block _ (by rw [sz]; omega)] at k1 k2 k3
  clear hb BA sz
  obtain ⟨⟨e0, e1, e2, e3, e4⟩, _⟩ := blk5 k2
  go_wp2_with fail
  refine (c25 a3 a4 p3 p4 ys ds V G H _ (hy.below HB1) (hd.below HB1) hl3 hl4).mono ?_
  rintro e W0 ⟨rfl, hb⟩
  have HB := btrans HB1 hb
  have z0 := hb.size
  rw [← hb.block _ (by omega)] at k1 k2 k3
  clear hb HB1 e0 e1 e2 e3 e4
  obtain ⟨⟨r0, r1, r2, r3, r4⟩, g0, g1, g2, g3, g4⟩ := blk5 k3
  clear k1 k2 k3
  go_wp2
  refine bodyPost_ret (v := .agg #[.int .i64 0, .int .i64 0, .int .i64 0, .slice none 0 0, .slice none 0 0]) (by simp [results, Try.results15, go_sem, r0, r1, r2, r3, r4]) rfl (ans_zero _ _ (below_set5 (by omega) HB))

set_option maxRecDepth 20000 in
set_option maxHeartbeats 6400000 in
theorem c15no3 (a1 a2 a3 a4 : Option Addr) (p1 p2 p3 p4 : Nat) (zs es ys ds : List Int) (W F T V G H : Int) (w : World) (hz : Ints w a1 zs) (he : Ints w a2 es) (hy : Ints w a3 ys) (hd : Ints w a4 ds)
    (hl1 : zs.length ≤ 1048576) (hl2 : es.length ≤ 1048576) (hl3 : ys.length ≤ 1048576) (hl4 : ds.length ≤ 1048576) (hp : patOk W F T zs es = true) (hq : patOk V G H ys ds = true) (wk f t : Int) (hwk : bits BinOp.and IntKind.i64 W V = wk) (hf : (if F < G then G else F) = f) (ht : (if H < T then H else T) = t) (hft : t < f) :
    Calls Try.prog 15 #[.agg #[.int .i64 W, .int .i64 F, .int .i64 T, .slice a1 zs.length p1, .slice a2 es.length p2], .agg #[.int .i64 V, .int .i64 G, .int .i64 H, .slice a3 ys.length p3, .slice a4 ds.length p4]] w (AnsPat w ⟨0, 0, 0, [], []⟩) := by
  go_enter Try.func15, Try.ntmps15
  go_wp2_with fail
  have BA := btrans (btrans (balloc w (.cells #[.int .i64 W, .int .i64 F, .int .i64 T, .slice a1 zs.length p1, .slice a2 es.length p2] 26)) (balloc _ (.cells #[.int .i64 V, .int .i64 G, .int .i64 H, .slice a3 ys.length p3, .slice a4 ds.length p4] 26))) (balloc _ (.cells #[.int .i64 0, .int .i64 0, .int .i64 0, .slice none 0 0, .slice none 0 0] 26))
  obtain ⟨k1, k2, k3⟩ := three_blocks w (.cells #[.int .i64 W, .int .i64 F, .int .i64 T, .slice a1 zs.length p1, .slice a2 es.length p2] 26) (.cells #[.int .i64 V, .int .i64 G, .int .i64 H, .slice a3 ys.length p3, .slice a4 ds.length p4] 26) (.cells #[.int .i64 0, .int .i64 0, .int .i64 0, .slice none 0 0, .slice none 0 0] 26)
  have sz := size3 w (.cells #[.int .i64 W, .int .i64 F, .int .i64 T, .slice a1 zs.length p1, .slice a2 es.length p2] 26) (.cells #[.int .i64 V, .int .i64 G, .int .i64 H, .slice a3 ys.length p3, .slice a4 ds.length p4] 26) (.cells #[.int .i64 0, .int .i64 0, .int .i64 0, .slice none 0 0, .slice none 0 0] 26)
  refine (c25 a1 a2 p1 p2 zs es W F T _ (hz.below BA) (he.below BA) hl1 hl2).mono ?_
  rintro e w1 ⟨rfl, hb⟩
  have HB1 := btrans BA hb
  have z1 := hb.size
  rw [sz] at z1
  rw [← hb.block _ (by rw [sz]; omega)] at k1 k2 k3
  clear hb BA sz
  obtain ⟨⟨e0, e1, e2, e3, e4⟩, _⟩ := blk5 k2
  go_wp2_with fail
  refine (c25 a3 a4 p3 p4 ys ds V G H _ (hy.below HB1) (hd.below HB1) hl3 hl4).mono ?_
  rintro e W0 ⟨rfl, hb⟩
  have HB := btrans HB1 hb
  have z0 := hb.size
  rw [← hb.block _ (by omega)] at k1 k2 k3
  clear hb HB1 e0 e1 e2 e3 e4
  have XP : Bx W0 w.heap.size (.int .i64 W) (.int .i64 F) (.int .i64 T) (.slice a1 zs.length p1) (.slice a2 es.length p2) := (blk5 k1).1
  have XQ : Bx W0 (w.heap.size + 1) (.int .i64 V) (.int .i64 G) (.int .i64 H) (.slice a3 ys.length p3) (.slice a4 ds.length p4) := (blk5 k2).1
  obtain ⟨b0, b1, b2, b3, b4⟩ := id XP
  obtain ⟨e0, e1, e2, e3, e4⟩ := id XQ
  have n0 : w.heap.size < W0.heap.size := by omega
  have n1 : w.heap.size + 1 < W0.heap.size := by omega
  go_upto_if 31 with fail
  have LA := Out.new W0 wk F T
  go_cut [] from 27 (fun wc => Out W0 wc wk f T none 0 [] none 0 [])
  case first =>
    have LH := hide LA
    clear LA XP XQ hwk ht k1 k2 k3
    by_cases hfg : F < G
    · rw [if_pos hfg] at hf
      subst hf
      go_wp2
      go_meet
      case rel => exact Out.new W0 wk G T
    · rw [if_neg hfg] at hf
      subst hf
      go_wp2
      go_meet
      case rel => exact LH.out
  case rest =>
  clear LA b0 b1 b2 b3 b4 e0 e1 e2 e3 e4
  obtain ⟨e0, e1, e2, e3, e4⟩ := XQ.below hcut.bel
  obtain ⟨⟨u0, u1, u2, u3, u4⟩, f0, f1, f2, f3, f4⟩ := hcut.cells
  go_upto_if 39 with fail
  have LB := hcut
  clear hcut
  go_cut [] from 35 (fun wd => Out W0 wd wk f t none 0 [] none 0 [])
  case first =>
    have LH := hide LB
    clear LB XP XQ hwk hf k1 k2 k3
    by_cases hht : H < T
    · rw [if_pos hht] at ht
      subst ht
      go_wp2
      go_meet
      case rel => exact LH.out.setT _
    · rw [if_neg hht] at ht
      subst ht
      go_wp2
      go_meet
      case rel => exact LH.out
  case rest =>
  clear LB u0 u1 u2 u3 u4 f0 f1 f2 f3 f4 e0 e1 e2 e3 e4
  have L := hcut
  clear hcut hwk hf ht
  obtain ⟨⟨u0, u1, u2, u3, u4⟩, f0, f1, f2, f3, f4⟩ := L.cells
  obtain ⟨⟨r0, r1, r2, r3, r4⟩, g0, g1, g2, g3, g4⟩ := blk5 ((L.bel.block _ (by omega)).trans k3)
  clear k1 k2 k3 XP XQ
  go_wp2
  refine bodyPost_ret (v := .agg #[.int .i64 0, .int .i64 0, .int .i64 0, .slice none 0 0, .slice none 0 0]) (by simp [results, Try.results15, go_sem, r0, r1, r2, r3, r4]) rfl (ans_zero _ _ (below_set5 (by omega) (btrans HB L.bel)))

theorem c15 (a1 a2 a3 a4 : Option Addr) (p1 p2 p3 p4 : Nat) (zs es ys ds : List Int) (W F T V G H : Int) (w : World) (hz : Ints w a1 zs) (he : Ints w a2 es) (hy : Ints w a3 ys) (hd : Ints w a4 ds)
    (hl1 : zs.length ≤ 1048576) (hl2 : es.length ≤ 1048576) (hl3 : ys.length ≤ 1048576) (hl4 : ds.length ≤ 1048576) :
    Calls Try.prog 15 #[.agg #[.int .i64 W, .int .i64 F, .int .i64 T, .slice a1 zs.length p1, .slice a2 es.length p2], .agg #[.int .i64 V, .int .i64 G, .int .i64 H, .slice a3 ys.length p3, .slice a4 ds.length p4]] w (AnsPat w (bothR W F T zs es V G H ys ds)) := by
  cases hp : patOk W F T zs es
  · rw [both_no1 hp]; exact c15no1 a1 a2 a3 a4 p1 p2 p3 p4 zs es ys ds W F T V G H w hz he hy hd hl1 hl2 hl3 hl4 hp
  · cases hq : patOk V G H ys ds
    · rw [both_no2 hq]; exact c15no2 a1 a2 a3 a4 p1 p2 p3 p4 zs es ys ds W F T V G H w hz he hy hd hl1 hl2 hl3 hl4 hp hq
    · by_cases h : bothT T H < bothF F G
      · rw [both_no3 h]; exact c15no3 a1 a2 a3 a4 p1 p2 p3 p4 zs es ys ds W F T V G H w hz he hy hd hl1 hl2 hl3 hl4 hp hq _ _ _ rfl rfl rfl h
      · obtain ⟨_, ⟨q2, q3, q4⟩, _, _⟩ := patOk_bd hp
        obtain ⟨_, ⟨r2, r3, r4⟩, _, _⟩ := patOk_bd hq
        have b1 : 0 ≤ bothF F G := by unfold bothF; split <;> omega
        have b2 : bothT T H ≤ 3650 := by unfold bothT; split <;> omega
        rw [both_yes hp hq (by omega)]
        exact c15yes a1 a2 a3 a4 p1 p2 p3 p4 zs es ys ds W F T V G H w hz he hy hd hl1 hl2 hl3 hl4 hp hq _ _ _ rfl rfl rfl (by show bothF F G ≤ bothT T H; omega) b1 b2 _ _ (fun _ => rfl) (fun _ => rfl)

end Go.Proofs.Ytmchdclieejohaa
