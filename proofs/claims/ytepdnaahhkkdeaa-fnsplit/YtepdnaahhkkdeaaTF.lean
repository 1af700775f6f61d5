/- Tariffs measured, copied, compared, marked. -/
import Derived.Test.YtepdnaahhkkdeaaB
import Derived.Test.YtepdnaahhkkdeaaS
import Derived.Deep.RegionWith
namespace Go.Proofs.Ytepdnaahhkkdeaa
open Go.RowKit
/-- A boxed tariff or card: the four cells of block b. -/
def Bx4 (w : World) (b : Nat) (c0 c1 c2 c3 : Value) : Prop := w.cell? ⟨b, 0, none⟩ = some c0 ∧ w.cell? ⟨b, 1, none⟩ = some c1 ∧ w.cell? ⟨b, 2, none⟩ = some c2 ∧ w.cell? ⟨b, 3, none⟩ = some c3
theorem Bx4.below {w w1 : World} {b : Nat} {c0 c1 c2 c3 : Value} (h : Bx4 w b c0 c1 c2 c3) (hb : Below w.heap.size w w1) : Bx4 w1 b c0 c1 c2 c3 := ⟨ble hb h.1, ble hb h.2.1, ble hb h.2.2.1, ble hb h.2.2.2⟩
theorem Bx4.new (w : World) (c0 c1 c2 c3 : Value) (t : TypeId) : Bx4 (w.alloc (.cells #[c0, c1, c2, c3] t)) w.heap.size c0 c1 c2 c3 := ⟨by simp, by simp, by simp, by simp⟩
theorem Bx4.new1 (w : World) (o : Obj) (c0 c1 c2 c3 : Value) (t : TypeId) : Bx4 ((w.alloc o).alloc (.cells #[c0, c1, c2, c3] t)) (w.heap.size + 1) c0 c1 c2 c3 := by
  have h := Bx4.new (w.alloc o) c0 c1 c2 c3 t
  rwa [sz1] at h
theorem Bx4.c {w w1 : World} {b : Nat} {c0 c1 c2 c3 : Value} (h : Bx4 w b c0 c1 c2 c3) (hb : Below w.heap.size w w1) : w1.cell? ⟨b, 0, none⟩ = some c0 ∧ w1.cell? ⟨b, 1, none⟩ = some c1 ∧ w1.cell? ⟨b, 2, none⟩ = some c2 ∧ w1.cell? ⟨b, 3, none⟩ = some c3 := h.below hb
theorem Bx4.far {w w1 : World} {b : Nat} {r : Option Nat} {c0 c1 c2 c3 : Value} (h : Bx4 w b c0 c1 c2 c3) (hg : w.grownBy w1 r) (hne : some b ≠ r) : Bx4 w1 b c0 c1 c2 c3 := by
  obtain ⟨h0, h1, h2, h3⟩ := h
  have hb := hg.block b (cell_lt h0) hne
  simp only [World.cell?] at h0 h1 h2 h3
  refine ⟨?_, ?_, ?_, ?_⟩
  · simp only [World.cell?, hb]; exact h0
  · simp only [World.cell?, hb]; exact h1
  · simp only [World.cell?, hb]; exact h2
  · simp only [World.cell?, hb]; exact h3
theorem three_blocks (w : World) (o1 o2 o3 : Obj) : (((w.alloc o1).alloc o2).alloc o3).heap[w.heap.size]? = some o1 ∧ (((w.alloc o1).alloc o2).alloc o3).heap[w.heap.size + 1]? = some o2 ∧ (((w.alloc o1).alloc o2).alloc o3).heap[w.heap.size + 1 + 1]? = some o3 := by
  refine ⟨?_, ?_, ?_⟩
  · show (((w.heap.push o1).push o2).push o3)[w.heap.size]? = _
    simp [Array.getElem?_push]; omega
  · show (((w.heap.push o1).push o2).push o3)[w.heap.size + 1]? = _
    rw [Array.getElem?_push, if_neg (by simp), Array.getElem?_push, if_pos (by simp)]
  · show (((w.heap.push o1).push o2).push o3)[w.heap.size + 1 + 1]? = _
    rw [Array.getElem?_push, if_pos (by simp)]
theorem size3 (w : World) (o1 o2 o3 : Obj) : (((w.alloc o1).alloc o2).alloc o3).heap.size = w.heap.size + 1 + 1 + 1 := by simp
theorem blk4 {w : World} {g : Nat} {c0 c1 c2 c3 : Value} {t : TypeId} (h : w.heap[g]? = some (.cells #[c0, c1, c2, c3] t (0, 0))) :
    Bx4 w g c0 c1 c2 c3 ∧ (w.frozen? ⟨g, 0, none⟩ = false ∧ w.frozen? ⟨g, 1, none⟩ = false ∧ w.frozen? ⟨g, 2, none⟩ = false ∧ w.frozen? ⟨g, 3, none⟩ = false) :=
  ⟨⟨Go.Joins.cell_of_block h 0, Go.Joins.cell_of_block h 1, Go.Joins.cell_of_block h 2, Go.Joins.cell_of_block h 3⟩, ⟨Go.Joins.unfrozen_of_block h 0, Go.Joins.unfrozen_of_block h 1, Go.Joins.unfrozen_of_block h 2, Go.Joins.unfrozen_of_block h 3⟩⟩
theorem blk_keep {w w1 : World} (h : Below w.heap.size w w1) {g : Nat} {o : Obj} (hg : w.heap[g]? = some o) : w1.heap[g]? = some o := (h.block g (lt_of_block hg)).trans hg
theorem blk_set {w : World} {g i : Nat} {cs : Array Value} {t : TypeId} {f : Nat × Nat} {v : Value} (h : w.heap[g]? = some (.cells cs t f)) : (w.setCell ⟨g, i, none⟩ v).heap[g]? = some (.cells (cs.setIfInBounds i v) t f) := by
  have hl := lt_of_block h
  have h' : w.heap[g] = .cells cs t f := by rw [Array.getElem?_eq_getElem hl] at h; exact Option.some.inj h
  simp [World.setCell, hl, Array.getElem_modify, h']
theorem blk_other {w : World} {g b i : Nat} {o : Obj} {v : Value} (h : w.heap[g]? = some o) (hne : g ≠ b) : (w.setCell ⟨b, i, none⟩ v).heap[g]? = some o := (Below.heap_setCell _ _ _ _ hne).trans h
theorem own_setg {w : World} {base e sz g n cap b i : Nat} {xs : List Value} {u : Value} (hne : g ≠ b) (h : w.ownsRow base e sz (.slice (some ⟨g, 0, none⟩) n cap) n xs) : (w.setCell ⟨b, i, none⟩ u).ownsRow base e sz (.slice (some ⟨g, 0, none⟩) n cap) n xs :=
  own_set h (by intro k hk; simp [Value.ownBlock] at hk; omega)

set_option maxHeartbeats 400000 in
theorem cSzInts (a : Option Addr) (n cap : Nat) (left : Int) (w : World) (h0 : 0 ≤ left) (h1 : left ≤ 1048576) (hn : n ≤ maxLen) :
    Calls Try.prog 42 #[.slice a n cap, .int .i64 left] w fun e w' => ∃ r, e = .returned (.int .i64 r) ∧ (r = -1 ∨ (r = left - n ∧ 0 ≤ r)) ∧ w' = w := by
  unfold maxLen at hn
  by_cases hl : left - n < 0
  · go_enter Try.func42, Try.ntmps42
    go_wp2
    go_ret
    exact ⟨_, rfl, .inl rfl, rfl⟩
  · go_enter Try.func42, Try.ntmps42
    go_wp2
    go_ret
    exact ⟨_, rfl, .inr ⟨rfl, by omega⟩, rfl⟩

/-- A tariff as a value. -/
structure TfV where
  b : Int
  s : Int
  js : List Int
  r : Int
/-- A tariff in memory: where its jumps lie. -/
def TfV.at (t : TfV) (a : Option Addr) (c : Nat) : Value := .agg #[.int .i64 t.b, .int .i64 t.s, .slice a t.js.length c, .int .i64 t.r]

set_option maxHeartbeats 800000 in
theorem cSzTf (a : Option Addr) (n c : Nat) (x y z : Value) (left : Int) (w : World) (h0 : 0 ≤ left) (h1 : left ≤ 1048576) (hn : n ≤ maxLen) :
    Calls Try.prog 12 #[.agg #[x, y, .slice a n c, z], .int .i64 left] w fun e w' => ∃ r, e = .returned (.int .i64 r) ∧ (r = -1 ∨ (r = left - n ∧ 0 ≤ r)) ∧ Below w.heap.size w w' := by
  have hW := balloc w (.cells #[x, y, .slice a n c, z] 24)
  go_enter Try.func12, Try.ntmps12
  go_wp2_with fail
  refine (cSzInts a n c left _ h0 h1 hn).mono ?_
  rintro e w1 ⟨r, rfl, hr, rfl⟩
  rcases hr with rfl | ⟨hr, hr0⟩
  · go_wp2
    go_ret
    exact ⟨_, rfl, .inl rfl, hW⟩
  · have HR := hide hr
    clear hr
    go_wp2
    go_ret
    exact ⟨_, rfl, .inr ⟨HR.out, hr0⟩, hW⟩

set_option maxHeartbeats 800000 in
theorem cEqTf (a1 a2 : Option Addr) (p1 p2 : Nat) (x y z : Int) (zs : List Int) (w : World) (h1 : Ints w a1 zs) (h2 : Ints w a2 zs) (hl : zs.length ≤ 1048576) :
    Calls Try.prog 16 #[.agg #[.int .i64 x, .int .i64 y, .slice a1 zs.length p1, .int .i64 z], .agg #[.int .i64 x, .int .i64 y, .slice a2 zs.length p2, .int .i64 z]] w fun e w' => e = .returned (.bool true) ∧ Below w.heap.size w w' := by
  have hW := btrans (balloc w (.cells #[.int .i64 x, .int .i64 y, .slice a1 zs.length p1, .int .i64 z] 27)) (balloc _ (.cells #[.int .i64 x, .int .i64 y, .slice a2 zs.length p2, .int .i64 z] 27))
  have X0 := (Bx4.new w (.int .i64 x) (.int .i64 y) (.slice a1 zs.length p1) (.int .i64 z) 27).below (balloc _ (.cells #[.int .i64 x, .int .i64 y, .slice a2 zs.length p2, .int .i64 z] 27))
  have Y0 := Bx4.new1 w (.cells #[.int .i64 x, .int .i64 y, .slice a1 zs.length p1, .int .i64 z] 27) (.int .i64 x) (.int .i64 y) (.slice a2 zs.length p2) (.int .i64 z) 27
  go_enter Try.func16, Try.ntmps16
  go_wp2_with fail
  refine (cEqInts a1 a2 p1 p2 zs _ (h1.below hW) (h2.below hW) (by unfold maxLen; omega)).mono ?_
  rintro e w0 ⟨rfl, hb0⟩
  have HB := btrans hW hb0
  have X1 := X0.below hb0
  have Y1 := Y0.below hb0
  clear hb0 X0 Y0
  obtain ⟨x0, x1, x2, x3⟩ := id X1
  obtain ⟨y0, y1, y2, y3⟩ := id Y1
  go_wp2
  go_ret
  exact ⟨rfl, HB⟩

/-- A tariff that the call itself made: its jumps are a row of its own. -/
def OwnTf (B : Nat) (w : World) (g : Nat) (zs : List Int) : Prop := w.ownsRow B 3 1 (.slice (some ⟨g, 0, none⟩) zs.length zs.length) zs.length (zs.map (Value.int .i64))
theorem OwnTf.below {B g : Nat} {w w' : World} {zs : List Int} (h : OwnTf B w g zs) (hb : Below w.heap.size w w') : OwnTf B w' g zs := own_keep h hb
theorem OwnTf.ints {B g : Nat} {w : World} {zs : List Int} (h : OwnTf B w g zs) : Ints w (some ⟨g, 0, none⟩) zs := Ints.of_owns h

set_option maxHeartbeats 1600000 in
theorem cToTf (a : Option Addr) (p : Nat) (x y z : Int) (zs : List Int) (w : World) (hz : Ints w a zs) (hl : zs.length ≤ 1048576) :
    Calls Try.prog 14 #[.agg #[.int .i64 x, .int .i64 y, .slice a zs.length p, .int .i64 z]] w fun e w' =>
      ∃ g, e = .returned (.agg #[.int .i64 x, .int .i64 y, .slice (some ⟨g, 0, none⟩) zs.length zs.length, .int .i64 z]) ∧ OwnTf w.heap.size w' g zs ∧ Below w.heap.size w w' := by
  go_enter Try.func14, Try.ntmps14
  go_wp2_with fail
  refine (cToInts a p zs _ (((hz.below (balloc _ _)).below (balloc _ _)).below (balloc _ _)) hl).mono ?_
  rintro e w1 ⟨g, rfl, hown, hg, hb⟩
  obtain ⟨k1, k2, k3⟩ := three_blocks w (Obj.cells #[.int .i64 x, .int .i64 y, .slice a zs.length p, .int .i64 z] 24) (Obj.cells #[.int .i64 0, .int .i64 0, .slice none 0 0, .int .i64 0] 27) (Obj.cells #[.int .i64 x, .int .i64 y, .slice none 0 0, .int .i64 0] 27)
  rw [size3] at hb hg hown
  have hbw : Below w.heap.size w w1 := (((balloc _ _).trans ((balloc _ _).mono (by simp))).trans ((balloc _ _).mono (by simp; omega))).trans (hb.mono (by omega))
  rw [← hb.block _ (by omega)] at k1 k2 k3
  have hs1 := hb.size
  rw [size3] at hs1
  clear hb
  subst hg
  have hs1' := owns_lt hown
  have hown' := Go.Joins.ownsRow_le hown (base' := w.heap.size) (by omega)
  obtain ⟨⟨d0, d1, d2, d3⟩, _, _, _, _⟩ := blk4 k1
  obtain ⟨⟨b0, b1, b2, b3⟩, f0, f1, f2, f3⟩ := blk4 k2
  obtain ⟨⟨c0, c1, c2, c3⟩, e0, e1, e2, e3⟩ := blk4 k3
  clear k1 k2 k3 hown
  go_wp2_with fail
  refine bodyPost_ret (v := .agg #[.int .i64 x, .int .i64 y, .slice (some ⟨w.heap.size + 1 + 1 + 1, 0, none⟩) zs.length zs.length, .int .i64 z]) (by simp [results, Try.results14, go_sem, b0, b1, b2, b3]) rfl ⟨_, rfl, ?_, ?_⟩
  · repeat' apply own_setg (by omega)
    exact hown'
  · repeat' apply below_set (by omega)
    exact hbw

set_option maxHeartbeats 800000 in
theorem cMarkTf (B g : Nat) (x y z : Value) (zs : List Int) (k : Int) (w : World) (ho : OwnTf B w g zs) (hl : zs.length ≤ 1048576) (hk0 : 0 ≤ k) (hk1 : k ≤ 10000000) :
    Calls Try.prog 32 #[.agg #[x, y, .slice (some ⟨g, 0, none⟩) zs.length zs.length, z], .int .i64 k] w fun e w' => e = .returned (.int .i64 (k + zs.length)) ∧ w.grownBy w' (some g) := by
  have hW := balloc w (.cells #[x, y, .slice (some ⟨g, 0, none⟩) zs.length zs.length, z] 27)
  go_enter Try.func32, Try.ntmps32
  go_wp2_with fail
  refine (cMarkIntsg B g _ zs k _ (own_keep ho hW) hl hk0 hk1).mono ?_
  rintro e w1 ⟨rfl, _, hg⟩
  have HG := gtrans (gof (b := g) hW) hg
  go_wp2
  go_ret
  exact ⟨rfl, HG⟩
end Go.Proofs.Ytepdnaahhkkdeaa
