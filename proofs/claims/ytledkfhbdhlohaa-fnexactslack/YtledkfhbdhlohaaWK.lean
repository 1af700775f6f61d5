/- Works measured, copied, compared. -/
import Derived.Test.YtledkfhbdhlohaaB
import Derived.Test.YtledkfhbdhlohaaS
import Derived.Deep.RegionWith
namespace Go.Proofs.Ytledkfhbdhlohaa
open Go.RowKit
/-- A boxed struct of three cells: block b. -/
def Bx3 (w : World) (b : Nat) (c0 c1 c2 : Value) : Prop := w.cell? ⟨b, 0, none⟩ = some c0 ∧ w.cell? ⟨b, 1, none⟩ = some c1 ∧ w.cell? ⟨b, 2, none⟩ = some c2
theorem Bx3.below {w w1 : World} {b : Nat} {c0 c1 c2 : Value} (h : Bx3 w b c0 c1 c2) (hb : Below w.heap.size w w1) : Bx3 w1 b c0 c1 c2 := ⟨ble hb h.1, ble hb h.2.1, ble hb h.2.2⟩
theorem Bx3.new (w : World) (c0 c1 c2 : Value) (t : TypeId) : Bx3 (w.alloc (.cells #[c0, c1, c2] t)) w.heap.size c0 c1 c2 := ⟨by simp, by simp, by simp⟩
theorem Bx3.new1 (w : World) (o : Obj) (c0 c1 c2 : Value) (t : TypeId) : Bx3 ((w.alloc o).alloc (.cells #[c0, c1, c2] t)) (w.heap.size + 1) c0 c1 c2 := by
  have h := Bx3.new (w.alloc o) c0 c1 c2 t
  rwa [sz1] at h
/-- A boxed link: the four cells of block b. -/
def Bx4 (w : World) (b : Nat) (c0 c1 c2 c3 : Value) : Prop := w.cell? ⟨b, 0, none⟩ = some c0 ∧ w.cell? ⟨b, 1, none⟩ = some c1 ∧ w.cell? ⟨b, 2, none⟩ = some c2 ∧ w.cell? ⟨b, 3, none⟩ = some c3
theorem Bx4.below {w w1 : World} {b : Nat} {c0 c1 c2 c3 : Value} (h : Bx4 w b c0 c1 c2 c3) (hb : Below w.heap.size w w1) : Bx4 w1 b c0 c1 c2 c3 := ⟨ble hb h.1, ble hb h.2.1, ble hb h.2.2.1, ble hb h.2.2.2⟩
theorem Bx4.new (w : World) (c0 c1 c2 c3 : Value) (t : TypeId) : Bx4 (w.alloc (.cells #[c0, c1, c2, c3] t)) w.heap.size c0 c1 c2 c3 := ⟨by simp, by simp, by simp, by simp⟩
theorem three_blocks (w : World) (o1 o2 o3 : Obj) : (((w.alloc o1).alloc o2).alloc o3).heap[w.heap.size]? = some o1 ∧ (((w.alloc o1).alloc o2).alloc o3).heap[w.heap.size + 1]? = some o2 ∧ (((w.alloc o1).alloc o2).alloc o3).heap[w.heap.size + 1 + 1]? = some o3 := by
  refine ⟨?_, ?_, ?_⟩
  · show (((w.heap.push o1).push o2).push o3)[w.heap.size]? = _
    simp [Array.getElem?_push]; omega
  · show (((w.heap.push o1).push o2).push o3)[w.heap.size + 1]? = _
    rw [Array.getElem?_push, if_neg (by simp), Array.getElem?_push, if_pos (by simp)]
  · show (((w.heap.push o1).push o2).push o3)[w.heap.size + 1 + 1]? = _
    rw [Array.getElem?_push, if_pos (by simp)]
theorem size3 (w : World) (o1 o2 o3 : Obj) : (((w.alloc o1).alloc o2).alloc o3).heap.size = w.heap.size + 1 + 1 + 1 := by simp
theorem blk3 {w : World} {g : Nat} {c0 c1 c2 : Value} {t : TypeId} (h : w.heap[g]? = some (.cells #[c0, c1, c2] t (0, 0))) :
    Bx3 w g c0 c1 c2 ∧ (w.frozen? ⟨g, 0, none⟩ = false ∧ w.frozen? ⟨g, 1, none⟩ = false ∧ w.frozen? ⟨g, 2, none⟩ = false) :=
  ⟨⟨Go.Joins.cell_of_block h 0, Go.Joins.cell_of_block h 1, Go.Joins.cell_of_block h 2⟩, ⟨Go.Joins.unfrozen_of_block h 0, Go.Joins.unfrozen_of_block h 1, Go.Joins.unfrozen_of_block h 2⟩⟩
theorem blk_keep {w w1 : World} (h : Below w.heap.size w w1) {g : Nat} {o : Obj} (hg : w.heap[g]? = some o) : w1.heap[g]? = some o := (h.block g (lt_of_block hg)).trans hg
theorem blk_set {w : World} {g i : Nat} {cs : Array Value} {t : TypeId} {f : Nat × Nat} {v : Value} (h : w.heap[g]? = some (.cells cs t f)) : (w.setCell ⟨g, i, none⟩ v).heap[g]? = some (.cells (cs.setIfInBounds i v) t f) := by
  have hl := lt_of_block h
  have h' : w.heap[g] = .cells cs t f := by rw [Array.getElem?_eq_getElem hl] at h; exact Option.some.inj h
  simp [World.setCell, hl, Array.getElem_modify, h']
theorem blk_other {w : World} {g b i : Nat} {o : Obj} {v : Value} (h : w.heap[g]? = some o) (hne : g ≠ b) : (w.setCell ⟨b, i, none⟩ v).heap[g]? = some o := (Below.heap_setCell _ _ _ _ hne).trans h
theorem own_setg {w : World} {base e sz g n cap b i : Nat} {xs : List Value} {u : Value} (hne : g ≠ b) (h : w.ownsRow base e sz (.slice (some ⟨g, 0, none⟩) n cap) n xs) : (w.setCell ⟨b, i, none⟩ u).ownsRow base e sz (.slice (some ⟨g, 0, none⟩) n cap) n xs :=
  own_set h (by intro k hk; simp [Value.ownBlock] at hk; omega)

set_option maxHeartbeats 400000 in
theorem cSzInts (a : Option Addr) (n cap : Nat) (left : Int) (w : World) (h0 : 0 ≤ left) (h1 : left ≤ 1048576) (hn : n ≤ maxLen) :
    Calls Try.prog 12 #[.slice a n cap, .int .i64 left] w fun e w' => ∃ r, e = .returned (.int .i64 r) ∧ (r = -1 ∨ (r = left - n ∧ 0 ≤ r)) ∧ w' = w := by
  unfold maxLen at hn
  by_cases hl : left - n < 0
  · go_enter Try.func12, Try.ntmps12
    go_wp2
    go_ret
    exact ⟨_, rfl, .inl rfl, rfl⟩
  · go_enter Try.func12, Try.ntmps12
    go_wp2
    go_ret
    exact ⟨_, rfl, .inr ⟨rfl, by omega⟩, rfl⟩

set_option maxHeartbeats 800000 in
theorem cSzWork (a b : Option Addr) (n m c d : Nat) (x : Value) (left : Int) (w : World) (h0 : 0 ≤ left) (h1 : left ≤ 1048576) (hn : n ≤ maxLen) (hm : m ≤ maxLen) :
    Calls Try.prog 5 #[.agg #[.slice a n c, .slice b m d, x], .int .i64 left] w fun e w' => ∃ r, e = .returned (.int .i64 r) ∧ (r = -1 ∨ (r = left - n - m ∧ 0 ≤ r)) ∧ Below w.heap.size w w' := by
  have hW := balloc w (.cells #[.slice a n c, .slice b m d, x] 25)
  have X := Bx3.new w (.slice a n c) (.slice b m d) x 25
  obtain ⟨x0, x1, x2⟩ := id X
  go_enter Try.func5, Try.ntmps5
  go_wp2_with fail
  refine (cSzInts a n c left _ h0 h1 hn).mono ?_
  rintro e w1 ⟨r, rfl, hr, rfl⟩
  rcases hr with rfl | ⟨hr, hr0⟩
  · go_wp2
    go_ret
    exact ⟨_, rfl, .inl rfl, hW⟩
  · have hr1 : r ≤ 1048576 := by omega
    have HR := hide hr
    clear hr
    go_wp2_with fail
    refine (cSzLinks b m d r _ hr0 hr1 hm).mono ?_
    rintro e w1 ⟨s, rfl, hs, rfl⟩
    rcases hs with rfl | ⟨hs, hs0⟩
    · go_wp2
      go_ret
      exact ⟨_, rfl, .inl rfl, hW⟩
    · have HS := hide hs
      clear hs
      go_wp2
      go_ret
      exact ⟨_, rfl, .inr ⟨by rw [HS.out, HR.out], hs0⟩, hW⟩

set_option maxHeartbeats 800000 in
theorem cEqWork (a1 a2 b1 b2 : Option Addr) (p1 p2 q1 q2 : Nat) (zs : List Int) (ls : List LinkV) (x : Int) (w : World) (h1 : Ints w a1 zs) (h2 : Ints w a2 zs) (g1 : Links w b1 ls) (g2 : Links w b2 ls) (hl : zs.length ≤ 1048576) (hl2 : ls.length ≤ 1048576) :
    Calls Try.prog 9 #[.agg #[.slice a1 zs.length p1, .slice b1 ls.length q1, .int .i64 x], .agg #[.slice a2 zs.length p2, .slice b2 ls.length q2, .int .i64 x]] w fun e w' => e = .returned (.bool true) ∧ Below w.heap.size w w' := by
  have hW := btrans (balloc w (.cells #[.slice a1 zs.length p1, .slice b1 ls.length q1, .int .i64 x] 30)) (balloc _ (.cells #[.slice a2 zs.length p2, .slice b2 ls.length q2, .int .i64 x] 30))
  have X0 := (Bx3.new w (.slice a1 zs.length p1) (.slice b1 ls.length q1) (.int .i64 x) 30).below (balloc _ (.cells #[.slice a2 zs.length p2, .slice b2 ls.length q2, .int .i64 x] 30))
  have Y0 := Bx3.new1 w (.cells #[.slice a1 zs.length p1, .slice b1 ls.length q1, .int .i64 x] 30) (.slice a2 zs.length p2) (.slice b2 ls.length q2) (.int .i64 x) 30
  go_enter Try.func9, Try.ntmps9
  go_wp2_with fail
  refine (cEqInts a1 a2 p1 p2 zs _ (h1.below hW) (h2.below hW) (by unfold maxLen; omega)).mono ?_
  rintro e w0 ⟨rfl, hb0⟩
  have hW := btrans hW hb0
  have X0 := X0.below hb0
  have Y0 := Y0.below hb0
  clear hb0
  obtain ⟨x0, x1, x2⟩ := id X0
  obtain ⟨y0, y1, y2⟩ := id Y0
  go_wp2_with fail
  refine (cEqLinks b1 b2 q1 q2 ls _ (g1.below hW) (g2.below hW) hl2).mono ?_
  rintro e w1 ⟨rfl, hb⟩
  have HB := btrans hW hb
  have X1 := X0.below hb
  have Y1 := Y0.below hb
  clear x0 x1 x2 y0 y1 y2 X0 Y0
  obtain ⟨x0, x1, x2⟩ := id X1
  obtain ⟨y0, y1, y2⟩ := id Y1
  go_wp2
  go_ret
  exact ⟨rfl, HB⟩

/-- A work that the call itself made: its two lists are rows of its own. -/
def OwnWork (B : Nat) (w : World) (g1 g2 : Nat) (zs : List Int) (ls : List LinkV) : Prop :=
  w.ownsRow B 3 1 (.slice (some ⟨g1, 0, none⟩) zs.length zs.length) zs.length (zs.map (Value.int .i64)) ∧
  w.ownsRow B 40 4 (.slice (some ⟨g2, 0, none⟩) ls.length ls.length) ls.length (flatLinks ls) ∧ g1 ≠ g2
theorem OwnWork.below {B g1 g2 : Nat} {w w' : World} {zs : List Int} {ls : List LinkV} (h : OwnWork B w g1 g2 zs ls) (hb : Below w.heap.size w w') : OwnWork B w' g1 g2 zs ls := ⟨own_keep h.1 hb, own_keep h.2.1 hb, h.2.2⟩
theorem OwnWork.ints {B g1 g2 : Nat} {w : World} {zs : List Int} {ls : List LinkV} (h : OwnWork B w g1 g2 zs ls) : Ints w (some ⟨g1, 0, none⟩) zs := Ints.of_owns h.1
theorem OwnWork.links {B g1 g2 : Nat} {w : World} {zs : List Int} {ls : List LinkV} (h : OwnWork B w g1 g2 zs ls) : Links w (some ⟨g2, 0, none⟩) ls := Links.of_owns h.2.1

set_option maxHeartbeats 1600000 in
theorem cToWork (a b : Option Addr) (p q : Nat) (zs : List Int) (ls : List LinkV) (x : Int) (w : World) (hz : Ints w a zs) (he : Links w b ls) (hl : zs.length ≤ 1048576) (hl2 : ls.length ≤ 1048576) :
    Calls Try.prog 7 #[.agg #[.slice a zs.length p, .slice b ls.length q, .int .i64 x]] w fun e w' =>
      ∃ g1 g2, e = .returned (.agg #[.slice (some ⟨g1, 0, none⟩) zs.length zs.length, .slice (some ⟨g2, 0, none⟩) ls.length ls.length, .int .i64 x]) ∧ OwnWork w.heap.size w' g1 g2 zs ls ∧ Below w.heap.size w w' := by
  go_enter Try.func7, Try.ntmps7
  go_wp2_with fail
  refine (cToInts a p zs _ (((hz.below (balloc _ _)).below (balloc _ _)).below (balloc _ _)) hl).mono ?_
  rintro e w1 ⟨g, rfl, hown, hg, hb⟩
  obtain ⟨k1, k2, k3⟩ := three_blocks w (Obj.cells #[.slice a zs.length p, .slice b ls.length q, .int .i64 x] 25) (Obj.cells #[.slice none 0 0, .slice none 0 0, .int .i64 0] 30) (Obj.cells #[.slice none 0 0, .slice none 0 0, .int .i64 0] 30)
  rw [size3] at hb hg hown
  have hbw : Below w.heap.size w w1 := (((balloc _ _).trans ((balloc _ _).mono (by simp))).trans ((balloc _ _).mono (by simp; omega))).trans (hb.mono (by omega))
  rw [← hb.block _ (by omega)] at k1 k2 k3
  have hs1 := hb.size
  rw [size3] at hs1
  clear hb
  subst hg
  have hs1' := owns_lt hown
  have hown' := Go.Joins.ownsRow_le hown (base' := w.heap.size) (by omega)
  clear hown
  have k3' := blk_set (i := 0) (v := .slice (some ⟨w.heap.size + 1 + 1 + 1, 0, none⟩) zs.length zs.length) k3
  have k1' := blk_other (b := w.heap.size + 1 + 1) (i := 0) (v := .slice (some ⟨w.heap.size + 1 + 1 + 1, 0, none⟩) zs.length zs.length) k1 (by omega)
  have k2' := blk_other (b := w.heap.size + 1 + 1) (i := 0) (v := .slice (some ⟨w.heap.size + 1 + 1 + 1, 0, none⟩) zs.length zs.length) k2 (by omega)
  have o1' := own_setg (b := w.heap.size + 1 + 1) (i := 0) (u := .slice (some ⟨w.heap.size + 1 + 1 + 1, 0, none⟩) zs.length zs.length) (by omega) hown'
  have hbw' : Below w.heap.size w (w1.setCell ⟨w.heap.size + 1 + 1, 0, none⟩ (.slice (some ⟨w.heap.size + 1 + 1 + 1, 0, none⟩) zs.length zs.length)) := below_set (by omega) hbw
  have hsz' : (w1.setCell ⟨w.heap.size + 1 + 1, 0, none⟩ (.slice (some ⟨w.heap.size + 1 + 1 + 1, 0, none⟩) zs.length zs.length)).heap.size = w1.heap.size := by simp [World.setCell]
  obtain ⟨⟨b0, b1, b2⟩, f0, f1, f2⟩ := blk3 k3
  obtain ⟨⟨d0, d1, d2⟩, _, _, _⟩ := blk3 k1
  clear k1 k2 k3 hown' hbw
  go_wp2_with fail
  clear b0 b1 b2 f0 f1 f2 d0 d1 d2
  generalize w1.setCell ⟨w.heap.size + 1 + 1, 0, none⟩ (.slice (some ⟨w.heap.size + 1 + 1 + 1, 0, none⟩) zs.length zs.length) = W at *
  refine (cToLinks b q ls _ (he.below hbw') hl2).mono ?_
  rintro e w2 ⟨g2, rfl, hown2, hg2, hb2⟩
  have hs2 := owns_lt hown2
  have hb2s := hb2.size
  have K1 := blk_keep hb2 k1'
  have K2 := blk_keep hb2 k2'
  have K3 := blk_keep hb2 k3'
  have O1 := own_keep o1' hb2
  have O2 := Go.Joins.ownsRow_le hown2 (base' := w.heap.size) (by omega)
  have HB := btrans hbw' hb2
  simp only [Array.setIfInBounds] at K3
  obtain ⟨⟨b0, b1, b2⟩, f0, f1, f2⟩ := blk3 K3
  obtain ⟨⟨d0, d1, d2⟩, _, _, _⟩ := blk3 K1
  obtain ⟨⟨r0, r1, r2⟩, t0, t1, t2⟩ := blk3 K2
  have hne : w.heap.size + 1 + 1 + 1 ≠ g2 := by omega
  have hne2 : w.heap.size + 1 + 1 ≠ g2 := by omega
  have hne3 : w.heap.size + 1 ≠ g2 := by omega
  have hne4 : w.heap.size ≠ g2 := by omega
  have G2 := hide hg2
  clear K1 K2 K3 hown2 hb2 k1' k2' k3' o1' hbw' hg2
  go_wp2_with fail
  refine bodyPost_ret (v := .agg #[.slice (some ⟨w.heap.size + 1 + 1 + 1, 0, none⟩) zs.length zs.length, .slice (some ⟨g2, 0, none⟩) ls.length ls.length, .int .i64 x]) (by simp [results, Try.results7, go_sem, r0, r1, r2]) rfl ⟨_, _, rfl, ⟨?_, ?_, hne⟩, ?_⟩
  · repeat' apply own_setg (by omega)
    exact O1
  · repeat' apply own_setg (by omega)
    exact O2
  · repeat' apply below_set (by omega)
    exact HB
end Go.Proofs.Ytledkfhbdhlohaa
