/- Later: the program's text, where it is not refused. -/
import Derived.Test.YtmchdclieejohaaM
import Derived.Deep.RegionHeld3
namespace Go.Proofs.Ytmchdclieejohaa
open Go.RowKit

theorem undrewN {w w1 : World} {q : Nat} (h : Below (w.drewN q).heap.size (w.drewN q) w1) : Below w.heap.size w w1 := ⟨h.os, h.tape, h.output, h.size, h.block⟩

/-- What holds of the world while the answer is put together: old memory is as it was, the answer's own block is there. -/
structure SD (w W0 w' : World) : Prop where
  old : Below (w.heap.size + 1) W0 w'
  res : ∃ c0 c1 c2 c3 c4, w'.heap[w.heap.size + 1]? = some (.cells #[c0, c1, c2, c3, c4] 26 (0, 0))
  size : W0.heap.size ≤ w'.heap.size

/-- .. and the boxed pattern reads as it did. -/
abbrev HS (w W0 : World) (c0 c1 c2 c3 c4 : Value) (w' : World) : Prop :=
  w'.cell? ⟨w.heap.size, 0, none⟩ = some c0 ∧ w'.cell? ⟨w.heap.size, 1, none⟩ = some c1 ∧ w'.cell? ⟨w.heap.size, 2, none⟩ = some c2 ∧ w'.cell? ⟨w.heap.size, 3, none⟩ = some c3 ∧ w'.cell? ⟨w.heap.size, 4, none⟩ = some c4 ∧ SD w W0 w'

theorem HS.sd {w W0 w' : World} {c0 c1 c2 c3 c4 : Value} (h : HS w W0 c0 c1 c2 c3 c4 w') : SD w W0 w' := h.2.2.2.2.2
theorem HS.step {w W0 w1 w2 : World} {c0 c1 c2 c3 c4 : Value} (h : HS w W0 c0 c1 c2 c3 c4 w1) (hw : w.heap.size + 1 < W0.heap.size) (hb : Below w1.heap.size w1 w2) : HS w W0 c0 c1 c2 c3 c4 w2 := by
  obtain ⟨h0, h1, h2, h3, h4, sd⟩ := h
  refine ⟨ble hb h0, ble hb h1, ble hb h2, ble hb h3, ble hb h4, ⟨sd.old.trans (hb.mono (by have := sd.size; omega)), ?_, Nat.le_trans sd.size hb.size⟩⟩
  obtain ⟨d0, d1, d2, d3, d4, hh⟩ := sd.res
  exact ⟨d0, d1, d2, d3, d4, (hb.block _ (by have := sd.size; omega)).trans hh⟩
theorem HS.res {w W0 w' : World} {c0 c1 c2 c3 c4 : Value} (h : HS w W0 c0 c1 c2 c3 c4 w') : ∃ d0 d1 d2 d3 d4,
    (w'.cell? ⟨w.heap.size + 1, 0, none⟩ = some d0 ∧ w'.cell? ⟨w.heap.size + 1, 1, none⟩ = some d1 ∧ w'.cell? ⟨w.heap.size + 1, 2, none⟩ = some d2 ∧ w'.cell? ⟨w.heap.size + 1, 3, none⟩ = some d3 ∧ w'.cell? ⟨w.heap.size + 1, 4, none⟩ = some d4) ∧
    (w'.frozen? ⟨w.heap.size + 1, 0, none⟩ = false ∧ w'.frozen? ⟨w.heap.size + 1, 1, none⟩ = false ∧ w'.frozen? ⟨w.heap.size + 1, 2, none⟩ = false ∧ w'.frozen? ⟨w.heap.size + 1, 3, none⟩ = false ∧ w'.frozen? ⟨w.heap.size + 1, 4, none⟩ = false) := by
  obtain ⟨d0, d1, d2, d3, d4, hh⟩ := h.sd.res
  obtain ⟨A, B⟩ := blk5 hh
  exact ⟨d0, d1, d2, d3, d4, A, B⟩
theorem HS.ints {w W0 w' : World} {c0 c1 c2 c3 c4 : Value} {a : Option Addr} {zs : List Int} (h : HS w W0 c0 c1 c2 c3 c4 w') (hB : Below w.heap.size w W0) (hz : Ints w a zs) : Ints w' a zs := by
  rcases hz with hz | ⟨b, off, ha, hc⟩
  · exact .inl hz
  · exact .inr ⟨b, off, ha, fun i hi => by
      have hlt := cell_lt (hc i hi)
      exact (h.sd.old.cell (p := ⟨b, off + i, none⟩) (by show b < _; omega)).trans ((hB.cell hlt).trans (hc i hi))⟩

/-- The days moved, the answer in the form of a slice. -/
theorem c44b (a : Option Addr) (cap : Nat) (zs : List Int) (d : Int) (w : World) (hz : Ints w a zs) (hl : zs.length ≤ 1048576) (hd0 : -3650 ≤ d) (hd1 : d ≤ 3650) (hb : ∀ i, i < zs.length → 0 ≤ zs.getD i 0 ∧ zs.getD i 0 ≤ 3650) :
    Calls Try.prog 44 #[.slice a zs.length cap, .int .i64 d] w fun e w' => ∃ ao cp, e = .returned (.slice ao zs.length cp) ∧ w'.ownsRow w.heap.size 3 1 (.slice ao zs.length cp) zs.length ((moved d zs).map (Value.int .i64)) ∧ Below w.heap.size w w' := by
  refine (c44 a cap zs d w hz hl hd0 hd1 hb).mono ?_
  rintro e w' ⟨v, rfl, hown, _, hb⟩
  rcases Go.Joins.ownsRow_forms hown with ⟨rfl, h0⟩ | ⟨g, cp, rfl⟩
  · exact ⟨none, 0, by rw [h0], by rw [h0] at hown ⊢; exact hown, hb⟩
  · exact ⟨_, cp, rfl, hown, hb⟩
theorem c43b (W n : Int) (w : World) (hW0 : 0 ≤ W) (hW1 : W ≤ 127) : Calls Try.prog 43 #[.int .i64 W, .int .i64 n] w fun e w' => e = .returned (.int .i64 (turnW W n)) ∧ Below w.heap.size w w' :=
  (c43 W n w hW0 hW1).mono fun _ _ ⟨he, q, hq⟩ => ⟨he, by rw [hq]; exact Go.Joins.below_draws _ _ q⟩

theorem HS.drw {w W0 w' : World} {c0 c1 c2 c3 c4 : Value} (h : HS w W0 c0 c1 c2 c3 c4 w') : HS w W0 c0 c1 c2 c3 c4 w'.drew :=
  ⟨h.1, h.2.1, h.2.2.1, h.2.2.2.1, h.2.2.2.2.1, ⟨h.sd.old.drew, h.sd.res, h.sd.size⟩⟩
theorem HS.set1 {w W0 w' : World} {c0 c1 c2 c3 c4 u : Value} {i : Nat} (hi : i < 5) (h : HS w W0 c0 c1 c2 c3 c4 w') : HS w W0 c0 c1 c2 c3 c4 (w'.setCell ⟨w.heap.size + 1, i, none⟩ u) := by
  obtain ⟨h0, h1, h2, h3, h4, sd⟩ := h
  have hk : ∀ j, (w'.setCell ⟨w.heap.size + 1, i, none⟩ u).cell? ⟨w.heap.size, j, none⟩ = w'.cell? ⟨w.heap.size, j, none⟩ := fun j =>
    World.cell?_of_block (w := w') (Below.heap_setCell w' ⟨w.heap.size + 1, i, none⟩ u w.heap.size (by simp))
  refine ⟨(hk 0).trans h0, (hk 1).trans h1, (hk 2).trans h2, (hk 3).trans h3, (hk 4).trans h4, ⟨sd.old.setCell (Nat.le_refl _) _, ?_, by simpa [World.setCell] using sd.size⟩⟩
  obtain ⟨d0, d1, d2, d3, d4, hh⟩ := sd.res
  have := Go.Joins.block_setCell (i := i) hh u
  match i, hi, this with
  | 0, _, this => exact ⟨_, _, _, _, _, by simpa using this⟩
  | 1, _, this => exact ⟨_, _, _, _, _, by simpa using this⟩
  | 2, _, this => exact ⟨_, _, _, _, _, by simpa using this⟩
  | 3, _, this => exact ⟨_, _, _, _, _, by simpa using this⟩
  | 4, _, this => exact ⟨_, _, _, _, _, by simpa using this⟩
theorem HS.set5 {w W0 w' : World} {c0 c1 c2 c3 c4 u0 u1 u2 u3 u4 : Value} (h : HS w W0 c0 c1 c2 c3 c4 w') :
    HS w W0 c0 c1 c2 c3 c4 (((((w'.setCell ⟨w.heap.size + 1, 0, none⟩ u0).setCell ⟨w.heap.size + 1, 1, none⟩ u1).setCell ⟨w.heap.size + 1, 2, none⟩ u2).setCell ⟨w.heap.size + 1, 3, none⟩ u3).setCell ⟨w.heap.size + 1, 4, none⟩ u4) :=
  HS.set1 (by omega) (HS.set1 (by omega) (HS.set1 (by omega) (HS.set1 (by omega) (HS.set1 (by omega) h))))

theorem wrap_in (n : Int) (h0 : -9223372036854775808 ≤ n) (h1 : n ≤ 9223372036854775807) : IntKind.i64.wrap n = n := by
  simp [IntKind.wrap, IntKind.bits, IntKind.signed]; split <;> omega
theorem own_keep {w w' : World} {base n : Nat} {v : Value} {xs : List Value} (h : w.ownsRow base 3 1 v n xs) (hb : Below w.heap.size w w') : w'.ownsRow base 3 1 v n xs := by
  obtain ⟨h1, h2⟩ := h
  refine ⟨h1, ?_⟩
  rcases h2 with h2 | ⟨g, cap, cur, hv, hg, hh, r⟩
  · exact .inl h2
  · exact .inr ⟨g, cap, cur, hv, hg, (hb.block g (lt_of_block hh)).trans hh, r⟩
theorem own_set5 {w : World} {base n B : Nat} {v u0 u1 u2 u3 u4 : Value} {xs : List Value} (hB : B < base) (h : w.ownsRow base 3 1 v n xs) :
    (((((w.setCell ⟨B, 0, none⟩ u0).setCell ⟨B, 1, none⟩ u1).setCell ⟨B, 2, none⟩ u2).setCell ⟨B, 3, none⟩ u3).setCell ⟨B, 4, none⟩ u4).ownsRow base 3 1 v n xs :=
  ownsRow_setCell_below (ownsRow_setCell_below (ownsRow_setCell_below (ownsRow_setCell_below (ownsRow_setCell_below h hB u0) hB u1) hB u2) hB u3) hB u4
theorem below_set5 {W w : World} {B b : Nat} {u0 u1 u2 u3 u4 : Value} (hB : B ≤ b) (h : Below B W w) :
    Below B W (((((w.setCell ⟨b, 0, none⟩ u0).setCell ⟨b, 1, none⟩ u1).setCell ⟨b, 2, none⟩ u2).setCell ⟨b, 3, none⟩ u3).setCell ⟨b, 4, none⟩ u4) :=
  below_set hB (below_set hB (below_set hB (below_set hB (below_set hB h))))
theorem own_apart {w3 w4 : World} {b n1 n2 : Nat} {v1 v2 : Value} {xs ys : List Value} (h1 : w3.ownsRow b 3 1 v1 n1 xs) (h2 : w4.ownsRow w3.heap.size 3 1 v2 n2 ys) : v1.ownBlock = none ∨ v1.ownBlock ≠ v2.ownBlock := by
  rcases h1.2 with ⟨rfl, _⟩ | ⟨g, cap, cur, rfl, _, hh, _⟩
  · exact .inl rfl
  · right
    have hlt := lt_of_block hh
    rcases h2.2 with ⟨rfl, _⟩ | ⟨g', cap', cur', rfl, hg', _⟩
    · simp [Value.ownBlock]
    · simp [Value.ownBlock]; omega

set_option maxHeartbeats 3200000 in
theorem c20yes (a1 a2 : Option Addr) (p1 p2 : Nat) (zs es : List Int) (W F T n : Int) (w : World) (hz : Ints w a1 zs) (he : Ints w a2 es) (hl1 : zs.length ≤ 1048576) (hl2 : es.length ≤ 1048576)
    (hok : patOk W F T zs es = true) (hn0 : -3650 ≤ n) (hn1 : n ≤ 3650) (hF : 0 ≤ F + n) (hT : T + n ≤ 3650) (hF1 : F ≤ T) (hW0 : 0 ≤ W) (hW1 : W ≤ 127)
    (hbz : ∀ i, i < zs.length → 0 ≤ zs.getD i 0 ∧ zs.getD i 0 ≤ 3650) (hbe : ∀ i, i < es.length → 0 ≤ es.getD i 0 ∧ es.getD i 0 ≤ 3650) :
    Calls Try.prog 20 #[.agg #[.int .i64 W, .int .i64 F, .int .i64 T, .slice a1 zs.length p1, .slice a2 es.length p2], .int .i64 n] w fun e w' => ∃ v1 v2,
      e = .returned (.agg #[.int .i64 (turnW W n), .int .i64 (F + n), .int .i64 (T + n), v1, v2]) ∧ w'.ownsRow w.heap.size 3 1 v1 zs.length ((moved n zs).map (Value.int .i64)) ∧ w'.ownsRow w.heap.size 3 1 v2 es.length ((moved n es).map (Value.int .i64)) ∧
      (v1.ownBlock = none ∨ v1.ownBlock ≠ v2.ownBlock) ∧ Below w.heap.size w w' := by
  go_enter Try.func20, Try.ntmps20
  go_wp2_with fail
  refine (c21 a1 a2 p1 p2 zs es W F T _ (hz.below (btrans (balloc _ _) (balloc _ _))) (he.below (btrans (balloc _ _) (balloc _ _))) hl1 hl2).mono ?_
  rintro e w1 ⟨rfl, hb⟩
  have HB1 := btrans (btrans (balloc _ _) (balloc _ _)) hb
  have hs1 : w.heap.size + 1 < w1.heap.size := by have := hb.size; simp at this; omega
  have H1 : HS w w1 (.int .i64 W) (.int .i64 F) (.int .i64 T) (.slice a1 zs.length p1) (.slice a2 es.length p2) w1 :=
    ⟨ble hb (by simp), ble hb (by simp), ble hb (by simp), ble hb (by simp), ble hb (by simp), ⟨Below.refl _ _, ⟨_, _, _, _, _, (hb.block _ (by simp)).trans (by
      show ((w.heap.push _).push _)[w.heap.size + 1]? = _
      rw [Array.getElem?_push, if_pos (by simp)])⟩, Nat.le_refl _⟩⟩
  obtain ⟨b0, b1, b2, b3, b4, _⟩ := id H1
  clear hb
  have hwF : IntKind.i64.wrap (F + n) = F + n := wrap_in _ (by omega) (by omega)
  have hwT : IntKind.i64.wrap (T + n) = T + n := wrap_in _ (by omega) (by omega)
  go_wp2_with fail
  go_region_held3 (fun w' => HS w w1 (.int .i64 W) (.int .i64 F) (.int .i64 T) (.slice a1 zs.length p1) (.slice a2 es.length p2) w')
    ((first | (with_reducible exact HS.drw H1) | (with_reducible assumption) | (with_reducible exact HS.set5 (by with_reducible assumption))))
    (first
      | (go_at_call 43; refine (c43b W n _ hW0 hW1).mono ?_; rintro e w2 ⟨rfl, hb2⟩; have hx43 := HS.step (by assumption) hs1 hb2; obtain ⟨d0, d1, d2, d3, d4, ⟨r0, r1, r2, r3, r4⟩, f0, f1, f2, f3, f4⟩ := hx43.res)
      | (go_at_call_of 44 (Value.slice a1 zs.length p1); refine (c44b a1 p1 zs n _ (HS.ints (by assumption) HB1 hz) hl1 hn0 hn1 hbz).mono ?_; rintro e w3 ⟨ao1, cp1, rfl, hown1, hb3⟩; have hx44 := HS.step (by assumption) hs1 hb3; obtain ⟨d0, d1, d2, d3, d4, ⟨r0, r1, r2, r3, r4⟩, f0, f1, f2, f3, f4⟩ := hx44.res)
      | (go_at_call_of 44 (Value.slice a2 es.length p2); refine (c44b a2 p2 es n _ (HS.ints (by assumption) HB1 he) hl2 hn0 hn1 hbe).mono ?_; rintro e w4 ⟨ao2, cp2, rfl, hown2, hb4⟩; have hx45 := HS.step (by assumption) hs1 hb4; obtain ⟨d0, d1, d2, d3, d4, ⟨r0, r1, r2, r3, r4⟩, f0, f1, f2, f3, f4⟩ := hx45.res))
  have sz2 : w1.heap.size ≤ w2.heap.size := hb2.size
  have sz3 : w2.heap.size ≤ w3.heap.size := hb3.size
  have hap := own_apart hown1 hown2
  have o1 := Go.Joins.ownsRow_le (own_keep hown1 hb4) (base' := w1.heap.size) sz2
  have o2 := Go.Joins.ownsRow_le hown2 (base' := w1.heap.size) (by omega)
  have HBf := btrans (btrans (btrans HB1 (undrew hb2)) hb3) hb4
  clear hown1 hown2 hx43 hx44 hx45 hb2 hb3 hb4 H1 hz he
  go_wp2
  refine bodyPost_ret (v := .agg #[.int .i64 (turnW W n), .int .i64 (F + n), .int .i64 (T + n), .slice ao1 zs.length cp1, .slice ao2 es.length cp2])
    (by simp [results, Try.results20, go_sem, r0, r1, r2, r3, r4]) rfl ⟨_, _, rfl, Go.Joins.ownsRow_le (own_set5 (by omega) o1) (by omega), Go.Joins.ownsRow_le (own_set5 (by omega) o2) (by omega), hap, below_set5 (by omega) HBf⟩
end Go.Proofs.Ytmchdclieejohaa
