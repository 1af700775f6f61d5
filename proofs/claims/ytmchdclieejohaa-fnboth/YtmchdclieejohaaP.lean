/- Later: the model's text, where it is not refused. -/
import Derived.Test.YtmchdclieejohaaN
import Derived.Deep.AppendLies
import Derived.Deep.RegionLaw
namespace Go.Proofs.Ytmchdclieejohaa
open Go.RowKit

/-- The model's 'out' while it is put together, and all that lies around it. B: the boxed pattern; B + 1: the answer; U: out. -/
structure LS (w : World) (U : Nat) (c0 c1 c2 c3 c4 : Value) (wr : World) (wk f t : Int) (ao1 : Option Addr) (cp1 : Nat) (xs : List Int) (ao2 : Option Addr) (cp2 : Nat) (ys : List Int) : Prop where
  box : Bx wr w.heap.size c0 c1 c2 c3 c4
  out : wr.heap[U]? = some (.cells #[.int .i64 wk, .int .i64 f, .int .i64 t, .slice ao1 xs.length cp1, .slice ao2 ys.length cp2] 26 (0, 0))
  res : wr.heap[w.heap.size + 1]? = some (.cells #[.int .i64 0, .int .i64 0, .int .i64 0, .slice none 0 0, .slice none 0 0] 26 (0, 0))
  own1 : wr.ownsRow (U + 1) 3 1 (.slice ao1 xs.length cp1) xs.length (xs.map (Value.int .i64))
  own2 : wr.ownsRow (U + 1) 3 1 (.slice ao2 ys.length cp2) ys.length (ys.map (Value.int .i64))
  apart : (Value.slice ao1 xs.length cp1).ownBlock = none ∨ (Value.slice ao2 ys.length cp2).ownBlock = none ∨ (Value.slice ao1 xs.length cp1).ownBlock ≠ (Value.slice ao2 ys.length cp2).ownBlock
  bel : Below w.heap.size w wr
  lo : w.heap.size + 1 < U

section
variable {w wr : World} {U : Nat} {c0 c1 c2 c3 c4 : Value} {wk f t : Int} {ao1 ao2 : Option Addr} {cp1 cp2 : Nat} {xs ys : List Int}

theorem LS.lt (h : LS w U c0 c1 c2 c3 c4 wr wk f t ao1 cp1 xs ao2 cp2 ys) : U < wr.heap.size := lt_of_block h.out
theorem LS.cells (h : LS w U c0 c1 c2 c3 c4 wr wk f t ao1 cp1 xs ao2 cp2 ys) : (wr.cell? ⟨U, 0, none⟩ = some (.int .i64 wk) ∧ wr.cell? ⟨U, 1, none⟩ = some (.int .i64 f) ∧ wr.cell? ⟨U, 2, none⟩ = some (.int .i64 t) ∧ wr.cell? ⟨U, 3, none⟩ = some (.slice ao1 xs.length cp1) ∧ wr.cell? ⟨U, 4, none⟩ = some (.slice ao2 ys.length cp2)) ∧
    (wr.frozen? ⟨U, 0, none⟩ = false ∧ wr.frozen? ⟨U, 1, none⟩ = false ∧ wr.frozen? ⟨U, 2, none⟩ = false ∧ wr.frozen? ⟨U, 3, none⟩ = false ∧ wr.frozen? ⟨U, 4, none⟩ = false) := blk5 h.out

/-- Only draws. -/
theorem LS.draws (h : LS w U c0 c1 c2 c3 c4 wr wk f t ao1 cp1 xs ao2 cp2 ys) (q : Nat) : LS w U c0 c1 c2 c3 c4 (wr.drewN q) wk f t ao1 cp1 xs ao2 cp2 ys :=
  ⟨h.box, h.out, h.res, h.own1, h.own2, h.apart, bdraw h.bel q, h.lo⟩
theorem LS.drew (h : LS w U c0 c1 c2 c3 c4 wr wk f t ao1 cp1 xs ao2 cp2 ys) : LS w U c0 c1 c2 c3 c4 wr.drew wk f t ao1 cp1 xs ao2 cp2 ys :=
  ⟨h.box, h.out, h.res, h.own1, h.own2, h.apart, h.bel.drew, h.lo⟩

theorem set_box {i : Nat} {u : Value} (hne : w.heap.size ≠ U) (h : Bx wr w.heap.size c0 c1 c2 c3 c4) : Bx (wr.setCell ⟨U, i, none⟩ u) w.heap.size c0 c1 c2 c3 c4 := by
  have hk : ∀ j, (wr.setCell ⟨U, i, none⟩ u).cell? ⟨w.heap.size, j, none⟩ = wr.cell? ⟨w.heap.size, j, none⟩ := fun j =>
    World.cell?_of_block (w := wr) (Below.heap_setCell wr ⟨U, i, none⟩ u w.heap.size hne)
  exact ⟨(hk 0).trans h.1, (hk 1).trans h.2.1, (hk 2).trans h.2.2.1, (hk 3).trans h.2.2.2.1, (hk 4).trans h.2.2.2.2⟩

/-- The week is stored anew. -/
theorem LS.week (h : LS w U c0 c1 c2 c3 c4 wr wk f t ao1 cp1 xs ao2 cp2 ys) (wk' : Int) : LS w U c0 c1 c2 c3 c4 (wr.setCell ⟨U, 0, none⟩ (.int .i64 wk')) wk' f t ao1 cp1 xs ao2 cp2 ys :=
  ⟨set_box (by have := h.lo; omega) h.box, by have := Go.Joins.block_setCell (i := 0) h.out (.int .i64 wk'); simpa using this,
   (Below.heap_setCell wr ⟨U, 0, none⟩ _ _ (by have := h.lo; simp; omega)).trans h.res, ownsRow_setCell_below h.own1 (by simp) _, ownsRow_setCell_below h.own2 (by simp) _, h.apart, h.bel.setCell (by have := h.lo; simp; omega) _, h.lo⟩

theorem grown_own {w w1 : World} {base n : Nat} {v v' : Value} {vs : List Value} (hg : w.grownBy w1 v.ownBlock) (h : w.ownsRow base 3 1 v' n vs) (hne : v.ownBlock = none ∨ v'.ownBlock = none ∨ v.ownBlock ≠ v'.ownBlock) : w1.ownsRow base 3 1 v' n vs := by
  obtain ⟨h1, h2⟩ := h
  refine ⟨h1, ?_⟩
  rcases h2 with h2 | ⟨g, cap, cur, rfl, hb, hh, r⟩
  · exact .inl h2
  · refine .inr ⟨g, cap, cur, rfl, hb, (hg.block g (lt_of_block hh) (fun e => ?_)).trans hh, r⟩
    rcases hne with hne | hne | hne
    · rw [hne] at e; cases e
    · simp [Value.ownBlock] at hne
    · exact hne (by rw [← e]; rfl)

theorem own_ge {w : World} {base n : Nat} {v : Value} {vs : List Value} (h : w.ownsRow base 3 1 v n vs) : ∀ k, v.ownBlock = some k → base ≤ k := by
  intro k e
  rcases h.2 with ⟨rfl, _⟩ | ⟨g, cap, cur, rfl, hb, _⟩
  · simp [Value.ownBlock] at e
  · simp [Value.ownBlock] at e; omega

theorem undrewG {w w2 : World} {r : Option Nat} (h : w.drew.grownBy w2 r) : w.grownBy w2 r := ⟨h.os, h.tape, h.output, h.size, h.block⟩
theorem LS.after {o : Obj} {w2 : World} {v : Value} (h : LS w U c0 c1 c2 c3 c4 wr wk f t ao1 cp1 xs ao2 cp2 ys) (hv : ∀ k, v.ownBlock = some k → U + 1 ≤ k) (hgrow : (wr.alloc o).grownBy w2 v.ownBlock) :
    (w2.cell? ⟨U, 3, none⟩ = some (.slice ao1 xs.length cp1) ∧ w2.cell? ⟨U, 4, none⟩ = some (.slice ao2 ys.length cp2)) ∧ (w2.frozen? ⟨U, 3, none⟩ = false ∧ w2.frozen? ⟨U, 4, none⟩ = false) := by
  have hU := h.lt
  have hb : w2.heap[U]? = wr.heap[U]? := (hgrow.block U (by simp; omega) (fun e => by have := hv U e.symm; omega)).trans (Below.heap_alloc wr o U (by omega))
  obtain ⟨⟨_, _, _, a, b⟩, _, _, _, c, d⟩ := blk5 (hb.trans h.out)
  exact ⟨⟨a, b⟩, c, d⟩

/-- A day is appended to the first list. -/
theorem LS.push1 (h : LS w U c0 c1 c2 c3 c4 wr wk f t ao1 cp1 xs ao2 cp2 ys) {o : Obj} {g cap : Nat} {w2 : World} {x : Int}
    (hown : w2.ownsRow (U + 1) 3 1 (.slice (some ⟨g, 0, none⟩) (xs.length + 1) cap) (xs.length + 1) (xs.map (Value.int .i64) ++ [.int .i64 x])) (hgrow : (wr.alloc o).grownBy w2 (Value.slice ao1 xs.length cp1).ownBlock) (hat : (Value.slice ao1 xs.length cp1).ownBlock = some g ∨ g = wr.heap.size + 1) :
    LS w U c0 c1 c2 c3 c4 (w2.setCell ⟨U, 3, none⟩ (.slice (some ⟨g, 0, none⟩) (xs.length + 1) cap)) wk f t (some ⟨g, 0, none⟩) cap (xs ++ [x]) ao2 cp2 ys := by
  have hU := h.lt
  have hlo := h.lo
  have hge := own_ge h.own1
  have hblk : ∀ k, k ≤ U → w2.heap[k]? = wr.heap[k]? := fun k hk =>
    (hgrow.block k (by simp; omega) (fun e => by have := hge k e.symm; omega)).trans (Below.heap_alloc wr o k (by omega))
  have hbx : Bx w2 w.heap.size c0 c1 c2 c3 c4 := by
    have hk : ∀ j, w2.cell? ⟨w.heap.size, j, none⟩ = wr.cell? ⟨w.heap.size, j, none⟩ := fun j => World.cell?_of_block (w := wr) (hblk _ (by show w.heap.size ≤ U; omega))
    exact ⟨(hk 0).trans h.box.1, (hk 1).trans h.box.2.1, (hk 2).trans h.box.2.2.1, (hk 3).trans h.box.2.2.2.1, (hk 4).trans h.box.2.2.2.2⟩
  have hbel : Below w.heap.size w w2 := (h.bel.alloc h.bel.size o).grown hgrow (by have := h.bel.size; simp; omega) (fun k e => by have := hge k e; omega)
  have hlen : (xs ++ [x]).length = xs.length + 1 := by simp
  refine ⟨set_box (by omega) hbx, ?_, (Below.heap_setCell w2 ⟨U, 3, none⟩ _ _ (by simp; omega)).trans ((hblk _ (by omega)).trans h.res), ?_, ?_, ?_, hbel.setCell (by simp; omega) _, hlo⟩
  · have := Go.Joins.block_setCell (i := 3) ((hblk U (Nat.le_refl _)).trans h.out) (.slice (some ⟨g, 0, none⟩) (xs.length + 1) cap)
    rw [hlen]; simpa using this
  · rw [hlen, List.map_append]; exact ownsRow_setCell_below hown (by simp) _
  · refine ownsRow_setCell_below (grown_own hgrow (h.own2.alloc o) ?_) (by simp) _
    exact h.apart
  · rcases hat with hat | rfl
    · rcases h.apart with ha | ha | ha
      · rw [ha] at hat; cases hat
      · exact .inr (.inl ha)
      · right; right; rw [hat] at ha; exact ha
    · right
      rcases h.own2.2 with ⟨e, _⟩ | ⟨g', cap', cur', e, _, hh, _⟩
      · left; rw [e]; rfl
      · right; rw [e]; have := lt_of_block hh; simp [Value.ownBlock]; omega
/-- A day is appended to the second list. -/
theorem LS.push2 (h : LS w U c0 c1 c2 c3 c4 wr wk f t ao1 cp1 xs ao2 cp2 ys) {o : Obj} {g cap : Nat} {w2 : World} {x : Int}
    (hown : w2.ownsRow (U + 1) 3 1 (.slice (some ⟨g, 0, none⟩) (ys.length + 1) cap) (ys.length + 1) (ys.map (Value.int .i64) ++ [.int .i64 x])) (hgrow : (wr.alloc o).grownBy w2 (Value.slice ao2 ys.length cp2).ownBlock) (hat : (Value.slice ao2 ys.length cp2).ownBlock = some g ∨ g = wr.heap.size + 1) :
    LS w U c0 c1 c2 c3 c4 (w2.setCell ⟨U, 4, none⟩ (.slice (some ⟨g, 0, none⟩) (ys.length + 1) cap)) wk f t ao1 cp1 xs (some ⟨g, 0, none⟩) cap (ys ++ [x]) := by
  have hU := h.lt
  have hlo := h.lo
  have hge := own_ge h.own2
  have hblk : ∀ k, k ≤ U → w2.heap[k]? = wr.heap[k]? := fun k hk =>
    (hgrow.block k (by simp; omega) (fun e => by have := hge k e.symm; omega)).trans (Below.heap_alloc wr o k (by omega))
  have hbx : Bx w2 w.heap.size c0 c1 c2 c3 c4 := by
    have hk : ∀ j, w2.cell? ⟨w.heap.size, j, none⟩ = wr.cell? ⟨w.heap.size, j, none⟩ := fun j => World.cell?_of_block (w := wr) (hblk _ (by show w.heap.size ≤ U; omega))
    exact ⟨(hk 0).trans h.box.1, (hk 1).trans h.box.2.1, (hk 2).trans h.box.2.2.1, (hk 3).trans h.box.2.2.2.1, (hk 4).trans h.box.2.2.2.2⟩
  have hbel : Below w.heap.size w w2 := (h.bel.alloc h.bel.size o).grown hgrow (by have := h.bel.size; simp; omega) (fun k e => by have := hge k e; omega)
  have hlen : (ys ++ [x]).length = ys.length + 1 := by simp
  refine ⟨set_box (by omega) hbx, ?_, (Below.heap_setCell w2 ⟨U, 4, none⟩ _ _ (by simp; omega)).trans ((hblk _ (by omega)).trans h.res), ?_, ?_, ?_, hbel.setCell (by simp; omega) _, hlo⟩
  · have := Go.Joins.block_setCell (i := 4) ((hblk U (Nat.le_refl _)).trans h.out) (.slice (some ⟨g, 0, none⟩) (ys.length + 1) cap)
    rw [hlen]; simpa using this
  · refine ownsRow_setCell_below (grown_own hgrow (h.own1.alloc o) ?_) (by simp) _
    rcases h.apart with ha | ha | ha
    · exact .inr (.inl ha)
    · exact .inl ha
    · exact .inr (.inr (fun e => ha e.symm))
  · rw [hlen, List.map_append]; exact ownsRow_setCell_below hown (by simp) _
  · rcases hat with hat | rfl
    · rcases h.apart with ha | ha | ha
      · exact .inl ha
      · rw [ha] at hat; cases hat
      · right; right; rw [hat] at ha; exact ha
    · rcases h.own1.2 with ⟨e, _⟩ | ⟨g', cap', cur', e, _, hh, _⟩
      · left; rw [e]; rfl
      · right; right; rw [e]; have := lt_of_block hh; simp [Value.ownBlock]; omega
end

theorem mod_shift (k : Nat) (n : Int) : ((k : Int) + n) % 7 = (((k + (n % 7).toNat) % 7 : Nat) : Int) := by omega

theorem pow6 : ∀ j : Fin 7, (2 : Int) ^ j.val ≤ 64 ∧ 1 ≤ (2 : Int) ^ j.val := by decide
theorem week_val (W n : Int) (k : Nat) (h0 : 0 ≤ turnTo W (n % 7).toNat k) (h1 : turnTo W (n % 7).toNat k ≤ 127) (R : turnTo W (n % 7).toNat (k + 1) = turnTo W (n % 7).toNat k + 2 ^ ((k + (n % 7).toNat) % 7)) :
    wrap64 (turnTo W (n % 7).toNat k + wrap64 (2 ^ min (((k : Int) + n) % 7).toNat 64)) = turnTo W (n % 7).toNat (k + 1) := by
  have hj : (((k : Int) + n) % 7).toNat = (k + (n % 7).toNat) % 7 := by omega
  have hm : min (((k : Int) + n) % 7).toNat 64 = (k + (n % 7).toNat) % 7 := by omega
  obtain ⟨q0, q1⟩ := pow6 ⟨(k + (n % 7).toNat) % 7, by omega⟩
  rw [hm, IntWalk.wrap64_in (2 ^ ((k + (n % 7).toNat) % 7)) (by simp only at q0 q1; omega), IntWalk.wrap64_in _ (by simp only at q0 q1; omega), R]

set_option maxHeartbeats 3200000 in
theorem c32yes (a1 a2 : Option Addr) (p1 p2 : Nat) (zs es : List Int) (W F T n : Int) (w : World) (hz : Ints w a1 zs) (he : Ints w a2 es) (hl1 : zs.length ≤ 1048576) (hl2 : es.length ≤ 1048576)
    (hok : patOk W F T zs es = true) (hn0 : -3650 ≤ n) (hn1 : n ≤ 3650) (hF : 0 ≤ F + n) (hT : T + n ≤ 3650) (hF1 : F ≤ T) (hW0 : 0 ≤ W) (hW1 : W ≤ 127)
    (hbz : ∀ i, i < zs.length → 0 ≤ zs.getD i 0 ∧ zs.getD i 0 ≤ 3650) (hbe : ∀ i, i < es.length → 0 ≤ es.getD i 0 ∧ es.getD i 0 ≤ 3650) :
    Calls Try.prog 32 #[.agg #[.int .i64 W, .int .i64 F, .int .i64 T, .slice a1 zs.length p1, .slice a2 es.length p2], .int .i64 n] w fun e w' => ∃ v1 v2,
      e = .returned (.agg #[.int .i64 (turnW W n), .int .i64 (F + n), .int .i64 (T + n), v1, v2]) ∧ w'.ownsRow w.heap.size 3 1 v1 zs.length ((moved n zs).map (Value.int .i64)) ∧ w'.ownsRow w.heap.size 3 1 v2 es.length ((moved n es).map (Value.int .i64)) ∧ Below w.heap.size w w' := by
  obtain ⟨i0, hi, hz0, hz1, hz2⟩ := info_parts info3
  have hin : inB n (-3650) 3650 = true := by simp [inB]; omega
  go_enter Try.func32, Try.ntmps32
  go_wp2_with fail
  refine (c25 a1 a2 p1 p2 zs es W F T _ (hz.below (btrans (balloc _ _) (balloc _ _))) (he.below (btrans (balloc _ _) (balloc _ _))) hl1 hl2).mono ?_
  rintro e w1 ⟨rfl, hb⟩
  have HB1 := btrans (btrans (balloc _ _) (balloc _ _)) hb
  have hs1 : w.heap.size + 1 < w1.heap.size := by have := hb.size; simp at this; omega
  have X1 : Bx w1 w.heap.size (.int .i64 W) (.int .i64 F) (.int .i64 T) (.slice a1 zs.length p1) (.slice a2 es.length p2) := ⟨ble hb (by simp), ble hb (by simp), ble hb (by simp), ble hb (by simp), ble hb (by simp)⟩
  have R1 : w1.heap[w.heap.size + 1]? = some (.cells #[.int .i64 0, .int .i64 0, .int .i64 0, .slice none 0 0, .slice none 0 0] 26 (0, 0)) := (hb.block _ (by simp)).trans (by
      show ((w.heap.push _).push _)[w.heap.size + 1]? = _
      rw [Array.getElem?_push, if_pos (by simp)])
  have L0 : LS w w1.heap.size (.int .i64 W) (.int .i64 F) (.int .i64 T) (.slice a1 zs.length p1) (.slice a2 es.length p2) (w1.alloc (.cells #[.int .i64 0, .int .i64 (F + n), .int .i64 (T + n), .slice none 0 0, .slice none 0 0] 26)) (turnTo W (n % 7).toNat 0) (F + n) (T + n) none 0 (moved n (zs.take 0)) none 0 (moved n (es.take 0)) :=
    ⟨X1.below (balloc _ _), by show (w1.heap.push _)[w1.heap.size]? = _; rw [Array.getElem?_push, if_pos rfl]; rfl, (Below.heap_alloc _ _ _ hs1).trans R1, World.ownsRow_nil _ _ _ _, World.ownsRow_nil _ _ _ _, .inl rfl, btrans HB1 (balloc _ _), hs1⟩
  obtain ⟨b0, b1, b2, b3, b4⟩ := id X1
  clear hb
  go_wp2_with (go_at_call 46; refine (c46 _ _ _ _).mono ?_; rintro e w' ⟨rfl, hw⟩; obtain rfl := hw.symm)
  clear b0 b1 b2 b3 b4 X1 R1
  go_loopw [6] (fun i wr => ∃ k : Nat, k ≤ 7 ∧ i = .int .i64 k ∧ LS w w1.heap.size (.int .i64 W) (.int .i64 F) (.int .i64 T) (.slice a1 zs.length p1) (.slice a2 es.length p2) wr (turnTo W (n % 7).toNat k) (F + n) (T + n) none 0 (moved n (zs.take 0)) none 0 (moved n (es.take 0))) (fun i _ => 7 - (intOf i).toNat)
  case atStart => exact ⟨0, by omega, rfl, L0⟩
  case round =>
    clear L0
    obtain ⟨k, hk, rfl, L⟩ := hrel
    obtain ⟨b0, b1, b2, b3, b4⟩ := id L.box
    obtain ⟨⟨u0, u1, u2, u3, u4⟩, f0, f1, f2, f3, f4⟩ := L.cells
    by_cases hlt : k < 7
    · cases hwk : wkB W (k : Int)
      · have R := hide (show turnTo W (n % 7).toNat (k + 1) = turnTo W (n % 7).toNat k by simp only [turnTo, hwk]; rfl)
        have L' : LS w w1.heap.size (.int .i64 W) (.int .i64 F) (.int .i64 T) (.slice a1 zs.length p1) (.slice a2 es.length p2) wr (turnTo W (n % 7).toNat (k + 1)) (F + n) (T + n) none 0 (moved n (zs.take 0)) none 0 (moved n (es.take 0)) := by rw [R.out]; exact L
        clear L
        go_wp2_with (go_at_call 40; refine (c40 _ _ _).mono ?_; rintro e w' ⟨rfl, hw⟩; obtain rfl := hw.symm)
        go_roundw
        case rel => exact ⟨k + 1, by omega, by go_num, L'⟩
        case measure => simp [intOf]; omega
      · have R := hide (show turnTo W (n % 7).toNat (k + 1) = turnTo W (n % 7).toNat k + 2 ^ ((k + (n % 7).toNat) % 7) by simp only [turnTo, hwk]; rfl)
        have hbd := turn_bd' W (n % 7).toNat k hW0 hW1 (by omega) (by omega)
        have M := hide (mod_shift k n)
        go_wp2_with (go_at_call 40; refine (c40 _ _ _).mono ?_; rintro e w' ⟨rfl, hw⟩; obtain rfl := hw.symm)
        go_region_with (go_at_call 54; refine (c54 _ _).mono ?_; rintro e w' ⟨rfl, hw⟩; obtain rfl := hw.symm)
        all_goals go_wp2
        all_goals go_roundw
        all_goals first
          | (case rel => exact ⟨k + 1, by omega, by go_num, by rw [← week_val W n k hbd.1 hbd.2 R.out]; exact (L.week _).drew⟩)
          | (case measure => simp [intOf]; omega)
    · obtain rfl : k = 7 := by omega
      clear u0 u1 u2 u3 u4 f0 f1 f2 f3 f4 b0 b1 b2 b4 hk hlt
      go_wp2
      clear b3
      go_loopw [7] (fun i wr => ∃ (k : Nat) (ao : Option Addr) (cp : Nat), k ≤ zs.length ∧ i = .int .i64 k ∧ LS w w1.heap.size (.int .i64 W) (.int .i64 F) (.int .i64 T) (.slice a1 zs.length p1) (.slice a2 es.length p2) wr (turnTo W (n % 7).toNat 7) (F + n) (T + n) ao cp (moved n (zs.take k)) none 0 (moved n (es.take 0))) (fun i _ => zs.length - (intOf i).toNat)
      case atStart => exact ⟨0, none, 0, Nat.zero_le _, rfl, L⟩
      case round =>
        clear L
        obtain ⟨k, ao, cp, hk, rfl, L⟩ := hrel
        obtain ⟨b0, b1, b2, b3, b4⟩ := id L.box
        obtain ⟨⟨u0, u1, u2, u3, u4⟩, f0, f1, f2, f3, f4⟩ := L.cells
        have hU := L.lt
        have hlen : (moved n (zs.take k)).length = k := by rw [moved_len]; simp; omega
        clear b0 b1 b2 b4 u0 u1 u2 u4 f0 f1 f2 f4
        by_cases hlt : k < zs.length
        · rcases hz with hz | ⟨b, off, rfl, hc⟩
          · simp [hz] at hlt
          have e0 : zs.getD k 0 = zs[k] := by simp [List.getD, hlt]
          have hcl := cell_lt (hc k hlt)
          have hck : wr.cell? ⟨b, off + k, none⟩ = some (.int .i64 zs[k]) := ((L.bel.cell hcl).trans (hc k hlt)).trans (by rw [e0])
          have hbk := hbz k hlt
          rw [e0] at hbk
          obtain ⟨hb0, hb1⟩ := hbk
          have hws : IntKind.i64.wrap (zs[k] + n) = zs[k] + n := wrap_in _ (by omega) (by omega)
          have hsz := L.bel.size
          have hlo := L.lo
          have hnw : b ≠ wr.heap.size := by omega
          have hnu : w1.heap.size ≠ wr.heap.size := by omega
          have hnb : w.heap.size ≠ wr.heap.size := by omega
          rw [hlen] at u3
          have O1 := L.own1
          rw [hlen] at O1
          go_wp2
          go_region_law (refine step_append_lies _ rfl _ _ _ rfl (w1.heap.size + 1) 3 i0 (.int .i64 0) 1 8 Try.underlying24 hi hz0 hz1 hz2 rfl (by decide) (.slice ao k cp) k ((moved n (zs.take k)).map (Value.int .i64)) rfl (by exact O1.alloc _) ⟨wr.heap.size, 0, none⟩ 1 1 [.int .i64 (zs[k] + n)] rfl rfl (by intro j u hj; match j, hj with | 0, hj => simp at hj; subst hj; simp [Addr.add]) (by intro u hu; simp at hu; subst hu; rfl) (by decide) (by unfold maxLen; omega) (by omega) (by simp; omega) (wr.heap.size + 1) (by simp) ?_; intro g cap w2 hown hgrow hat hlt2; obtain ⟨⟨q3, _⟩, r3, _⟩ := L.after (w2 := w2) (v := .slice ao k cp) (own_ge O1) (undrewG hgrow))
          all_goals (have L2 := L.push1 (g := g) (cap := cap) (w2 := w2) (x := zs[k] + n) (by rw [hlen]; exact hown) (by rw [hlen]; exact undrewG hgrow) (by rw [hlen]; exact hat))
          all_goals (rw [hlen, ← moved_snoc n zs k hlt] at L2)
          all_goals (clear L hown hgrow hat O1)
          all_goals go_wp2
          all_goals go_roundw
          all_goals first
            | (case rel => exact ⟨_, _, _, _, _, _, _, _, _, _, _, _, _, _, _, _, _, _, _, _, ⟨k + 1, _, _, by omega, by go_num, L2⟩, rfl⟩)
            | (case measure => simp [intOf]; omega)
        · obtain rfl : k = zs.length := by omega
          rw [List.take_length] at L
          clear u3 f3 hk hlt hlen
          go_wp2
          clear b3
          go_loopw [8] (fun i wr => ∃ (k : Nat) (ao2 : Option Addr) (cp2 : Nat), k ≤ es.length ∧ i = .int .i64 k ∧ LS w w1.heap.size (.int .i64 W) (.int .i64 F) (.int .i64 T) (.slice a1 zs.length p1) (.slice a2 es.length p2) wr (turnTo W (n % 7).toNat 7) (F + n) (T + n) ao cp (moved n zs) ao2 cp2 (moved n (es.take k))) (fun i _ => es.length - (intOf i).toNat)
          case atStart => exact ⟨0, none, 0, Nat.zero_le _, rfl, L⟩
          case round =>
            clear L
            obtain ⟨k, ao2, cp2, hk, rfl, L⟩ := hrel
            obtain ⟨b0, b1, b2, b3, b4⟩ := id L.box
            obtain ⟨⟨u0, u1, u2, u3, u4⟩, f0, f1, f2, f3, f4⟩ := L.cells
            have hU := L.lt
            have hlen : (moved n (es.take k)).length = k := by rw [moved_len]; simp; omega
            by_cases hlt : k < es.length
            · clear b0 b1 b2 b3 u0 u1 u2 u3 f0 f1 f2 f3
              rcases he with he | ⟨b, off, rfl, hc⟩
              · simp [he] at hlt
              have e0 : es.getD k 0 = es[k] := by simp [List.getD, hlt]
              have hcl := cell_lt (hc k hlt)
              have hck : wr.cell? ⟨b, off + k, none⟩ = some (.int .i64 es[k]) := ((L.bel.cell hcl).trans (hc k hlt)).trans (by rw [e0])
              have hbk := hbe k hlt
              rw [e0] at hbk
              obtain ⟨hb0, hb1⟩ := hbk
              have hws : IntKind.i64.wrap (es[k] + n) = es[k] + n := wrap_in _ (by omega) (by omega)
              have hsz := L.bel.size
              have hlo := L.lo
              have hnw : b ≠ wr.heap.size := by omega
              have hnu : w1.heap.size ≠ wr.heap.size := by omega
              have hnb : w.heap.size ≠ wr.heap.size := by omega
              rw [hlen] at u4
              have O2 := L.own2
              rw [hlen] at O2
              go_wp2
              go_region_law (refine step_append_lies _ rfl _ _ _ rfl (w1.heap.size + 1) 3 i0 (.int .i64 0) 1 8 Try.underlying24 hi hz0 hz1 hz2 rfl (by decide) (.slice ao2 k cp2) k ((moved n (es.take k)).map (Value.int .i64)) rfl (by exact O2.alloc _) ⟨wr.heap.size, 0, none⟩ 1 1 [.int .i64 (es[k] + n)] rfl rfl (by intro j u hj; match j, hj with | 0, hj => simp at hj; subst hj; simp [Addr.add]) (by intro u hu; simp at hu; subst hu; rfl) (by decide) (by unfold maxLen; omega) (by omega) (by simp; omega) (wr.heap.size + 1) (by simp) ?_; intro g cap w2 hown hgrow hat hlt2; obtain ⟨⟨_, q4⟩, _, r4⟩ := L.after (w2 := w2) (v := .slice ao2 k cp2) (own_ge O2) (undrewG hgrow))
              all_goals (have L2 := L.push2 (g := g) (cap := cap) (w2 := w2) (x := es[k] + n) (by rw [hlen]; exact hown) (by rw [hlen]; exact undrewG hgrow) (by rw [hlen]; exact hat))
              all_goals (rw [hlen, ← moved_snoc n es k hlt] at L2)
              all_goals (clear L hown hgrow hat O2)
              all_goals go_wp2
              all_goals go_roundw
              all_goals first
                | (case rel => exact ⟨_, _, _, _, _, _, _, _, _, _, _, _, _, _, _, _, _, _, _, _, ⟨k + 1, _, _, by omega, by go_num, L2⟩, rfl⟩)
                | (case measure => simp [intOf]; omega)
            · obtain rfl : k = es.length := by omega
              rw [List.take_length] at L
              obtain ⟨⟨r0, r1, r2, r3, r4⟩, g0, g1, g2, g3, g4⟩ := blk5 L.res
              rw [moved_len] at u3
              rw [hlen] at u4
              have o1 := L.own1
              have o2 := L.own2
              rw [moved_len] at o1 o2
              have hlo := L.lo
              have hbel := L.bel
              clear L hlen
              go_wp2
              refine bodyPost_ret (v := .agg #[.int .i64 (turnW W n), .int .i64 (F + n), .int .i64 (T + n), .slice ao zs.length cp, .slice ao2 es.length cp2])
                (by simp [results, Try.results32, go_sem, r0, r1, r2, r3, r4, turnW]) rfl ⟨_, _, rfl, Go.Joins.ownsRow_le (own_set5 (by omega) o1) (by omega), Go.Joins.ownsRow_le (own_set5 (by omega) o2) (by omega), below_set5 (by omega) hbel⟩
end Go.Proofs.Ytmchdclieejohaa
