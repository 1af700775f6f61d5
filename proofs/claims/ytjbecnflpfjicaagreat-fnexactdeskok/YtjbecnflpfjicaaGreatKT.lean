/- Desks copied. -/
import Derived.Test.YtjbecnflpfjicaaGreatKD
namespace Go.Proofs.YtjbecnflpfjicaaGreat
open Go.RowKit
/-- Nothing but one block turns. -/
structure Alt (g : Nat) (w w' : World) : Prop where
  os : w'.os = w.os
  tape : w'.tape = w.tape
  output : w'.output = w.output
  size : w'.heap.size = w.heap.size
  block : ∀ k, k ≠ g → w'.heap[k]? = w.heap[k]?
theorem Alt.refl (g : Nat) (w : World) : Alt g w w := ⟨rfl, rfl, rfl, rfl, fun _ _ => rfl⟩
theorem Alt.set {g : Nat} {w w' : World} (h : Alt g w w') (o : Nat) (u : Value) : Alt g w (w'.setCell ⟨g, o, none⟩ u) :=
  ⟨h.os, h.tape, h.output, by simp [h.size], fun k hk => (Below.heap_setCell _ _ _ _ (by intro e; exact hk (by simpa using e))).trans (h.block k hk)⟩
theorem Alt.to_below {B g : Nat} {w0 w w' : World} (h : Alt g w w') (hb : Below B w0 w) (hg : B ≤ g) : Below B w0 w' :=
  ⟨h.os.trans hb.os, h.tape.trans hb.tape, h.output.trans hb.output, by have := hb.size; rw [h.size]; exact this, fun k hk => (h.block k (by omega)).trans (hb.block k hk)⟩
theorem Alt.own {g B e sz n : Nat} {w w' : World} {v : Value} {xs : List Value} (a : Alt g w w') (h : w.ownsRow B e sz v n xs) (hB : g < B) : w'.ownsRow B e sz v n xs := by
  refine ⟨h.1, ?_⟩
  rcases h.2 with h2 | ⟨b, cap, cur, hv, hb, hh, r⟩
  · exact .inl h2
  · exact .inr ⟨b, cap, cur, hv, hb, (a.block b (by omega)).trans hh, r⟩
theorem Alt.trips {g b : Nat} {w w' : World} {ts : List TripV} (a : Alt g w w') (h : TripsOwn w b ts) (hB : g < b) : TripsOwn w' b ts := by
  obtain ⟨vs, h1, h2, h3⟩ := h
  refine ⟨vs, h1, a.own h2 hB, fun j hj => ?_⟩
  obtain ⟨q1, x, c, q2, q3⟩ := h3 j hj
  exact ⟨q1, x, c, q2, a.own q3 (by omega)⟩
theorem Alt.sid {g B : Nat} {w w' : World} {rv v : Value} {vs : List Value} {room : List Int} {rows : List (List Int)} (a : Alt g w w') (h : s18.SidO B w rv v vs room rows) (hB : g < B) : s18.SidO B w' rv v vs room rows :=
  h.keep (fun k hk => a.block k (by have := (h.blk k hk).1; omega))
/-- A desk that the call itself made. -/
structure DeskO (B : Nat) (w : World) (g1 g2 g3 g4 g5 : Nat) (es : List EdgeV) (ts : List TripV) (hs : List s14.BkV) (us : List Value) (room : List Int) (rows : List (List Int)) : Prop where
  net : OwnNet B w g1 es
  trips : TripsOwn w g2 ts
  bks : w.ownsRow B 82 4 (.slice (some ⟨g3, 0, none⟩) hs.length hs.length) hs.length (s14.flatBks hs)
  sid : s18.SidO B w (.slice (some ⟨g4, 0, none⟩) room.length room.length) (.slice (some ⟨g5, 0, none⟩) rows.length rows.length) us room rows
theorem DeskO.below {B : Nat} {w w' : World} {g1 g2 g3 g4 g5 : Nat} {es : List EdgeV} {ts : List TripV} {hs : List s14.BkV} {us : List Value} {room : List Int} {rows : List (List Int)} (h : DeskO B w g1 g2 g3 g4 g5 es ts hs us room rows) (hb : Below w.heap.size w w') : DeskO B w' g1 g2 g3 g4 g5 es ts hs us room rows :=
  ⟨own_keep h.net hb, h.trips.below hb, own_keep h.bks hb, h.sid.below hb⟩
theorem DeskO.read {B : Nat} {w : World} {g1 g2 g3 g4 g5 : Nat} {es : List EdgeV} {ts : List TripV} {hs : List s14.BkV} {us : List Value} {room : List Int} {rows : List (List Int)} (h : DeskO B w g1 g2 g3 g4 g5 es ts hs us room rows) :
    DeskR w (some ⟨g1, 0, none⟩) es (some ⟨g2, 0, none⟩) ts (some ⟨g3, 0, none⟩) hs (some ⟨g4, 0, none⟩) room (some ⟨g5, 0, none⟩) us rows := by
  obtain ⟨ra, rc, a, c, e1, e2, h1, h2, -⟩ := h.sid.arg
  simp only [Value.slice.injEq] at e1 e2
  obtain ⟨rfl, -, -⟩ := e1
  obtain ⟨rfl, -, -⟩ := e2
  exact ⟨Edges.own h.net, h.trips.read, s14.Bks.own h.bks, h1, h2⟩
set_option maxRecDepth 20000 in
set_option maxHeartbeats 3200000 in
theorem cToDesk (n : Int) (ea : Option Addr) (ec : Nat) (es : List EdgeV) (ta : Option Addr) (tc : Nat) (ts : List TripV) (S P : Int) (ha : Option Addr) (hc : Nat) (hs : List s14.BkV) (ra : Option Addr) (rc : Nat) (room : List Int) (wa : Option Addr) (wc : Nat) (vs : List Value) (rows : List (List Int)) (w : World) (h : DeskR w ea es ta ts ha hs ra room wa vs rows) (hS : DeskS es ts hs room rows) :
    Calls Tryz.prog 6 #[.agg #[.int .i64 n, .slice ea es.length ec, .slice ta ts.length tc, .int .i64 S, .int .i64 P, .slice ha hs.length hc, .slice ra room.length rc, .slice wa rows.length wc]] w fun e w' => ∃ g1 g2 g3 g4 g5 us, e = .returned (.agg #[.int .i64 n, .slice (some ⟨g1, 0, none⟩) es.length es.length, .slice (some ⟨g2, 0, none⟩) ts.length ts.length, .int .i64 S, .int .i64 P, .slice (some ⟨g3, 0, none⟩) hs.length hs.length, .slice (some ⟨g4, 0, none⟩) room.length room.length, .slice (some ⟨g5, 0, none⟩) rows.length rows.length]) ∧ DeskO w.heap.size w' g1 g2 g3 g4 g5 es ts hs us room rows ∧ Below w.heap.size w w' := by
  obtain ⟨s, hs0⟩ : ∃ s, w.heap.size = s := ⟨_, rfl⟩
  have K0 : (((w.alloc (.cells #[.int .i64 n, .slice ea es.length ec, .slice ta ts.length tc, .int .i64 S, .int .i64 P, .slice ha hs.length hc, .slice ra room.length rc, .slice wa rows.length wc] 34)).alloc (.cells #[.int .i64 0, .slice none 0 0, .slice none 0 0, .int .i64 0, .int .i64 0, .slice none 0 0, .slice none 0 0, .slice none 0 0] 46)).alloc (.cells #[.int .i64 0, .slice none 0 0, .slice none 0 0, .int .i64 0, .int .i64 0, .slice none 0 0, .slice none 0 0, .slice none 0 0] 46)).heap[s]? = some (.cells #[.int .i64 n, .slice ea es.length ec, .slice ta ts.length tc, .int .i64 S, .int .i64 P, .slice ha hs.length hc, .slice ra room.length rc, .slice wa rows.length wc] 34 (0, 0)) := pold _ (pold _ (pnew _ _ hs0.symm))
  have K1 : (((w.alloc (.cells #[.int .i64 n, .slice ea es.length ec, .slice ta ts.length tc, .int .i64 S, .int .i64 P, .slice ha hs.length hc, .slice ra room.length rc, .slice wa rows.length wc] 34)).alloc (.cells #[.int .i64 0, .slice none 0 0, .slice none 0 0, .int .i64 0, .int .i64 0, .slice none 0 0, .slice none 0 0, .slice none 0 0] 46)).alloc (.cells #[.int .i64 0, .slice none 0 0, .slice none 0 0, .int .i64 0, .int .i64 0, .slice none 0 0, .slice none 0 0, .slice none 0 0] 46)).heap[s + 1]? = some (.cells #[.int .i64 0, .slice none 0 0, .slice none 0 0, .int .i64 0, .int .i64 0, .slice none 0 0, .slice none 0 0, .slice none 0 0] 46 (0, 0)) := pold _ (pnew _ _ (by rw [psize]; omega))
  have K2 : (((w.alloc (.cells #[.int .i64 n, .slice ea es.length ec, .slice ta ts.length tc, .int .i64 S, .int .i64 P, .slice ha hs.length hc, .slice ra room.length rc, .slice wa rows.length wc] 34)).alloc (.cells #[.int .i64 0, .slice none 0 0, .slice none 0 0, .int .i64 0, .int .i64 0, .slice none 0 0, .slice none 0 0, .slice none 0 0] 46)).alloc (.cells #[.int .i64 0, .slice none 0 0, .slice none 0 0, .int .i64 0, .int .i64 0, .slice none 0 0, .slice none 0 0, .slice none 0 0] 46)).heap[s + 1 + 1]? = some (.cells #[.int .i64 0, .slice none 0 0, .slice none 0 0, .int .i64 0, .int .i64 0, .slice none 0 0, .slice none 0 0, .slice none 0 0] 46 (0, 0)) := pnew _ _ (by rw [psize, psize]; omega)
  have HB := btrans (btrans (balloc w (.cells #[.int .i64 n, .slice ea es.length ec, .slice ta ts.length tc, .int .i64 S, .int .i64 P, .slice ha hs.length hc, .slice ra room.length rc, .slice wa rows.length wc] 34)) (balloc _ (.cells #[.int .i64 0, .slice none 0 0, .slice none 0 0, .int .i64 0, .int .i64 0, .slice none 0 0, .slice none 0 0, .slice none 0 0] 46))) (balloc _ (.cells #[.int .i64 0, .slice none 0 0, .slice none 0 0, .int .i64 0, .int .i64 0, .slice none 0 0, .slice none 0 0, .slice none 0 0] 46))
  have hz : (((w.alloc (.cells #[.int .i64 n, .slice ea es.length ec, .slice ta ts.length tc, .int .i64 S, .int .i64 P, .slice ha hs.length hc, .slice ra room.length rc, .slice wa rows.length wc] 34)).alloc (.cells #[.int .i64 0, .slice none 0 0, .slice none 0 0, .int .i64 0, .int .i64 0, .slice none 0 0, .slice none 0 0, .slice none 0 0] 46)).alloc (.cells #[.int .i64 0, .slice none 0 0, .slice none 0 0, .int .i64 0, .int .i64 0, .slice none 0 0, .slice none 0 0, .slice none 0 0] 46)).heap.size = s + 1 + 1 + 1 := by rw [psize, psize, psize]; omega
  obtain ⟨⟨x0, x1, x2, x3, x4, x5, x6, x7⟩, -⟩ := blk8 K0
  go_enter Tryz.func6, Tryz.ntmps6
  go_wp2_with fail
  clear x0 x1 x2 x3 x4 x5 x6 x7

  generalize ((w.alloc (.cells #[.int .i64 n, .slice ea es.length ec, .slice ta ts.length tc, .int .i64 S, .int .i64 P, .slice ha hs.length hc, .slice ra room.length rc, .slice wa rows.length wc] 34)).alloc (.cells #[.int .i64 0, .slice none 0 0, .slice none 0 0, .int .i64 0, .int .i64 0, .slice none 0 0, .slice none 0 0, .slice none 0 0] 46)).alloc (.cells #[.int .i64 0, .slice none 0 0, .slice none 0 0, .int .i64 0, .int .i64 0, .slice none 0 0, .slice none 0 0, .slice none 0 0] 46) = W at *
  have hzW : s + 1 + 1 < W.heap.size := by omega
  clear hz
  refine (cToNet ea ec n es _ (h.es.below HB) hS.es).mono ?_
  rintro e w1 ⟨g1, rfl, O1, hb⟩
  have hzW2 : s + 1 + 1 < w1.heap.size := by have := hb.size; omega
  replace HB := btrans HB hb
  replace K0 := bkeep hb K0
  replace K1 := bkeep hb K1
  replace K2 := bkeep hb K2
  replace O1 : w1.ownsRow (s + 1 + 1 + 1) _ 4 _ _ _ := Go.Joins.ownsRow_le O1 (by omega)
  clear hb
  have A0 := Alt.refl (s + 1 + 1) w1
  have A := (((Alt.refl (s + 1 + 1) w1).set 0 (.int .i64 n)).set 1 (.slice (some ⟨g1, 0, none⟩) es.length es.length))
  clear A0
  have c0 : w1.cell? ⟨s + 1 + 1, 0, none⟩ = some (.int .i64 0) := Go.Joins.cell_of_block K2 0
  have f0 := frozen_of_row w1 (s + 1 + 1) 0 _ _ K2
  have c1 : w1.cell? ⟨s + 1 + 1, 1, none⟩ = some (.slice none 0 0) := Go.Joins.cell_of_block K2 1
  have f1 := frozen_of_row w1 (s + 1 + 1) 1 _ _ K2
  have K2a : (w1.setCell ⟨s + 1 + 1, 0, none⟩ (.int .i64 n)).heap[s + 1 + 1]? = some (.cells #[.int .i64 n, .slice none 0 0, .slice none 0 0, .int .i64 0, .int .i64 0, .slice none 0 0, .slice none 0 0, .slice none 0 0] 46 (0, 0)) := by rw [heap_setCell_same w1 _ 0 _ _ _ K2]; rfl
  have K2aa : ((w1.setCell ⟨s + 1 + 1, 0, none⟩ (.int .i64 n)).setCell ⟨s + 1 + 1, 1, none⟩ (.slice (some ⟨g1, 0, none⟩) es.length es.length)).heap[s + 1 + 1]? = some (.cells #[.int .i64 n, .slice (some ⟨g1, 0, none⟩) es.length es.length, .slice none 0 0, .int .i64 0, .int .i64 0, .slice none 0 0, .slice none 0 0, .slice none 0 0] 46 (0, 0)) := by rw [heap_setCell_same (w1.setCell ⟨s + 1 + 1, 0, none⟩ (.int .i64 n)) _ 1 _ _ _ K2a]; rfl
  have K0n := (A.block s (by omega)).trans K0
  have K1n := (A.block (s + 1) (by omega)).trans K1
  have HBn := A.to_below HB (by omega)
  replace O1 := A.own O1 (by omega)
  obtain ⟨⟨x0, x1, x2, x3, x4, x5, x6, x7⟩, -⟩ := blk8 K0n
  go_wp2_with fail
  clear x0 x1 x2 x3 x4 x5 x6 x7 c0 f0 c1 f1
  generalize hWn : ((w1.setCell ⟨s + 1 + 1, 0, none⟩ (.int .i64 n)).setCell ⟨s + 1 + 1, 1, none⟩ (.slice (some ⟨g1, 0, none⟩) es.length es.length)) = Wn at *
  have hzn : s + 1 + 1 < Wn.heap.size := by rw [A.size]; exact hzW2
  clear hWn A K0 K1 HB K2 K2a hzW hzW2
  obtain ⟨W, rfl⟩ : ∃ W, W = Wn := ⟨_, rfl⟩
  obtain ⟨K0, K1, K2, HB, hzW⟩ := And.intro K0n (And.intro K1n (And.intro K2aa (And.intro HBn hzn)))
  clear K0n K1n K2aa HBn hzn
  refine (cToTrips ta tc ts _ (h.ts.below HB) hS.ts).mono ?_
  rintro e w1 ⟨rfl, O2, hb⟩
  obtain ⟨g2, hg2⟩ : ∃ g2, W.heap.size = g2 := ⟨_, rfl⟩
  rw [hg2] at O2
  rw [hg2]
  have hl2 : s + 1 + 1 < g2 := by omega
  have hzW2 : s + 1 + 1 < w1.heap.size := by have := hb.size; omega
  replace HB := btrans HB hb
  replace K0 := bkeep hb K0
  replace K1 := bkeep hb K1
  replace K2 := bkeep hb K2
  replace O1 := own_keep O1 hb
  clear hb
  have A0 := Alt.refl (s + 1 + 1) w1
  have A := ((Alt.refl (s + 1 + 1) w1).set 2 (.slice (some ⟨g2, 0, none⟩) ts.length ts.length))
  clear A0
  have c2 : w1.cell? ⟨s + 1 + 1, 2, none⟩ = some (.slice none 0 0) := Go.Joins.cell_of_block K2 2
  have f2 := frozen_of_row w1 (s + 1 + 1) 2 _ _ K2
  have K2a : (w1.setCell ⟨s + 1 + 1, 2, none⟩ (.slice (some ⟨g2, 0, none⟩) ts.length ts.length)).heap[s + 1 + 1]? = some (.cells #[.int .i64 n, .slice (some ⟨g1, 0, none⟩) es.length es.length, .slice (some ⟨g2, 0, none⟩) ts.length ts.length, .int .i64 0, .int .i64 0, .slice none 0 0, .slice none 0 0, .slice none 0 0] 46 (0, 0)) := by rw [heap_setCell_same w1 _ 2 _ _ _ K2]; rfl
  have K0n := (A.block s (by omega)).trans K0
  have K1n := (A.block (s + 1) (by omega)).trans K1
  have HBn := A.to_below HB (by omega)
  replace O1 := A.own O1 (by omega)
  replace O2 := A.trips O2 (by omega)
  obtain ⟨⟨x0, x1, x2, x3, x4, x5, x6, x7⟩, -⟩ := blk8 K0n
  go_wp2_with fail
  clear x0 x1 x2 x3 x4 x5 x6 x7 c2 f2
  generalize hWn : (w1.setCell ⟨s + 1 + 1, 2, none⟩ (.slice (some ⟨g2, 0, none⟩) ts.length ts.length)) = Wn at *
  have hzn : s + 1 + 1 < Wn.heap.size := by rw [A.size]; exact hzW2
  clear hWn A K0 K1 HB K2  hzW hzW2 hg2
  obtain ⟨W, rfl⟩ : ∃ W, W = Wn := ⟨_, rfl⟩
  obtain ⟨K0, K1, K2, HB, hzW⟩ := And.intro K0n (And.intro K1n (And.intro K2a (And.intro HBn hzn)))
  clear K0n K1n K2a HBn hzn
  refine (s14.cToTr ha hc S P hs _ (h.hs.below HB) hS.hs).mono ?_
  rintro e w1 ⟨g3, rfl, O3, hb⟩
  have hzW2 : s + 1 + 1 < w1.heap.size := by have := hb.size; omega
  replace HB := btrans HB hb
  replace K0 := bkeep hb K0
  replace K1 := bkeep hb K1
  replace K2 := bkeep hb K2
  replace O1 := own_keep O1 hb
  replace O2 := O2.below hb
  replace O3 : w1.ownsRow (s + 1 + 1 + 1) _ 4 _ _ _ := Go.Joins.ownsRow_le O3 (by omega)
  clear hb
  have A0 := Alt.refl (s + 1 + 1) w1
  have A := ((((Alt.refl (s + 1 + 1) w1).set 3 (.int .i64 S)).set 4 (.int .i64 P)).set 5 (.slice (some ⟨g3, 0, none⟩) hs.length hs.length))
  clear A0
  have c3 : w1.cell? ⟨s + 1 + 1, 3, none⟩ = some (.int .i64 0) := Go.Joins.cell_of_block K2 3
  have f3 := frozen_of_row w1 (s + 1 + 1) 3 _ _ K2
  have c4 : w1.cell? ⟨s + 1 + 1, 4, none⟩ = some (.int .i64 0) := Go.Joins.cell_of_block K2 4
  have f4 := frozen_of_row w1 (s + 1 + 1) 4 _ _ K2
  have c5 : w1.cell? ⟨s + 1 + 1, 5, none⟩ = some (.slice none 0 0) := Go.Joins.cell_of_block K2 5
  have f5 := frozen_of_row w1 (s + 1 + 1) 5 _ _ K2
  have K2a : (w1.setCell ⟨s + 1 + 1, 3, none⟩ (.int .i64 S)).heap[s + 1 + 1]? = some (.cells #[.int .i64 n, .slice (some ⟨g1, 0, none⟩) es.length es.length, .slice (some ⟨g2, 0, none⟩) ts.length ts.length, .int .i64 S, .int .i64 0, .slice none 0 0, .slice none 0 0, .slice none 0 0] 46 (0, 0)) := by rw [heap_setCell_same w1 _ 3 _ _ _ K2]; rfl
  have K2aa : ((w1.setCell ⟨s + 1 + 1, 3, none⟩ (.int .i64 S)).setCell ⟨s + 1 + 1, 4, none⟩ (.int .i64 P)).heap[s + 1 + 1]? = some (.cells #[.int .i64 n, .slice (some ⟨g1, 0, none⟩) es.length es.length, .slice (some ⟨g2, 0, none⟩) ts.length ts.length, .int .i64 S, .int .i64 P, .slice none 0 0, .slice none 0 0, .slice none 0 0] 46 (0, 0)) := by rw [heap_setCell_same (w1.setCell ⟨s + 1 + 1, 3, none⟩ (.int .i64 S)) _ 4 _ _ _ K2a]; rfl
  have K2aaa : (((w1.setCell ⟨s + 1 + 1, 3, none⟩ (.int .i64 S)).setCell ⟨s + 1 + 1, 4, none⟩ (.int .i64 P)).setCell ⟨s + 1 + 1, 5, none⟩ (.slice (some ⟨g3, 0, none⟩) hs.length hs.length)).heap[s + 1 + 1]? = some (.cells #[.int .i64 n, .slice (some ⟨g1, 0, none⟩) es.length es.length, .slice (some ⟨g2, 0, none⟩) ts.length ts.length, .int .i64 S, .int .i64 P, .slice (some ⟨g3, 0, none⟩) hs.length hs.length, .slice none 0 0, .slice none 0 0] 46 (0, 0)) := by rw [heap_setCell_same ((w1.setCell ⟨s + 1 + 1, 3, none⟩ (.int .i64 S)).setCell ⟨s + 1 + 1, 4, none⟩ (.int .i64 P)) _ 5 _ _ _ K2aa]; rfl
  have K0n := (A.block s (by omega)).trans K0
  have K1n := (A.block (s + 1) (by omega)).trans K1
  have HBn := A.to_below HB (by omega)
  replace O1 := A.own O1 (by omega)
  replace O2 := A.trips O2 (by omega)
  replace O3 := A.own O3 (by omega)
  obtain ⟨⟨x0, x1, x2, x3, x4, x5, x6, x7⟩, -⟩ := blk8 K0n
  go_wp2_with fail
  clear x0 x1 x2 x3 x4 x5 x6 x7 c3 f3 c4 f4 c5 f5
  generalize hWn : (((w1.setCell ⟨s + 1 + 1, 3, none⟩ (.int .i64 S)).setCell ⟨s + 1 + 1, 4, none⟩ (.int .i64 P)).setCell ⟨s + 1 + 1, 5, none⟩ (.slice (some ⟨g3, 0, none⟩) hs.length hs.length)) = Wn at *
  have hzn : s + 1 + 1 < Wn.heap.size := by rw [A.size]; exact hzW2
  clear hWn A K0 K1 HB K2 K2a K2aa hzW hzW2
  obtain ⟨W, rfl⟩ : ∃ W, W = Wn := ⟨_, rfl⟩
  obtain ⟨K0, K1, K2, HB, hzW⟩ := And.intro K0n (And.intro K1n (And.intro K2aaa (And.intro HBn hzn)))
  clear K0n K1n K2aaa HBn hzn
  refine (s18.cToSid ra rc room wa wc vs rows _ (h.room.below HB) (h.rows.below HB) hS.room hS.rown hS.each).mono ?_
  rintro e w1 ⟨g4, g5, us, rfl, O4, hb⟩
  have hzW2 : s + 1 + 1 < w1.heap.size := by have := hb.size; omega
  replace HB := btrans HB hb
  replace K0 := bkeep hb K0
  replace K1 := bkeep hb K1
  replace K2 := bkeep hb K2
  replace O1 := own_keep O1 hb
  replace O2 := O2.below hb
  replace O3 := own_keep O3 hb
  replace O4 := O4.base (show s + 1 + 1 + 1 ≤ W.heap.size by omega)
  clear hb
  have A0 := Alt.refl (s + 1 + 1) w1
  have A := (((Alt.refl (s + 1 + 1) w1).set 6 (.slice (some ⟨g4, 0, none⟩) room.length room.length)).set 7 (.slice (some ⟨g5, 0, none⟩) rows.length rows.length))
  clear A0
  have c6 : w1.cell? ⟨s + 1 + 1, 6, none⟩ = some (.slice none 0 0) := Go.Joins.cell_of_block K2 6
  have f6 := frozen_of_row w1 (s + 1 + 1) 6 _ _ K2
  have c7 : w1.cell? ⟨s + 1 + 1, 7, none⟩ = some (.slice none 0 0) := Go.Joins.cell_of_block K2 7
  have f7 := frozen_of_row w1 (s + 1 + 1) 7 _ _ K2
  have K2a : (w1.setCell ⟨s + 1 + 1, 6, none⟩ (.slice (some ⟨g4, 0, none⟩) room.length room.length)).heap[s + 1 + 1]? = some (.cells #[.int .i64 n, .slice (some ⟨g1, 0, none⟩) es.length es.length, .slice (some ⟨g2, 0, none⟩) ts.length ts.length, .int .i64 S, .int .i64 P, .slice (some ⟨g3, 0, none⟩) hs.length hs.length, .slice (some ⟨g4, 0, none⟩) room.length room.length, .slice none 0 0] 46 (0, 0)) := by rw [heap_setCell_same w1 _ 6 _ _ _ K2]; rfl
  have K2aa : ((w1.setCell ⟨s + 1 + 1, 6, none⟩ (.slice (some ⟨g4, 0, none⟩) room.length room.length)).setCell ⟨s + 1 + 1, 7, none⟩ (.slice (some ⟨g5, 0, none⟩) rows.length rows.length)).heap[s + 1 + 1]? = some (.cells #[.int .i64 n, .slice (some ⟨g1, 0, none⟩) es.length es.length, .slice (some ⟨g2, 0, none⟩) ts.length ts.length, .int .i64 S, .int .i64 P, .slice (some ⟨g3, 0, none⟩) hs.length hs.length, .slice (some ⟨g4, 0, none⟩) room.length room.length, .slice (some ⟨g5, 0, none⟩) rows.length rows.length] 46 (0, 0)) := by rw [heap_setCell_same (w1.setCell ⟨s + 1 + 1, 6, none⟩ (.slice (some ⟨g4, 0, none⟩) room.length room.length)) _ 7 _ _ _ K2a]; rfl
  have K0n := (A.block s (by omega)).trans K0
  have K1n := (A.block (s + 1) (by omega)).trans K1
  have HBn := A.to_below HB (by omega)
  replace O1 := A.own O1 (by omega)
  replace O2 := A.trips O2 (by omega)
  replace O3 := A.own O3 (by omega)
  replace O4 := A.sid O4 (by omega)
  have R := Alt.refl (s + 1) ((w1.setCell ⟨s + 1 + 1, 6, none⟩ (.slice (some ⟨g4, 0, none⟩) room.length room.length)).setCell ⟨s + 1 + 1, 7, none⟩ (.slice (some ⟨g5, 0, none⟩) rows.length rows.length))
  obtain ⟨⟨y0, y1, y2, y3, y4, y5, y6, y7⟩, -⟩ := blk8 K2aa
  obtain ⟨⟨z0, z1, z2, z3, z4, z5, z6, z7⟩, -⟩ := blk8 K1n
  have e0 := frozen_of_row _ (s + 1) 0 _ _ K1n
  have e1 := frozen_of_row _ (s + 1) 1 _ _ K1n
  have e2 := frozen_of_row _ (s + 1) 2 _ _ K1n
  have e3 := frozen_of_row _ (s + 1) 3 _ _ K1n
  have e4 := frozen_of_row _ (s + 1) 4 _ _ K1n
  have e5 := frozen_of_row _ (s + 1) 5 _ _ K1n
  have e6 := frozen_of_row _ (s + 1) 6 _ _ K1n
  have e7 := frozen_of_row _ (s + 1) 7 _ _ K1n
  go_wp2_with fail
  have R2 := ((((((((R.set 0 (.int .i64 n)).set 1 (.slice (some ⟨g1, 0, none⟩) es.length es.length)).set 2 (.slice (some ⟨g2, 0, none⟩) ts.length ts.length)).set 3 (.int .i64 S)).set 4 (.int .i64 P)).set 5 (.slice (some ⟨g3, 0, none⟩) hs.length hs.length)).set 6 (.slice (some ⟨g4, 0, none⟩) room.length room.length)).set 7 (.slice (some ⟨g5, 0, none⟩) rows.length rows.length))
  have q0 : (((w1.setCell ⟨s + 1 + 1, 6, none⟩ (.slice (some ⟨g4, 0, none⟩) room.length room.length)).setCell ⟨s + 1 + 1, 7, none⟩ (.slice (some ⟨g5, 0, none⟩) rows.length rows.length)).setCell ⟨s + 1, 0, none⟩ (.int .i64 n)).heap[s + 1]? = some (.cells #[.int .i64 n, .slice none 0 0, .slice none 0 0, .int .i64 0, .int .i64 0, .slice none 0 0, .slice none 0 0, .slice none 0 0] 46 (0, 0)) := by rw [heap_setCell_same _ _ 0 _ _ _ K1n]; rfl
  have q1 : ((((w1.setCell ⟨s + 1 + 1, 6, none⟩ (.slice (some ⟨g4, 0, none⟩) room.length room.length)).setCell ⟨s + 1 + 1, 7, none⟩ (.slice (some ⟨g5, 0, none⟩) rows.length rows.length)).setCell ⟨s + 1, 0, none⟩ (.int .i64 n)).setCell ⟨s + 1, 1, none⟩ (.slice (some ⟨g1, 0, none⟩) es.length es.length)).heap[s + 1]? = some (.cells #[.int .i64 n, .slice (some ⟨g1, 0, none⟩) es.length es.length, .slice none 0 0, .int .i64 0, .int .i64 0, .slice none 0 0, .slice none 0 0, .slice none 0 0] 46 (0, 0)) := by rw [heap_setCell_same _ _ 1 _ _ _ q0]; rfl
  have q2 : (((((w1.setCell ⟨s + 1 + 1, 6, none⟩ (.slice (some ⟨g4, 0, none⟩) room.length room.length)).setCell ⟨s + 1 + 1, 7, none⟩ (.slice (some ⟨g5, 0, none⟩) rows.length rows.length)).setCell ⟨s + 1, 0, none⟩ (.int .i64 n)).setCell ⟨s + 1, 1, none⟩ (.slice (some ⟨g1, 0, none⟩) es.length es.length)).setCell ⟨s + 1, 2, none⟩ (.slice (some ⟨g2, 0, none⟩) ts.length ts.length)).heap[s + 1]? = some (.cells #[.int .i64 n, .slice (some ⟨g1, 0, none⟩) es.length es.length, .slice (some ⟨g2, 0, none⟩) ts.length ts.length, .int .i64 0, .int .i64 0, .slice none 0 0, .slice none 0 0, .slice none 0 0] 46 (0, 0)) := by rw [heap_setCell_same _ _ 2 _ _ _ q1]; rfl
  have q3 : ((((((w1.setCell ⟨s + 1 + 1, 6, none⟩ (.slice (some ⟨g4, 0, none⟩) room.length room.length)).setCell ⟨s + 1 + 1, 7, none⟩ (.slice (some ⟨g5, 0, none⟩) rows.length rows.length)).setCell ⟨s + 1, 0, none⟩ (.int .i64 n)).setCell ⟨s + 1, 1, none⟩ (.slice (some ⟨g1, 0, none⟩) es.length es.length)).setCell ⟨s + 1, 2, none⟩ (.slice (some ⟨g2, 0, none⟩) ts.length ts.length)).setCell ⟨s + 1, 3, none⟩ (.int .i64 S)).heap[s + 1]? = some (.cells #[.int .i64 n, .slice (some ⟨g1, 0, none⟩) es.length es.length, .slice (some ⟨g2, 0, none⟩) ts.length ts.length, .int .i64 S, .int .i64 0, .slice none 0 0, .slice none 0 0, .slice none 0 0] 46 (0, 0)) := by rw [heap_setCell_same _ _ 3 _ _ _ q2]; rfl
  have q4 : (((((((w1.setCell ⟨s + 1 + 1, 6, none⟩ (.slice (some ⟨g4, 0, none⟩) room.length room.length)).setCell ⟨s + 1 + 1, 7, none⟩ (.slice (some ⟨g5, 0, none⟩) rows.length rows.length)).setCell ⟨s + 1, 0, none⟩ (.int .i64 n)).setCell ⟨s + 1, 1, none⟩ (.slice (some ⟨g1, 0, none⟩) es.length es.length)).setCell ⟨s + 1, 2, none⟩ (.slice (some ⟨g2, 0, none⟩) ts.length ts.length)).setCell ⟨s + 1, 3, none⟩ (.int .i64 S)).setCell ⟨s + 1, 4, none⟩ (.int .i64 P)).heap[s + 1]? = some (.cells #[.int .i64 n, .slice (some ⟨g1, 0, none⟩) es.length es.length, .slice (some ⟨g2, 0, none⟩) ts.length ts.length, .int .i64 S, .int .i64 P, .slice none 0 0, .slice none 0 0, .slice none 0 0] 46 (0, 0)) := by rw [heap_setCell_same _ _ 4 _ _ _ q3]; rfl
  have q5 : ((((((((w1.setCell ⟨s + 1 + 1, 6, none⟩ (.slice (some ⟨g4, 0, none⟩) room.length room.length)).setCell ⟨s + 1 + 1, 7, none⟩ (.slice (some ⟨g5, 0, none⟩) rows.length rows.length)).setCell ⟨s + 1, 0, none⟩ (.int .i64 n)).setCell ⟨s + 1, 1, none⟩ (.slice (some ⟨g1, 0, none⟩) es.length es.length)).setCell ⟨s + 1, 2, none⟩ (.slice (some ⟨g2, 0, none⟩) ts.length ts.length)).setCell ⟨s + 1, 3, none⟩ (.int .i64 S)).setCell ⟨s + 1, 4, none⟩ (.int .i64 P)).setCell ⟨s + 1, 5, none⟩ (.slice (some ⟨g3, 0, none⟩) hs.length hs.length)).heap[s + 1]? = some (.cells #[.int .i64 n, .slice (some ⟨g1, 0, none⟩) es.length es.length, .slice (some ⟨g2, 0, none⟩) ts.length ts.length, .int .i64 S, .int .i64 P, .slice (some ⟨g3, 0, none⟩) hs.length hs.length, .slice none 0 0, .slice none 0 0] 46 (0, 0)) := by rw [heap_setCell_same _ _ 5 _ _ _ q4]; rfl
  have q6 : (((((((((w1.setCell ⟨s + 1 + 1, 6, none⟩ (.slice (some ⟨g4, 0, none⟩) room.length room.length)).setCell ⟨s + 1 + 1, 7, none⟩ (.slice (some ⟨g5, 0, none⟩) rows.length rows.length)).setCell ⟨s + 1, 0, none⟩ (.int .i64 n)).setCell ⟨s + 1, 1, none⟩ (.slice (some ⟨g1, 0, none⟩) es.length es.length)).setCell ⟨s + 1, 2, none⟩ (.slice (some ⟨g2, 0, none⟩) ts.length ts.length)).setCell ⟨s + 1, 3, none⟩ (.int .i64 S)).setCell ⟨s + 1, 4, none⟩ (.int .i64 P)).setCell ⟨s + 1, 5, none⟩ (.slice (some ⟨g3, 0, none⟩) hs.length hs.length)).setCell ⟨s + 1, 6, none⟩ (.slice (some ⟨g4, 0, none⟩) room.length room.length)).heap[s + 1]? = some (.cells #[.int .i64 n, .slice (some ⟨g1, 0, none⟩) es.length es.length, .slice (some ⟨g2, 0, none⟩) ts.length ts.length, .int .i64 S, .int .i64 P, .slice (some ⟨g3, 0, none⟩) hs.length hs.length, .slice (some ⟨g4, 0, none⟩) room.length room.length, .slice none 0 0] 46 (0, 0)) := by rw [heap_setCell_same _ _ 6 _ _ _ q5]; rfl
  have q7 : ((((((((((w1.setCell ⟨s + 1 + 1, 6, none⟩ (.slice (some ⟨g4, 0, none⟩) room.length room.length)).setCell ⟨s + 1 + 1, 7, none⟩ (.slice (some ⟨g5, 0, none⟩) rows.length rows.length)).setCell ⟨s + 1, 0, none⟩ (.int .i64 n)).setCell ⟨s + 1, 1, none⟩ (.slice (some ⟨g1, 0, none⟩) es.length es.length)).setCell ⟨s + 1, 2, none⟩ (.slice (some ⟨g2, 0, none⟩) ts.length ts.length)).setCell ⟨s + 1, 3, none⟩ (.int .i64 S)).setCell ⟨s + 1, 4, none⟩ (.int .i64 P)).setCell ⟨s + 1, 5, none⟩ (.slice (some ⟨g3, 0, none⟩) hs.length hs.length)).setCell ⟨s + 1, 6, none⟩ (.slice (some ⟨g4, 0, none⟩) room.length room.length)).setCell ⟨s + 1, 7, none⟩ (.slice (some ⟨g5, 0, none⟩) rows.length rows.length)).heap[s + 1]? = some (.cells #[.int .i64 n, .slice (some ⟨g1, 0, none⟩) es.length es.length, .slice (some ⟨g2, 0, none⟩) ts.length ts.length, .int .i64 S, .int .i64 P, .slice (some ⟨g3, 0, none⟩) hs.length hs.length, .slice (some ⟨g4, 0, none⟩) room.length room.length, .slice (some ⟨g5, 0, none⟩) rows.length rows.length] 46 (0, 0)) := by rw [heap_setCell_same _ _ 7 _ _ _ q6]; rfl
  have HB2 := R2.to_below HBn (by omega)
  replace O1 := R2.own O1 (by omega)
  replace O2 := R2.trips O2 (by omega)
  replace O3 := R2.own O3 (by omega)
  replace O4 := R2.sid O4 (by omega)
  refine bodyPost_ret (v := .agg #[.int .i64 n, .slice (some ⟨g1, 0, none⟩) es.length es.length, .slice (some ⟨g2, 0, none⟩) ts.length ts.length, .int .i64 S, .int .i64 P, .slice (some ⟨g3, 0, none⟩) hs.length hs.length, .slice (some ⟨g4, 0, none⟩) room.length room.length, .slice (some ⟨g5, 0, none⟩) rows.length rows.length]) (results_cell_row Tryz.results6 _ _ (s + 1) _ _ _ _ rfl q7 Tryz.underlying46 rfl (by kernel_rfl)) rfl ?_
  refine ⟨g1, g2, g3, g4, g5, us, rfl, ⟨Go.Joins.ownsRow_le O1 (by omega), O2, Go.Joins.ownsRow_le O3 (by omega), O4.base (by omega)⟩, ?_⟩
  exact HB2
end Go.Proofs.YtjbecnflpfjicaaGreat
