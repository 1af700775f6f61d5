/- Desks. -/
import Derived.Test.YtjbecnflpfjicaaGreatOB
import Derived.Test.YtjbecnflpfjicaaGreatQ
import Derived.Test.YtjbecnflpfjicaaGreatZA
import Derived.Test.YtjbecnflpfjicaaGreatNC
import Derived.Test.YtjbecnflpfjicaaGreats14TK
import Derived.Test.YtjbecnflpfjicaaGreats18SS
import Derived.Test.YtjbecnflpfjicaaGreats18LM
namespace Go.Proofs.YtjbecnflpfjicaaGreat
open Go.RowKit
theorem bkeep {w w' : World} {g : Nat} {o : Obj} (hb : Below w.heap.size w w') (h : w.heap[g]? = some o) : w'.heap[g]? = some o := (hb.block g (lt_of_block h)).trans h
theorem psize (w : World) (o : Obj) : (w.alloc o).heap.size = w.heap.size + 1 := by show (w.heap.push o).size = _; simp
theorem pold {w : World} (o : Obj) {k : Nat} {x : Obj} (h : w.heap[k]? = some x) : (w.alloc o).heap[k]? = some x := by
  have := lt_of_block h
  rw [heap_alloc_old _ _ this]; exact h
theorem pnew (w : World) (o : Obj) {k : Nat} (h : k = w.heap.size) : (w.alloc o).heap[k]? = some o := by subst h; exact heap_alloc_new w o
theorem blk8 {w : World} {g : Nat} {c0 c1 c2 c3 c4 c5 c6 c7 : Value} {t : TypeId} (h : w.heap[g]? = some (.cells #[c0, c1, c2, c3, c4, c5, c6, c7] t (0, 0))) :
    (w.cell? ⟨g, 0, none⟩ = some c0 ∧ w.cell? ⟨g, 1, none⟩ = some c1 ∧ w.cell? ⟨g, 2, none⟩ = some c2 ∧ w.cell? ⟨g, 3, none⟩ = some c3 ∧ w.cell? ⟨g, 4, none⟩ = some c4 ∧ w.cell? ⟨g, 5, none⟩ = some c5 ∧ w.cell? ⟨g, 6, none⟩ = some c6 ∧ w.cell? ⟨g, 7, none⟩ = some c7) ∧ True :=
  ⟨⟨Go.Joins.cell_of_block h 0, Go.Joins.cell_of_block h 1, Go.Joins.cell_of_block h 2, Go.Joins.cell_of_block h 3, Go.Joins.cell_of_block h 4, Go.Joins.cell_of_block h 5, Go.Joins.cell_of_block h 6, Go.Joins.cell_of_block h 7⟩, trivial⟩
/-- A desk whose lists can be read. -/
structure DeskR (w : World) (ea : Option Addr) (es : List EdgeV) (ta : Option Addr) (ts : List TripV) (ha : Option Addr) (hs : List s14.BkV) (ra : Option Addr) (room : List Int) (wa : Option Addr) (vs : List Value) (rows : List (List Int)) : Prop where
  es : Edges w ea es
  ts : Trips w ta ts
  hs : s14.Bks w ha hs
  room : s18.Ints w ra room
  rows : s18.RowsW w wa vs rows
theorem DeskR.below {w w' : World} {ea : Option Addr} {es : List EdgeV} {ta : Option Addr} {ts : List TripV} {ha : Option Addr} {hs : List s14.BkV} {ra : Option Addr} {room : List Int} {wa : Option Addr} {vs : List Value} {rows : List (List Int)} (h : DeskR w ea es ta ts ha hs ra room wa vs rows) (hb : Below w.heap.size w w') : DeskR w' ea es ta ts ha hs ra room wa vs rows :=
  ⟨h.es.below hb, h.ts.below hb, h.hs.below hb, h.room.below hb, h.rows.below hb⟩
/-- No list of it is longer than the law's own measure. -/
structure DeskS (es : List EdgeV) (ts : List TripV) (hs : List s14.BkV) (room : List Int) (rows : List (List Int)) : Prop where
  es : es.length ≤ 1048576
  ts : Small ts
  hs : hs.length ≤ 1048576
  room : room.length ≤ 1048576
  rown : rows.length ≤ 1048576
  each : ∀ i, i < rows.length → (s18.rwA rows i).length ≤ 1048576
/-- A right desk. -/
def deskP (n : Int) (es : List EdgeV) (ts : List TripV) (S P : Int) (hs : List s14.BkV) (room : List Int) (rows : List (List Int)) : Prop := netB n es = true ∧ Table ts ∧ s14.trainB S P hs = true ∧ s18.sidB room rows = true
set_option maxRecDepth 20000 in
set_option maxHeartbeats 1600000 in
theorem cDeskI (n : Int) (ea : Option Addr) (ec : Nat) (es : List EdgeV) (ta : Option Addr) (tc : Nat) (ts : List TripV) (S P : Int) (ha : Option Addr) (hc : Nat) (hs : List s14.BkV) (ra : Option Addr) (rc : Nat) (room : List Int) (wa : Option Addr) (wc : Nat) (vs : List Value) (rows : List (List Int)) (w : World) (h : DeskR w ea es ta ts ha hs ra room wa vs rows) (hS : DeskS es ts hs room rows) :
    Calls Tryz.prog 7 #[.agg #[.int .i64 n, .slice ea es.length ec, .slice ta ts.length tc, .int .i64 S, .int .i64 P, .slice ha hs.length hc, .slice ra room.length rc, .slice wa rows.length wc]] w (AnsIff w (deskP n es ts S P hs room rows)) := by
  have HB := balloc w (.cells #[.int .i64 n, .slice ea es.length ec, .slice ta ts.length tc, .int .i64 S, .int .i64 P, .slice ha hs.length hc, .slice ra room.length rc, .slice wa rows.length wc] 46)
  have X := heap_alloc_new w (.cells #[.int .i64 n, .slice ea es.length ec, .slice ta ts.length tc, .int .i64 S, .int .i64 P, .slice ha hs.length hc, .slice ra room.length rc, .slice wa rows.length wc] 46)
  obtain ⟨⟨x0, x1, x2, x3, x4, x5, x6, x7⟩, -⟩ := blk8 X
  go_enter Tryz.func7, Tryz.ntmps7
  go_wp2_with fail
  clear x0 x1 x2 x3 x4 x5 x6 x7
  refine (cNetI ea ec n es _ (h.es.below HB) hS.es).mono ?_
  rintro e w1 ⟨rfl, hb⟩
  replace HB := btrans HB hb
  replace X := bkeep hb X
  clear hb
  cases hN : netB n es
  · have hno : Hid (¬ deskP n es ts S P hs room rows) := hide (fun h => by have := h.1; rw [hN] at this; cases this)
    clear h hN hS
    go_wp2
    go_ret
    exact AnsIff.no hno.out HB
  replace hN := hide hN
  obtain ⟨⟨x0, x1, x2, x3, x4, x5, x6, x7⟩, -⟩ := blk8 X
  go_wp2_with fail
  clear x0 x1 x2 x3 x4 x5 x6 x7
  refine (cTableI ta tc ts _ (h.ts.below HB) hS.ts).mono ?_
  rintro e w2 ⟨r, rfl, hr, hb⟩
  replace HB := btrans HB hb
  replace X := bkeep hb X
  clear hb
  cases r
  · have hno : Hid (¬ deskP n es ts S P hs room rows) := hide (fun h => by have := hr.2 h.2.1; cases this)
    clear h hr hS
    go_wp2
    go_ret
    exact AnsIff.no hno.out HB
  have hT := hide (hr.1 rfl)
  clear hr
  obtain ⟨⟨x0, x1, x2, x3, x4, x5, x6, x7⟩, -⟩ := blk8 X
  go_wp2_with fail
  clear x0 x1 x2 x3 x4 x5 x6 x7
  refine (s14.cTrainI S P ha hc hs _ (h.hs.below HB) hS.hs).mono ?_
  rintro e w3 ⟨rfl, hb⟩
  replace HB := btrans HB hb
  replace X := bkeep hb X
  clear hb
  cases hQ : s14.trainB S P hs
  · have hno : Hid (¬ deskP n es ts S P hs room rows) := hide (fun h => by have := h.2.2.1; rw [hQ] at this; cases this)
    clear h hQ hS
    go_wp2
    go_ret
    exact AnsIff.no hno.out HB
  replace hQ := hide hQ
  obtain ⟨⟨x0, x1, x2, x3, x4, x5, x6, x7⟩, -⟩ := blk8 X
  go_wp2_with fail
  clear x0 x1 x2 x3 x4 x5 x6 x7
  refine (s18.cSidI ra rc room wa wc vs rows _ (h.room.below HB) (h.rows.below HB) hS.each).mono ?_
  rintro e w4 ⟨rfl, hb⟩
  replace HB := btrans HB hb
  clear hb X
  cases hY : s18.sidB room rows
  · have hno : Hid (¬ deskP n es ts S P hs room rows) := hide (fun h => by have := h.2.2.2; rw [hY] at this; cases this)
    clear h hY hS
    go_wp2
    go_ret
    exact AnsIff.no hno.out HB
  · have hyes : Hid (deskP n es ts S P hs room rows) := hide ⟨hN.out, hT.out, hQ.out, hY⟩
    clear h hY hS
    go_wp2
    go_ret
    exact AnsIff.yes hyes.out HB
set_option maxRecDepth 20000 in
set_option maxHeartbeats 1600000 in
theorem cDeskS (n : Int) (ea : Option Addr) (ec : Nat) (es : List EdgeV) (ta : Option Addr) (tc : Nat) (ts : List TripV) (S P : Int) (ha : Option Addr) (hc : Nat) (hs : List s14.BkV) (ra : Option Addr) (rc : Nat) (room : List Int) (wa : Option Addr) (wc : Nat) (vs : List Value) (rows : List (List Int)) (w : World) (h : DeskR w ea es ta ts ha hs ra room wa vs rows) (hS : DeskS es ts hs room rows) :
    Calls Tryz.prog 5 #[.agg #[.int .i64 n, .slice ea es.length ec, .slice ta ts.length tc, .int .i64 S, .int .i64 P, .slice ha hs.length hc, .slice ra room.length rc, .slice wa rows.length wc]] w (AnsIff w (deskP n es ts S P hs room rows)) := by
  have HB := balloc w (.cells #[.int .i64 n, .slice ea es.length ec, .slice ta ts.length tc, .int .i64 S, .int .i64 P, .slice ha hs.length hc, .slice ra room.length rc, .slice wa rows.length wc] 46)
  have X := heap_alloc_new w (.cells #[.int .i64 n, .slice ea es.length ec, .slice ta ts.length tc, .int .i64 S, .int .i64 P, .slice ha hs.length hc, .slice ra room.length rc, .slice wa rows.length wc] 46)
  obtain ⟨⟨x0, x1, x2, x3, x4, x5, x6, x7⟩, -⟩ := blk8 X
  go_enter Tryz.func5, Tryz.ntmps5
  go_wp2_with fail
  clear x0 x1 x2 x3 x4 x5 x6 x7
  refine (cNetS ea ec n es _ (h.es.below HB) hS.es).mono ?_
  rintro e w1 ⟨rfl, hb⟩
  replace HB := btrans HB hb
  replace X := bkeep hb X
  clear hb
  cases hN : netB n es
  · have hno : Hid (¬ deskP n es ts S P hs room rows) := hide (fun h => by have := h.1; rw [hN] at this; cases this)
    clear h hN hS
    go_wp2
    go_ret
    exact AnsIff.no hno.out HB
  replace hN := hide hN
  obtain ⟨⟨x0, x1, x2, x3, x4, x5, x6, x7⟩, -⟩ := blk8 X
  go_wp2_with fail
  clear x0 x1 x2 x3 x4 x5 x6 x7
  refine (cTableS ta tc ts _ (h.ts.below HB) hS.ts).mono ?_
  rintro e w2 ⟨r, rfl, hr, hb⟩
  replace HB := btrans HB hb
  replace X := bkeep hb X
  clear hb
  cases r
  · have hno : Hid (¬ deskP n es ts S P hs room rows) := hide (fun h => by have := hr.2 h.2.1; cases this)
    clear h hr hS
    go_wp2
    go_ret
    exact AnsIff.no hno.out HB
  have hT := hide (hr.1 rfl)
  clear hr
  obtain ⟨⟨x0, x1, x2, x3, x4, x5, x6, x7⟩, -⟩ := blk8 X
  go_wp2_with fail
  clear x0 x1 x2 x3 x4 x5 x6 x7
  refine (s14.cTrainS S P ha hc hs _ (h.hs.below HB) hS.hs).mono ?_
  rintro e w3 ⟨rfl, hb⟩
  replace HB := btrans HB hb
  replace X := bkeep hb X
  clear hb
  cases hQ : s14.trainB S P hs
  · have hno : Hid (¬ deskP n es ts S P hs room rows) := hide (fun h => by have := h.2.2.1; rw [hQ] at this; cases this)
    clear h hQ hS
    go_wp2
    go_ret
    exact AnsIff.no hno.out HB
  replace hQ := hide hQ
  obtain ⟨⟨x0, x1, x2, x3, x4, x5, x6, x7⟩, -⟩ := blk8 X
  go_wp2_with fail
  clear x0 x1 x2 x3 x4 x5 x6 x7
  refine (s18.cSidS ra rc room wa wc vs rows _ (h.room.below HB) (h.rows.below HB) hS.each).mono ?_
  rintro e w4 ⟨rfl, hb⟩
  replace HB := btrans HB hb
  clear hb X
  cases hY : s18.sidB room rows
  · have hno : Hid (¬ deskP n es ts S P hs room rows) := hide (fun h => by have := h.2.2.2; rw [hY] at this; cases this)
    clear h hY hS
    go_wp2
    go_ret
    exact AnsIff.no hno.out HB
  · have hyes : Hid (deskP n es ts S P hs room rows) := hide ⟨hN.out, hT.out, hQ.out, hY⟩
    clear h hY hS
    go_wp2
    go_ret
    exact AnsIff.yes hyes.out HB
end Go.Proofs.YtjbecnflpfjicaaGreat
