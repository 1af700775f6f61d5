/- The model: a train as it is, and one with a booking put in or taken out. -/
import Derived.Test.YtgnlcehpajbnoaaMV
import Derived.Deep.RegionHeld3
import Derived.Deep.AppendLies
namespace Go.Proofs.Ytgnlcehpajbnoaa
open Go.RowKit Go.Lib
/-- A train that is put together in block q. -/
structure OutR (B q : Nat) (S P : Int) (w : World) (v : Value) (ms : List BkV) : Prop where
  out : w.heap[q]? = some (.cells #[.int .i64 S, .int .i64 P, v] 26 (0, 0))
  own : w.ownsRow B 78 4 v ms.length (flatBks ms)
theorem OutR.below {B q : Nat} {S P : Int} {w w1 : World} {v : Value} {ms : List BkV} (h : OutR B q S P w v ms) (hb : Below w.heap.size w w1) : OutR B q S P w1 v ms := ⟨blk_keep hb h.out, own_keep h.own hb⟩
theorem OutR.push {B q : Nat} {S P : Int} {w w2 : World} {v v2 : Value} {ms : List BkV} {x : BkV} (h : OutR B q S P w v ms) (ho : w2.ownsRow B 78 4 v2 (ms.length + 1) (flatBks ms ++ x.vs)) (hg : w.grownBy w2 v.ownBlock) :
    OutR B q S P (w2.setCell ⟨q, 2, none⟩ v2) v2 (ms ++ [x]) ∧ w2.heap[q]? = some (.cells #[.int .i64 S, .int .i64 P, v] 26 (0, 0)) := by
  have hq := blk_app h.own hg h.out (by decide)
  refine ⟨⟨blk_set (i := 2) (v := v2) hq, ?_⟩, hq⟩
  have e : flatBks (ms ++ [x]) = flatBks ms ++ x.vs := by rw [flatBks_app]; simp [flatBks]
  rw [e, List.length_append]
  refine own_set ho (fun k hk => ?_)
  rcases ho.2 with ⟨rfl, _⟩ | ⟨g', cap', cur, rfl, _, hh, _⟩
  · simp [Value.ownBlock] at hk
  · simp only [Value.ownBlock, Option.some.injEq] at hk
    rintro rfl
    subst hk
    rw [hq] at hh
    simp at hh
theorem out_below {B q : Nat} {W w w2 : World} {v v2 : Value} {n : Nat} {xs : List Value} (hb : Below B W w) (ho : w.ownsRow B 78 4 v n xs) (hB : B ≤ W.heap.size) (hg : w.grownBy w2 v.ownBlock) (hq : B ≤ q) : Below B W (w2.setCell ⟨q, 2, none⟩ v2) :=
  below_set hq ⟨hg.os.trans hb.os, hg.tape.trans hb.tape, hg.output.trans hb.output, Nat.le_trans hb.size hg.size, fun k hk => (hg.block k (by have := hb.size; omega) (fun e => by have := own_from ho (Nat.le_refl _) k e.symm; omega)).trans (hb.block k hk)⟩
/-- A train told alone. -/
def AnsR (w : World) (S P : Int) (hs : List BkV) (e : Ending) (w' : World) : Prop :=
  ∃ v, e = .returned (.agg #[.int .i64 S, .int .i64 P, v]) ∧ w'.ownsRow w.heap.size 78 4 v hs.length (flatBks hs) ∧ Below w.heap.size w w'
theorem blocks3b (w : World) (o1 o2 o3 : Obj) : (((w.alloc o1).alloc o2).alloc o3).heap.size = w.heap.size + 1 + 1 + 1 := by simp
theorem out_fin {B q r : Nat} {S P : Int} {w w2 : World} {v : Value} {ms : List BkV} (h : OutR B q S P w2 v ms) (hB : w.heap.size ≤ B) (hr : w.heap.size ≤ r) (hrB : r < B) (hb : Below w.heap.size w w2) :
    (((w2.setCell ⟨r, 0, none⟩ (.int .i64 S)).setCell ⟨r, 1, none⟩ (.int .i64 P)).setCell ⟨r, 2, none⟩ v).ownsRow w.heap.size 78 4 v ms.length (flatBks ms) ∧ Below w.heap.size w (((w2.setCell ⟨r, 0, none⟩ (.int .i64 S)).setCell ⟨r, 1, none⟩ (.int .i64 P)).setCell ⟨r, 2, none⟩ v) := by
  have hne : ∀ k, v.ownBlock = some k → k ≠ r := fun k hk => by have := own_from h.own (Nat.le_refl _) k hk; omega
  exact ⟨own_set (own_set (own_set (Go.Joins.ownsRow_le h.own hB) hne) hne) hne, below_set hr (below_set hr (below_set hr hb))⟩

set_option maxRecDepth 20000 in
set_option maxHeartbeats 6400000 in
theorem cSame (S P : Int) (a : Option Addr) (c : Nat) (hs : List BkV) (w : World) (hz : Bks w a hs) (hl : hs.length ≤ 1048576) :
    Calls Try.prog 67 #[.agg #[.int .i64 S, .int .i64 P, .slice a hs.length c]] w (AnsR w S P hs) := by
  obtain ⟨i0, hi, hz0, hz1, hz2⟩ := info_parts infoBks
  obtain ⟨k0, k1, k2⟩ := blocks3 w (Obj.cells #[.int .i64 S, .int .i64 P, .slice a hs.length c] 26) (Obj.cells #[.int .i64 0, .int .i64 0, .slice none 0 0] 26) (Obj.cells #[.int .i64 S, .int .i64 P, .slice none 0 0] 26)
  have hb3 := btrans (btrans (balloc w (Obj.cells #[.int .i64 S, .int .i64 P, .slice a hs.length c] 26)) (balloc _ (Obj.cells #[.int .i64 0, .int .i64 0, .slice none 0 0] 26))) (balloc _ (Obj.cells #[.int .i64 S, .int .i64 P, .slice none 0 0] 26))
  have hs3 := blocks3b w (Obj.cells #[.int .i64 S, .int .i64 P, .slice a hs.length c] 26) (Obj.cells #[.int .i64 0, .int .i64 0, .slice none 0 0] 26) (Obj.cells #[.int .i64 S, .int .i64 P, .slice none 0 0] 26)
  go_enter Try.func67, Try.ntmps67
  go_wp2
  generalize ((w.alloc (Obj.cells #[.int .i64 S, .int .i64 P, .slice a hs.length c] 26)).alloc (Obj.cells #[.int .i64 0, .int .i64 0, .slice none 0 0] 26)).alloc (Obj.cells #[.int .i64 S, .int .i64 P, .slice none 0 0] 26) = W at *
  have L0 : OutR (w.heap.size + 1 + 1) (w.heap.size + 1 + 1) S P W (.slice none 0 0) [] := ⟨k2, World.ownsRow_nil _ _ _ _⟩
  go_loopw [4] (fun i wr => ∃ k : Nat, ∃ v, i = .int .i64 k ∧ k ≤ hs.length ∧ OutR (w.heap.size + 1 + 1) (w.heap.size + 1 + 1) S P wr v (hs.take k) ∧ Below (w.heap.size + 1 + 1) W wr) (fun i _ => hs.length - (intOf i).toNat)
  case atStart => exact ⟨0, _, rfl, Nat.zero_le _, by simpa using L0, Below.refl _ _⟩
  case round =>
    obtain ⟨k, v, rfl, hk, L, hb⟩ := hrel
    clear L0
    have hbw : Below w.heap.size w wr := hb3.trans (hb.mono (by omega))
    have kt := (hb.block w.heap.size (by omega)).trans k0
    have kr := (hb.block (w.heap.size + 1) (by omega)).trans k1
    obtain ⟨⟨t0, t1, t2⟩, -⟩ := blk3 kt
    clear t0 t1
    by_cases hlt : k < hs.length
    · have htk : Hid (hs.take (k + 1) = hs.take k ++ [hs.getD k BkV.zero]) := hide (by rw [List.take_succ_eq_append_getElem hlt]; simp [List.getD, hlt])
      rcases hz with h | ⟨hb0, ho, rfl, hc⟩
      · simp [h] at hlt
      obtain ⟨q0, q1, q2, q3⟩ := hc k hlt
      replace q0 := ble hbw q0
      replace q1 := ble hbw q1
      replace q2 := ble hbw q2
      replace q3 := ble hbw q3
      have hhb : hb0 < wr.heap.size := cell_lt q0
      have hmsl : (hs.take k).length ≤ 1048577 := by rw [List.length_take]; omega
      clear hc kr
      generalize hs.take k = ms at *
      generalize hs.getD k BkV.zero = x at *
      obtain ⟨xi, xs, xn, xf⟩ := x
      dsimp only at *
      have LA := L.below (balloc wr (.cells #[.int .i64 xi, .int .i64 xs, .int .i64 xn, .int .i64 xf] 78))
      have hbA : Below (w.heap.size + 1 + 1) W (wr.alloc (.cells #[.int .i64 xi, .int .i64 xs, .int .i64 xn, .int .i64 xf] 78)).drew := (hb.trans ((balloc wr _).mono (by have := hb.size; omega))).trans (bdraw (Below.refl _ _) 1)
      go_wp2_with fail
      obtain ⟨⟨o0, o1, o2⟩, g0, g1, g2⟩ := blk3 L.out
      obtain ⟨va, vc, hv⟩ := own_form L.own
      subst hv
      have hqs : w.heap.size + 1 + 1 < wr.heap.size := lt_of_block L.out
      have hts : w.heap.size < wr.heap.size := cell_lt t2
      have hml : ms.length ≤ 1048577 := hmsl
      go_region_law
        ((refine step_append_lies _ (by rfl) _ _ _ (by rfl) (w.heap.size + 1 + 1) 78 i0 _ 4 32 Try.underlying24 hi hz0 hz1 hz2 rfl (by omega) (.slice va ms.length vc) ms.length (flatBks ms) (by rfl) ((L.own.drew).alloc _)
            ⟨wr.heap.size, 0, none⟩ 1 1 (BkV.vs ⟨xi, xs, xn, xf⟩) (by rfl) (by rfl) (World.news_of_block (cs := #[.int .i64 xi, .int .i64 xs, .int .i64 xn, .int .i64 xf]) (t := 78) (fr := (0, 0)) (heap_alloc_new wr.drew _)) (by simp [BkV.vs, Value.oneCell'])
            (by omega) (by unfold maxLen; omega) (by omega) (by simp; omega) (wr.heap.size + 1) (by simp) ?_; intro g cap2 w2 hown hgrow hat hlt2; obtain ⟨U1, U2⟩ := (LA.below (bdraw (Below.refl _ _) 1)).push hown hgrow; obtain ⟨⟨u0, u1, u2⟩, f0, f1, f2⟩ := blk3 U2))
      all_goals have hbF := out_below (v2 := .slice (some ⟨g, 0, none⟩) (ms.length + 1) cap2) hbA (own_keep LA.own (bdraw (Below.refl _ _) 1)) (by omega) hgrow (Nat.le_refl _)
      all_goals rw [← htk.out] at U1
      all_goals clear hown hgrow hat u0 u1 u2 f0 f1 f2 U2 LA hbA
      all_goals go_wp2
      all_goals go_roundw
      all_goals first | exact ⟨k + 1, _, by go_num, by omega, U1, hbF⟩ | (simp [intOf]; omega)
    · obtain rfl : k = hs.length := by omega
      rw [List.take_length] at L
      obtain ⟨⟨o0, o1, o2⟩, -⟩ := blk3 L.out
      obtain ⟨⟨y0, y1, y2⟩, f0, f1, f2⟩ := blk3 kr
      obtain ⟨u1, u2⟩ := out_fin (r := w.heap.size + 1) L (by omega) (by omega) (by omega) hbw
      obtain ⟨va, vc, hv⟩ := own_form L.own
      subst hv
      have hqs : w.heap.size + 1 + 1 < wr.heap.size := lt_of_block L.out
      clear L hb kt kr hz k0 k1 k2
      go_wp2
      refine bodyPost_ret (v := .agg #[.int .i64 S, .int .i64 P, .slice va hs.length vc]) (by simp [results, Try.results67, go_sem, y0, y1, y2]) rfl ⟨_, rfl, u1, u2⟩
end Go.Proofs.Ytgnlcehpajbnoaa
