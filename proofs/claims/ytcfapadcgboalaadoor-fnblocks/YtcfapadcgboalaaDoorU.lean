/- The program's line: made of trains of its own. -/
import Derived.Test.YtcfapadcgboalaaDoorT
import Derived.Lib.SliceRun
namespace Go.Proofs.YtcfapadcgboalaaDoor
open Go.RowKit

set_option maxRecDepth 20000 in
set_option maxHeartbeats 800000 in
theorem cClone (a : Option Addr) (cap : Nat) (ts : List SpanV) (w : World) (he : Spans w a ts) (ha : a = none → cap = 0) (hspot : ∀ x, a = some x → x.spot = none) (hl : ts.length ≤ 1048576) :
    Calls Tryd.prog 37 #[.slice a ts.length cap] w fun e w' => ∃ v, e = .returned v ∧
      w'.ownsRow w.heap.size 34 2 v ts.length (flatSpans ts) ∧ Below w.heap.size w w' := by
  cases a with
  | none =>
    have h0 : ts = [] := by
      rcases he with h | ⟨b, off, h, _⟩
      · exact h
      · cases h
    subst h0
    obtain rfl := ha rfl
    have hq : ∀ w, (binOp .eql 24 (.slice none 0 0) (.slice none 0 0)).run Tryd.prog w = .ok (.bool true) w := fun w => Go.Lib.run_eql_slice_nil w _ _ none 0 0 0 0 Tryd.underlying24
    go_enter Tryd.func37, Tryd.ntmps37
    go_wp2
    go_ret
    exact ⟨_, rfl, World.ownsRow_nil _ _ _ _, Below.refl _ _⟩
  | some x =>
    obtain ⟨b, off, spot⟩ := x
    obtain rfl : spot = none := hspot _ rfl
    obtain ⟨i0, hi, hz0, hz1, hz2⟩ := info_parts2 infoSpans
    have hq : ∀ w, (binOp .eql 24 (.slice (some ⟨b, off, none⟩) ts.length cap) (.slice none 0 0)).run Tryd.prog w = .ok (.bool false) w := fun w => Go.Lib.run_eql_slice_nil w _ _ (some ⟨b, off, none⟩) ts.length cap 0 0 Tryd.underlying24
    have hc := spans_cells (he.below (balloc w (.cells #[] 34)))
    go_enter Tryd.func37, Tryd.ntmps37
    go_wp2_with (at_builtin; refine wpList_append_own _ rfl _ _ 24 rfl w.heap.size 34 i0 (.agg #[.int .i64 0, .int .i64 0]) 2 16 Tryd.underlying24 hi hz0 hz1 hz2 rfl (by decide) _ 0 [] rfl (World.ownsRow_made _ #[] 0 (Nat.le_refl _) (by omega) rfl) ⟨b, off, none⟩ ts.length cap (flatSpans ts) rfl (flatSpans_len ts) hc (flat_one ts) ?c3 ?c4 ?c5 ?_)
    case c3 => unfold maxLen; omega
    case c4 => omega
    case c5 => simp
    intro v' w5 hown' hgrow _
    have hbel : Below w.heap.size w w5 := (balloc w _).grown hgrow (by simp) (fun j e => by simp [Value.ownBlock] at e; omega)
    clear hgrow
    go_wp2
    go_ret
    exact ⟨_, rfl, hown', hbel⟩

/-- A line in a block of its own, with trains of its own. -/
structure Line (w : World) (B b : Nat) (n : Int) (v : Value) (ts : List SpanV) : Prop where
  blk : w.heap[b]? = some (.cells #[.int .i64 n, v] 59 (0, 0))
  own : w.ownsRow B 34 2 v ts.length (flatSpans ts)
  ge : B ≤ b
  off : ∀ k, v.ownBlock = some k → k ≠ b
theorem Line.below {w w' : World} {B b : Nat} {n : Int} {v : Value} {ts : List SpanV} (h : Line w B b n v ts) (hb : Below w.heap.size w w') : Line w' B b n v ts :=
  ⟨(hb.block _ (lt_of_block h.blk)).trans h.blk, own_keep h.own hb, h.ge, h.off⟩
theorem Line.cells {w : World} {B b : Nat} {n : Int} {v : Value} {ts : List SpanV} (h : Line w B b n v ts) : w.cell? ⟨b, 0, none⟩ = some (.int .i64 n) ∧ w.cell? ⟨b, 1, none⟩ = some v :=
  ⟨Go.Joins.cell_of_block h.blk 0, Go.Joins.cell_of_block h.blk 1⟩

set_option maxHeartbeats 1600000 in
theorem cLineNo (a : Option Addr) (cap : Nat) (n : Int) (ts : List SpanV) (w : World) (he : Spans w a ts) (hl : ts.length ≤ 1048576) (h : trainsOk n ts = false) :
    Calls Tryd.prog 23 #[.int .i64 n, .slice a ts.length cap] w fun e w' => ∃ ev, e = .returned (.tuple #[.pointer none, ev]) ∧ ErrV false ev ∧ Below w.heap.size w w' := by
  cases h1 : inB n 1 100
  · clear h
    go_enter Tryd.func23, Tryd.ntmps23
    go_wp2_with fail
    refine (cWithin _ _ _ _).mono ?_
    rintro e w1 ⟨rfl, hw⟩
    subst w1
    rw [h1]
    go_wp2
    go_ret2
    exact ⟨_, rfl, .inr ⟨rfl, _, rfl⟩, Below.refl _ _⟩
  by_cases h2 : 12 < ts.length
  · have h2' : (12 : Int) < (ts.length : Int) := by omega
    clear h
    go_enter Tryd.func23, Tryd.ntmps23
    go_wp2_with fail
    refine (cWithin _ _ _ _).mono ?_
    rintro e w1 ⟨rfl, hw⟩
    subst w1
    rw [h1]
    go_wp2
    go_ret2
    exact ⟨_, rfl, .inr ⟨rfl, _, rfl⟩, Below.refl _ _⟩
  have h2' : ¬ ((12 : Int) < (ts.length : Int)) := by omega
  have TA : (∀ j, j < ts.length → tOk n ts j = true) → False := fun g => by rw [trains_y h1 (by omega) g] at h; cases h
  clear h
  obtain ⟨hn1, hn2⟩ := inB_true h1
  go_enter Tryd.func23, Tryd.ntmps23
  go_wp2_with fail
  refine (cWithin _ _ _ _).mono ?_
  rintro e w1 ⟨rfl, hw⟩
  subst w1
  rw [h1]
  go_wp2
  go_loopw [6, 8, 21] (fun fr _ i wr => ∃ k : Nat, k ≤ ts.length ∧ i = .int .i64 k ∧ fr = .int .i64 (freeAt ts k) ∧ (∀ j, j < k → tOk n ts j = true) ∧ Below w.heap.size w wr) (fun _ _ i _ => ts.length - (intOf i).toNat)
  case atStart => exact ⟨0, Nat.zero_le _, rfl, rfl, fun j hj => by omega, Below.refl _ _⟩
  case round =>
    obtain ⟨k, hk, rfl, rfl, hgo, hb⟩ := hrel
    by_cases hlt : k < ts.length
    · rcases he with he | ⟨b, off, rfl, hc⟩
      · simp [he] at hlt
      obtain ⟨q0, q1⟩ := hc k hlt
      have p0 : wr.cell? ⟨b, off + k * 2, none⟩ = some (.int .i64 (rAt ts k)) := ble hb q0
      have p1 : wr.cell? ⟨b, off + k * 2 + 1, none⟩ = some (.int .i64 (fAt ts k)) := ble hb q1
      have E : Hid (tOk n ts k = decide (freeAt ts k ≤ rAt ts k ∧ rAt ts k ≤ fAt ts k ∧ fAt ts k < n)) := rfl
      have ES : Hid (freeAt ts (k + 1) = fAt ts k + 1) := rfl
      have hfp := free_pos k hgo
      have HB := btrans hb (balloc _ (.cells #[.int .i64 (rAt ts k), .int .i64 (fAt ts k)] 34))
      clear hc q0 q1 TA
      generalize rAt ts k = x at *
      generalize fAt ts k = y at *
      generalize freeAt ts k = fr at *
      by_cases c1 : x < fr
      · clear E ES hgo
        go_wp2
        go_ret2
        exact ⟨_, rfl, .inr ⟨rfl, _, rfl⟩, HB⟩
      by_cases c2 : y < x
      · clear E ES hgo
        go_wp2
        go_ret2
        exact ⟨_, rfl, .inr ⟨rfl, _, rfl⟩, HB⟩
      by_cases c3 : n ≤ y
      · clear E ES hgo
        go_wp2
        go_ret2
        exact ⟨_, rfl, .inr ⟨rfl, _, rfl⟩, HB⟩
      have hg2 : ∀ j, j < k + 1 → tOk n ts j = true := fun j hj => by
        by_cases e : j = k
        · rw [e, E.out]; exact decide_eq_true (by omega)
        · exact hgo j (by omega)
      clear E hgo
      go_wp2
      go_roundw
      case rel => exact ⟨k + 1, by omega, by go_num, by rw [ES.out], hg2, HB⟩
      case measure => simp [intOf]; omega
    · obtain rfl : k = ts.length := by omega
      exact (TA hgo).elim

set_option maxHeartbeats 1600000 in
theorem cLineYes (a : Option Addr) (cap : Nat) (n : Int) (ts : List SpanV) (w : World) (he : Spans w a ts) (ha : a = none → cap = 0) (hspot : ∀ x, a = some x → x.spot = none) (hl : ts.length ≤ 1048576) (h : trainsOk n ts = true) :
    Calls Tryd.prog 23 #[.int .i64 n, .slice a ts.length cap] w fun e w' => ∃ b v, e = .returned (.tuple #[.pointer (some ⟨b, 0, none⟩), .nilIface]) ∧ Line w' w.heap.size b n v ts ∧ Below w.heap.size w w' := by
  obtain ⟨h1, h2, h3⟩ := trains_of h
  clear h
  have h2' : ¬ ((12 : Int) < (ts.length : Int)) := by omega
  have CL := fun w' hs => cClone a cap ts w' hs ha hspot hl
  clear ha hspot
  obtain ⟨hn1, hn2⟩ := inB_true h1
  go_enter Tryd.func23, Tryd.ntmps23
  go_wp2_with fail
  refine (cWithin _ _ _ _).mono ?_
  rintro e w1 ⟨rfl, hw⟩
  subst w1
  rw [h1]
  go_wp2
  go_loopw [6, 8, 21] (fun fr _ i wr => ∃ k : Nat, k ≤ ts.length ∧ i = .int .i64 k ∧ fr = .int .i64 (freeAt ts k) ∧ Below w.heap.size w wr) (fun _ _ i _ => ts.length - (intOf i).toNat)
  case atStart => exact ⟨0, Nat.zero_le _, rfl, rfl, Below.refl _ _⟩
  case round =>
    obtain ⟨k, hk, rfl, rfl, hb⟩ := hrel
    by_cases hlt : k < ts.length
    · clear CL
      rcases he with he | ⟨b, off, rfl, hc⟩
      · simp [he] at hlt
      obtain ⟨q0, q1⟩ := hc k hlt
      have p0 : wr.cell? ⟨b, off + k * 2, none⟩ = some (.int .i64 (rAt ts k)) := ble hb q0
      have p1 : wr.cell? ⟨b, off + k * 2 + 1, none⟩ = some (.int .i64 (fAt ts k)) := ble hb q1
      have E : Hid (tOk n ts k = decide (freeAt ts k ≤ rAt ts k ∧ rAt ts k ≤ fAt ts k ∧ fAt ts k < n)) := rfl
      have ES : Hid (freeAt ts (k + 1) = fAt ts k + 1) := rfl
      have hfp := free_pos (n := n) k (fun j hj => h3 j (by omega))
      have hk3 := h3 k hlt
      rw [E.out, decide_eq_true_eq] at hk3
      have HB := btrans hb (balloc _ (.cells #[.int .i64 (rAt ts k), .int .i64 (fAt ts k)] 34))
      clear hc q0 q1 E h3
      generalize rAt ts k = x at *
      generalize fAt ts k = y at *
      generalize freeAt ts k = fr at *
      obtain ⟨k1, k2, k3⟩ := hk3
      have k1' : ¬ (x < fr) := by omega
      have k2' : ¬ (y < x) := by omega
      have k3' : ¬ (n ≤ y) := by omega
      go_wp2
      go_roundw
      case rel => exact ⟨k + 1, by omega, by go_num, by rw [ES.out], HB⟩
      case measure => simp [intOf]; omega
    · go_wp2_with fail
      refine (CL _ (he.below hb)).mono ?_
      rintro e w2 ⟨v, rfl, ho, hb2⟩
      have HB2 := btrans hb hb2
      have hs := hb.size
      have hlt2 := own_blk_lt ho
      clear hb hb2 CL
      obtain ⟨a', c', rfl⟩ := own_form ho
      go_wp2
      go_ret2
      refine ⟨_, _, rfl, ⟨?_, own_keep (Go.Joins.ownsRow_le ho hs) (balloc _ _), HB2.size, fun k hk => by have := hlt2 k hk; omega⟩, btrans HB2 (balloc _ _)⟩
      show (w2.heap.push _)[w2.heap.size]? = _
      rw [Array.getElem?_push, if_pos rfl]

set_option maxHeartbeats 800000 in
theorem cTrainsI (a : Option Addr) (cap : Nat) (n : Int) (ts : List SpanV) (w : World) (he : Spans w a ts) (ha : a = none → cap = 0) (hspot : ∀ x, a = some x → x.spot = none) (hl : ts.length ≤ 1048576) (hg : Glob w) :
    Calls Tryd.prog 10 #[.int .i64 n, .slice a ts.length cap] w fun e w' => e = .returned (.bool (trainsOk n ts)) ∧ Below w.heap.size w w' := by
  cases h : trainsOk n ts
  · go_enter Tryd.func10, Tryd.ntmps10
    go_wp2_with fail
    refine (cLineNo a cap n ts _ he hl h).mono ?_
    rintro e w1 ⟨ev, rfl, hev, hb⟩
    go_wp2_with fail
    refine (cMayNot false ev _ hev (hg.below hb)).mono ?_
    rintro e w2 ⟨rfl, hb2⟩
    have HB := btrans hb hb2
    clear hb hb2
    go_wp2
    go_ret
    exact ⟨rfl, HB⟩
  · go_enter Tryd.func10, Tryd.ntmps10
    go_wp2_with fail
    refine (cLineYes a cap n ts _ he ha hspot hl h).mono ?_
    rintro e w1 ⟨b, v, rfl, -, hb⟩
    go_wp2_with fail
    refine (cMayNot true .nilIface _ (.inl ⟨rfl, rfl⟩) (hg.below hb)).mono ?_
    rintro e w2 ⟨rfl, hb2⟩
    have HB := btrans hb hb2
    clear hb hb2
    go_wp2
    go_ret
    exact ⟨rfl, HB⟩
end Go.Proofs.YtcfapadcgboalaaDoor
