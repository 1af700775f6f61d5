/- Trains measured, copied, compared, marked. -/
import Derived.Test.YtgnlcehpajbnoaaMP
import Derived.Deep.RegionHeld3
namespace Go.Proofs.Ytgnlcehpajbnoaa
open Go.RowKit Go.Lib

set_option maxHeartbeats 800000 in
theorem cSzTr (a : Option Addr) (n c : Nat) (x y : Value) (left : Int) (w : World) (h0 : 0 ≤ left) (h1 : left ≤ 1048576) (hn : n ≤ maxLen) :
    Calls Try.prog 26 #[.agg #[x, y, .slice a n c], .int .i64 left] w fun e w' => ∃ r, e = .returned (.int .i64 r) ∧ (r = -1 ∨ (r = left - n ∧ 0 ≤ r)) ∧ Below w.heap.size w w' := by
  have hW := balloc w (.cells #[x, y, .slice a n c] 48)
  go_enter Try.func26, Try.ntmps26
  go_wp2_with fail
  refine (cSzBks a n c left _ h0 h1 hn).mono ?_
  rintro e w1 ⟨r, rfl, hr, rfl⟩
  rcases hr with rfl | ⟨hr, hr0⟩
  · go_wp2
    go_ret
    exact ⟨_, rfl, .inl rfl, hW⟩
  · have HR := hide hr
    clear hr
    go_wp2
    go_ret
    exact ⟨_, rfl, .inr ⟨HR.out, hr0⟩, hW⟩

set_option maxHeartbeats 800000 in
theorem cEqTr (a1 a2 : Option Addr) (p1 p2 : Nat) (x y : Int) (es : List BkV) (w : World) (h1 : Bks w a1 es) (h2 : Bks w a2 es) (hl : es.length ≤ 1048576) :
    Calls Try.prog 29 #[.agg #[.int .i64 x, .int .i64 y, .slice a1 es.length p1], .agg #[.int .i64 x, .int .i64 y, .slice a2 es.length p2]] w fun e w' => e = .returned (.bool true) ∧ Below w.heap.size w w' := by
  have hW := btrans (balloc w (.cells #[.int .i64 x, .int .i64 y, .slice a1 es.length p1] 26)) (balloc _ (.cells #[.int .i64 x, .int .i64 y, .slice a2 es.length p2] 26))
  go_enter Try.func29, Try.ntmps29
  go_wp2_with fail
  refine (cEqBks a1 a2 p1 p2 es _ (h1.below hW) (h2.below hW) hl).mono ?_
  rintro e w0 ⟨rfl, hb0⟩
  have HB := btrans hW hb0
  go_wp2
  go_ret
  exact ⟨rfl, HB⟩

set_option maxRecDepth 20000 in
set_option maxHeartbeats 1600000 in
theorem cToTr (a : Option Addr) (p : Nat) (x y : Int) (es : List BkV) (w : World) (hz : Bks w a es) (hl : es.length ≤ 1048576) :
    Calls Try.prog 28 #[.agg #[.int .i64 x, .int .i64 y, .slice a es.length p]] w fun e w' =>
      ∃ g, e = .returned (.agg #[.int .i64 x, .int .i64 y, .slice (some ⟨g, 0, none⟩) es.length es.length]) ∧ w'.ownsRow w.heap.size 78 4 (.slice (some ⟨g, 0, none⟩) es.length es.length) es.length (flatBks es) ∧ Below w.heap.size w w' := by
  go_enter Try.func28, Try.ntmps28
  go_wp2_with fail
  refine (cToBks a p es _ (((hz.below (balloc _ _)).below (balloc _ _)).below (balloc _ _)) hl).mono ?_
  rintro e w1 ⟨g, rfl, hown, hg, hb⟩
  obtain ⟨k1, k2, k3⟩ := blocks3 w (Obj.cells #[.int .i64 x, .int .i64 y, .slice a es.length p] 48) (Obj.cells #[.int .i64 0, .int .i64 0, .slice none 0 0] 26) (Obj.cells #[.int .i64 x, .int .i64 y, .slice none 0 0] 26)
  rw [blocks3b] at hb hg hown
  have hbw : Below w.heap.size w w1 := (((balloc _ _).trans ((balloc _ _).mono (by simp))).trans ((balloc _ _).mono (by simp; omega))).trans (hb.mono (by omega))
  rw [← hb.block _ (by omega)] at k1 k2 k3
  have hs1 := hb.size
  rw [blocks3b] at hs1
  clear hb
  subst hg
  have hs1' := owns_lt hown
  have hown' := Go.Joins.ownsRow_le hown (base' := w.heap.size) (by omega)
  obtain ⟨⟨d0, d1, d2⟩, _, _, _⟩ := blk3 k1
  obtain ⟨⟨b0, b1, b2⟩, f0, f1, f2⟩ := blk3 k2
  obtain ⟨⟨c0, c1, c2⟩, e0, e1, e2⟩ := blk3 k3
  clear k1 k2 k3 hown
  go_wp2_with fail
  refine bodyPost_ret (v := .agg #[.int .i64 x, .int .i64 y, .slice (some ⟨w.heap.size + 1 + 1 + 1, 0, none⟩) es.length es.length]) (by simp [results, Try.results28, go_sem, b0, b1, b2]) rfl ⟨_, rfl, ?_, ?_⟩
  · repeat' apply own_setg (by omega)
    exact hown'
  · repeat' apply below_set (by omega)
    exact hbw

theorem grown_own {w w' : World} {r v : Option Nat} (h : w.grownBy w' r) (hj : ∀ j, r = some j → v = some j) : w.grownBy w' v :=
  ⟨h.os, h.tape, h.output, h.size, fun k hk hne => h.block k hk (fun e => hne (hj k e.symm).symm)⟩

theorem cMarkRow (B n : Nat) (v : Value) (es : List BkV) (k : Int) (w : World) (ho : w.ownsRow B 78 4 v n (flatBks es)) (hl : n ≤ 1048576) (hk0 : 0 ≤ k) (hk1 : k ≤ 10000000) :
    Calls Try.prog 64 #[v, .int .i64 k] w fun e w' => e = .returned (.int .i64 (k + 4 * n)) ∧ w'.ownsRow B 78 4 v n (flatBks (marksBks k n)) ∧ w.grownBy w' v.ownBlock := by
  have hn : es.length = n := by have := ho.1; rw [flatBks_len] at this; omega
  subst hn
  rcases ho.2 with ⟨rfl, h0⟩ | ⟨g, cap, cur, rfl, _⟩
  · refine (cMarkBks B es.length _ es k w (.inl ho) hl hk0 hk1).mono ?_
    rintro e w1 ⟨rfl, _, r, hg0, hj⟩
    refine ⟨rfl, ?_, grown_own hg0 (fun j e => (hj j e).2)⟩
    rw [h0]
    exact World.ownsRow_nil _ _ _ _
  · exact cMarkBksg B g cap es k w ho hl hk0 hk1

set_option maxHeartbeats 800000 in
theorem cMarkTr (B n : Nat) (v : Value) (x y : Value) (es : List BkV) (k : Int) (w : World) (ho : w.ownsRow B 78 4 v n (flatBks es)) (hl : n ≤ 1048576) (hk0 : 0 ≤ k) (hk1 : k ≤ 10000000) :
    Calls Try.prog 32 #[.agg #[x, y, v], .int .i64 k] w fun e w' => e = .returned (.int .i64 (k + 4 * n)) ∧ w'.ownsRow B 78 4 v n (flatBks (marksBks k n)) ∧ w.grownBy w' v.ownBlock := by
  obtain ⟨va, vc, hv⟩ := own_form ho
  have hW := balloc w (.cells #[x, y, v] 26)
  have C := cMarkRow B n v es k _ (own_keep ho hW) hl hk0 hk1
  subst hv
  go_enter Try.func32, Try.ntmps32
  go_wp2_with fail
  refine C.mono ?_
  rintro e w1 ⟨rfl, hr, hg⟩
  have HG : w.grownBy w1 (Value.slice va n vc).ownBlock := ⟨hg.os.trans hW.os, hg.tape.trans hW.tape, hg.output.trans hW.output, Nat.le_trans hW.size hg.size, fun k hk hne => (hg.block k (Nat.lt_of_lt_of_le hk hW.size) hne).trans (hW.block k hk)⟩
  clear C
  go_wp2
  go_ret
  exact ⟨rfl, hr, HG⟩

set_option maxHeartbeats 800000 in
theorem cHeldTr (B n : Nat) (v : Value) (x y : Value) (k : Int) (w : World) (ho : Rw w B 78 4 v n (flatBks (marksBks k n))) (hl : n ≤ 1048576) (hk0 : 0 ≤ k) (hk1 : k ≤ 10000000) :
    Calls Try.prog 37 #[.agg #[x, y, v], .int .i64 k] w fun e w' => e = .returned (.int .i64 (k + 4 * n)) ∧ Below w.heap.size w w' := by
  obtain ⟨va, vc, hv⟩ := ho.form
  have hW := balloc w (.cells #[x, y, v] 26)
  have C := cHeldBks B n v k _ (ho.keep hW) hl hk0 hk1
  subst hv
  have hn0 : ¬ (k + 4 * (n : Int) < 0) := by omega
  go_enter Try.func37, Try.ntmps37
  go_wp2_with fail
  refine C.mono ?_
  rintro e w1 ⟨rfl, rfl⟩
  clear C
  go_wp2
  go_ret
  exact ⟨rfl, hW⟩
end Go.Proofs.Ytgnlcehpajbnoaa
