/- One trip: measured, copied, compared, marked. -/
import Derived.Test.YthbedhbbijpfkaaF
namespace Go.Proofs.Ythbedhbbijpfkaa
open Go.RowKit
theorem own_base {w : World} {base base' e sz n : Nat} {v : Value} {xs : List Value} (h : w.ownsRow base e sz v n xs) (hb : base' ≤ base) : w.ownsRow base' e sz v n xs := by
  obtain ⟨h1, h2⟩ := h
  refine ⟨h1, ?_⟩
  rcases h2 with h2 | ⟨g, cap, cur, hv, hg, r⟩
  · exact .inl h2
  · exact .inr ⟨g, cap, cur, hv, by omega, r⟩

theorem three_blocks (w : World) (o1 o2 o3 : Obj) : (((w.alloc o1).alloc o2).alloc o3).heap[w.heap.size]? = some o1 ∧ (((w.alloc o1).alloc o2).alloc o3).heap[w.heap.size + 1]? = some o2 ∧ (((w.alloc o1).alloc o2).alloc o3).heap[w.heap.size + 1 + 1]? = some o3 := by
  refine ⟨?_, ?_, ?_⟩
  · show (((w.heap.push o1).push o2).push o3)[w.heap.size]? = _
    simp [Array.getElem?_push]; omega
  · show (((w.heap.push o1).push o2).push o3)[w.heap.size + 1]? = _
    rw [Array.getElem?_push, if_neg (by simp), Array.getElem?_push, if_pos (by simp)]
  · show (((w.heap.push o1).push o2).push o3)[w.heap.size + 1 + 1]? = _
    rw [Array.getElem?_push, if_pos (by simp)]
theorem below3 (w : World) (o1 o2 o3 : Obj) : Below w.heap.size w (((w.alloc o1).alloc o2).alloc o3) := btrans (btrans (balloc _ _) (balloc _ _)) (balloc _ _)
theorem size3 (w : World) (o1 o2 o3 : Obj) : (((w.alloc o1).alloc o2).alloc o3).heap.size = w.heap.size + 1 + 1 + 1 := by simp
theorem blk_keep {w w1 : World} (h : Below w.heap.size w w1) {g : Nat} {o : Obj} (hg : w.heap[g]? = some o) : w1.heap[g]? = some o := (h.block g (lt_of_block hg)).trans hg
theorem blk2 {w : World} {g : Nat} {c0 c1 : Value} {t : TypeId} (h : w.heap[g]? = some (.cells #[c0, c1] t (0, 0))) :
    (w.cell? ⟨g, 0, none⟩ = some c0 ∧ w.cell? ⟨g, 1, none⟩ = some c1) ∧ (w.frozen? ⟨g, 0, none⟩ = false ∧ w.frozen? ⟨g, 1, none⟩ = false) :=
  ⟨⟨Go.Joins.cell_of_block h 0, Go.Joins.cell_of_block h 1⟩, ⟨Go.Joins.unfrozen_of_block h 0, Go.Joins.unfrozen_of_block h 1⟩⟩
theorem blk_set {w : World} {g i : Nat} {cs : Array Value} {t : TypeId} {f : Nat × Nat} {v : Value} (h : w.heap[g]? = some (.cells cs t f)) : (w.setCell ⟨g, i, none⟩ v).heap[g]? = some (.cells (cs.setIfInBounds i v) t f) := by
  have hl := lt_of_block h
  have h' : w.heap[g] = .cells cs t f := by rw [Array.getElem?_eq_getElem hl] at h; exact Option.some.inj h
  simp [World.setCell, hl, Array.getElem_modify, h']
theorem blk_other {w : World} {g b i : Nat} {o : Obj} {v : Value} (h : w.heap[g]? = some o) (hne : g ≠ b) : (w.setCell ⟨b, i, none⟩ v).heap[g]? = some o := (Below.heap_setCell _ _ _ _ hne).trans h


set_option maxHeartbeats 800000 in
theorem cSzTrip (s : ByteArray) (a : Option Addr) (n cap : Nat) (left : Int) (w : World) (h0 : 0 ≤ left) (h1 : left ≤ 1048576) (hn : n ≤ maxLen) (hs : s.size ≤ maxLen) :
    Calls Try.prog 26 #[.agg #[.string s, .slice a n cap], .int .i64 left] w fun e w' => ∃ r, e = .returned (.int .i64 r) ∧ (r = -1 ∨ (r = left - s.size - n ∧ 0 ≤ r)) ∧ Below w.heap.size w w' := by
  have hb := balloc w (.cells #[.string s, .slice a n cap] 63)
  have hs' := hs
  unfold maxLen at hs'
  have hw0 : IntKind.i64.wrap (left - (s.size : Int)) = left - (s.size : Int) := wrap_in _ (by omega) (by omega)
  by_cases hneg : left - (s.size : Int) < 0
  · go_enter Try.func26, Try.ntmps26
    go_wp2
    go_ret
    exact ⟨-1, rfl, .inl rfl, hb⟩
  go_enter Try.func26, Try.ntmps26
  go_wp2_with fail
  refine (cSzHalts a n cap (left - s.size) _ (by omega) (by omega) hn).mono ?_
  rintro e w1 ⟨r, rfl, hr, hw⟩
  subst w1
  rcases hr with rfl | ⟨hr, hr0⟩
  · go_wp2
    go_ret
    exact ⟨-1, rfl, .inl rfl, hb⟩
  · replace hr := hide hr
    have hr0' : ¬ (r < 0) := by omega
    go_wp2
    go_ret
    exact ⟨r, rfl, .inr ⟨hr.out, hr0⟩, hb⟩

set_option maxHeartbeats 1600000 in
theorem cToTrip (s : ByteArray) (a : Option Addr) (cap : Nat) (cs : List HaltV) (w : World) (hz : Halts w a cs) (hl : cs.length ≤ 1048576) :
    Calls Try.prog 30 #[.agg #[.string s, .slice a cs.length cap]] w fun e w' => ∃ g, e = .returned (.agg #[.string s, .slice (some ⟨g, 0, none⟩) cs.length cs.length]) ∧
      w'.ownsRow w.heap.size 33 3 (.slice (some ⟨g, 0, none⟩) cs.length cs.length) cs.length (flatHalts cs) ∧ Below w.heap.size w w' := by
  have HB := below3 w (.cells #[.string s, .slice a cs.length cap] 63) (.cells #[.string ⟨#[]⟩, .slice none 0 0] 31) (.cells #[.string s, .slice none 0 0] 31)
  obtain ⟨k1, k2, k3⟩ := three_blocks w (.cells #[.string s, .slice a cs.length cap] 63) (.cells #[.string ⟨#[]⟩, .slice none 0 0] 31) (.cells #[.string s, .slice none 0 0] 31)
  have hS := size3 w (.cells #[.string s, .slice a cs.length cap] 63) (.cells #[.string ⟨#[]⟩, .slice none 0 0] 31) (.cells #[.string s, .slice none 0 0] 31)
  go_enter Try.func30, Try.ntmps30
  go_wp2_with fail
  generalize ((w.alloc (.cells #[.string s, .slice a cs.length cap] 63)).alloc (.cells #[.string ⟨#[]⟩, .slice none 0 0] 31)).alloc (.cells #[.string s, .slice none 0 0] 31) = W at *
  refine (cToHalts a cap cs _ (hz.below HB) hl).mono ?_
  rintro e w1 ⟨g1, rfl, o1, hg1, hb⟩
  rw [hS] at hg1 o1
  have hg1' : w.heap.size + 1 + 1 < g1 := by omega
  clear hg1
  replace k2 := blk_keep hb k2
  replace k3 := blk_keep hb k3
  replace HB := btrans HB hb
  clear hb k1 hS
  obtain ⟨⟨q0, q1⟩, f0, f1⟩ := blk2 k2
  obtain ⟨⟨r0, r1⟩, t0, t1⟩ := blk2 k3
  clear k2 k3
  go_wp2_with fail
  refine bodyPost_ret (v := .agg #[.string s, .slice (some ⟨g1, 0, none⟩) cs.length cs.length]) (by simp [results, Try.results30, go_sem, q0, q1]) rfl ⟨_, rfl, ?_, ?_⟩
  · exact own_base (own_set (b := w.heap.size + 1) (i := 1) (own_set (b := w.heap.size + 1) (i := 0) (own_set (b := w.heap.size + 1 + 1) (i := 1) o1 (fun k hk => by simp [Value.ownBlock] at hk; omega)) (fun k hk => by simp [Value.ownBlock] at hk; omega)) (fun k hk => by simp [Value.ownBlock] at hk; omega)) (by omega)
  · exact below_set (by omega) (below_set (by omega) (below_set (by omega) HB))

set_option maxHeartbeats 800000 in
theorem cEqTrip (s : ByteArray) (a1 a2 : Option Addr) (p1 p2 : Nat) (cs : List HaltV) (w : World) (h1 : Halts w a1 cs) (h2 : Halts w a2 cs) (hl : cs.length ≤ 1048576) :
    Calls Try.prog 32 #[.agg #[.string s, .slice a1 cs.length p1], .agg #[.string s, .slice a2 cs.length p2]] w fun e w' => e = .returned (.bool true) ∧ Below w.heap.size w w' := by
  have hb := btrans (balloc w (.cells #[.string s, .slice a1 cs.length p1] 31)) (balloc _ (.cells #[.string s, .slice a2 cs.length p2] 31))
  go_enter Try.func32, Try.ntmps32
  go_wp2_with fail
  refine (cEqHalts a1 a2 p1 p2 cs _ (h1.below hb) (h2.below hb) hl).mono ?_
  rintro e w1 ⟨rfl, hw⟩
  have hb1 := btrans hb hw
  go_wp2
  go_ret
  exact ⟨rfl, hb1⟩
end Go.Proofs.Ythbedhbbijpfkaa
