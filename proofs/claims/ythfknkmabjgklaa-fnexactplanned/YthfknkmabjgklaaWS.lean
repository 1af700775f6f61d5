/- Uses of the program; the walk of the law on Uses. -/
import Derived.Test.YthfknkmabjgklaaWR
import Derived.Test.YthfknkmabjgklaaUC
import Derived.Test.YthfknkmabjgklaaMK
namespace Go.Proofs.Ythfknkmabjgklaa
open Go.RowKit
open Classical in
/-- What Uses answers. -/
noncomputable def lstU (n : Int) (es : List EdgeV) (ts : List TripV) : List RideV := if Ridden n es ts then usesL es ts else []
theorem lstU_small (n : Int) (es : List EdgeV) (ts : List TripV) : (lstU n es ts).length ≤ 264 := by
  unfold lstU
  split
  · next h =>
    have h1 := usesTo_small (es := es) h.2.1 ts.length (Nat.le_refl _)
    have h2 := h.2.1.1
    unfold usesL
    omega
  · simp
theorem AnsRides.one {w w' : World} {n : Int} {es : List EdgeV} {ts : List TripV} {e : Ending} (h : AnsRides w n es ts e w') :
    ∃ v, e = .returned v ∧ w'.ownsRow w.heap.size 78 5 v (lstU n es ts).length (flatRides (lstU n es ts)) ∧ Below w.heap.size w w' := by
  obtain ⟨hb, ⟨hR, v, rfl, ho⟩ | ⟨hR, rfl⟩⟩ := h
  · exact ⟨v, rfl, by unfold lstU; rw [if_pos hR]; exact ho, hb⟩
  · exact ⟨_, rfl, by unfold lstU; rw [if_neg hR]; exact World.ownsRow_nil _ _ _ _, hb⟩
set_option maxHeartbeats 1600000 in
theorem cUsesI (a : Option Addr) (cap : Nat) (n : Int) (es : List EdgeV) (ta : Option Addr) (tc : Nat) (ts : List TripV) (w : World) (he : Edges w a es) (hl : es.length ≤ 1048576) (hz : Trips w ta ts) (hS : Small ts) :
    Calls Try.prog 63 #[.agg #[.int .i64 n, .slice a es.length cap], .slice ta ts.length tc] w (AnsRides w n es ts) := by
  have hW := balloc w (.cells #[.int .i64 n, .slice a es.length cap] 32)
  have hsz : (w.alloc (.cells #[.int .i64 n, .slice a es.length cap] 32)).heap.size = w.heap.size + 1 := sz1 _ _
  go_enter Try.func63, Try.ntmps63
  go_wp2_with fail
  refine (cUsesOf a cap n es ta tc ts _ (he.below hW) hl (hz.below hW) hS).mono ?_
  rintro e w1 ⟨hb1, hA⟩
  have HB := btrans hW hb1
  clear hW hb1
  rcases hA with ⟨hR, v, rfl, ho⟩ | ⟨hR, rfl⟩
  · replace hR := hide hR
    replace ho := hide (own_base ho (by rw [hsz]; omega : w.heap.size ≤ _))
    clear hsz
    go_wp2
    go_ret
    exact ⟨HB, .inl ⟨hR.out, v, rfl, ho.out⟩⟩
  · replace hR := hide hR
    clear hsz
    go_wp2
    go_ret
    exact AnsRides.no hR.out HB
set_option maxHeartbeats 800000 in
theorem cMarkNet (B g : Nat) (n : Int) (es : List EdgeV) (w : World) (ho : OwnNet B w g es) (hl : es.length ≤ 1048576) :
    Calls Try.prog 19 #[.agg #[.int .i64 n, .slice (some ⟨g, 0, none⟩) es.length es.length], .int .i64 1] w fun e w' => e = .returned (.int .i64 (1 + 4 * es.length)) ∧ w.grownBy w' (some g) := by
  have hb := balloc w (.cells #[.int .i64 n, .slice (some ⟨g, 0, none⟩) es.length es.length] 32)
  go_enter Try.func19, Try.ntmps19
  go_wp2_with fail
  refine (cMarkEdgesg B g es.length es 1 _ (ho.below hb) hl (by omega) (by omega)).mono ?_
  rintro e w1 ⟨rfl, -, hgr⟩
  go_wp2
  go_ret
  exact ⟨rfl, gtrans (gof hb) hgr⟩
theorem grow_below {w0 w w' : World} {r : Option Nat} (hb : Below w0.heap.size w0 w) (h : w.grownBy w' r) (hr : ∀ k, r = some k → w0.heap.size ≤ k) : Below w0.heap.size w0 w' :=
  ⟨h.os.trans hb.os, h.tape.trans hb.tape, h.output.trans hb.output, Nat.le_trans hb.size h.size, fun k hk => (h.block k (Nat.lt_of_lt_of_le hk hb.size) (fun e => by have := hr k e.symm; omega)).trans (hb.block k hk)⟩
theorem far_blk {w w' : World} {r : Option Nat} (hgr : w.grownBy w' r) {b : Nat} {o : Obj} (h : w.heap[b]? = some o) (hne : ∀ j, r = some j → j ≠ b) : w'.heap[b]? = some o :=
  (hgr.block b (lt_of_block h) (fun e => hne b e.symm rfl)).trans h
theorem span_blk {g hi : Nat} {w w' : World} (hs : Span g hi w w') {b : Nat} {o : Obj} (h : w.heap[b]? = some o) (hne : b < g ∨ hi ≤ b) : w'.heap[b]? = some o :=
  (hs.block b (lt_of_block h) hne).trans h
theorem TripsApart.far {w w' : World} {g hi : Nat} {ts : List TripV} {r : Nat} (h : TripsApart w g hi ts) (hg : w.grownBy w' (some r)) (hr : r < g) : TripsApart w' g hi ts := by
  obtain ⟨vs, h1, h2, h3, h4⟩ := h
  refine ⟨vs, h1, own_far h2 hg (fun k hk e => by cases e; simp [Value.ownBlock] at hk; omega), fun j hj => ?_, h4⟩
  obtain ⟨t1, a, c, t2, t3⟩ := h3 j hj
  exact ⟨t1, a, c, t2, own_far t3 hg (fun k hk e => by cases e; have := own_from t3 (Nat.le_refl _) _ hk; omega)⟩

end Go.Proofs.Ythfknkmabjgklaa
