/- Plants and lockings as they lie in memory: read, and written into by a mark. -/
import Derived.Test.YtpgjllefhlanpaaMA
import Derived.Test.YtpgjllefhlanpaaB
import Derived.Test.YtpgjllefhlanpaaC
namespace Go.Proofs.Ytpgjllefhlanpaa
open Go.RowKit
/-- A route's two lists. -/
def RouteIn (w : World) (va vb : Value) (r : RouteV) : Prop :=
  ∃ a ca b cb, va = .slice a r.needs.length ca ∧ vb = .slice b r.blocks.length cb ∧ r.blocks.length ≤ cb ∧ Needs w a r.needs ∧ Ints w b r.blocks
theorem RouteIn.below {w w' : World} {va vb : Value} {r : RouteV} (h : RouteIn w va vb r) (hb : Below w.heap.size w w') : RouteIn w' va vb r := by
  obtain ⟨a, ca, b, cb, h1, h2, h0, h3, h4⟩ := h
  exact ⟨a, ca, b, cb, h1, h2, h0, h3.below hb, h4.below hb⟩
/-- The cells behind a slice's address hold the routes rs. -/
def Routes (w : World) (a : Option Addr) (rs : List RouteV) : Prop :=
  rs = [] ∨ ∃ b off, a = some ⟨b, off, none⟩ ∧ ∀ i, i < rs.length → ∃ va vb, w.cell? ⟨b, off + i * 2, none⟩ = some va ∧ w.cell? ⟨b, off + i * 2 + 1, none⟩ = some vb ∧ RouteIn w va vb (rs.getD i RouteV.zero)
theorem Routes.below {w w' : World} {a : Option Addr} {rs : List RouteV} (h : Routes w a rs) (hb : Below w.heap.size w w') : Routes w' a rs := by
  rcases h with h | ⟨b, off, ha, hc⟩
  · exact .inl h
  · refine .inr ⟨b, off, ha, fun i hi => ?_⟩
    obtain ⟨va, vb, h1, h2, h3⟩ := hc i hi
    exact ⟨va, vb, ble hb h1, ble hb h2, h3.below hb⟩
/-- A route out of the list, opened. -/
theorem Routes.at {w : World} {a : Option Addr} {rs : List RouteV} (h : Routes w a rs) {i : Nat} (hi : i < rs.length) :
    ∃ b off n cn m cm, a = some ⟨b, off, none⟩ ∧ w.cell? ⟨b, off + i * 2, none⟩ = some (.slice n (rs.getD i RouteV.zero).needs.length cn) ∧
      w.cell? ⟨b, off + i * 2 + 1, none⟩ = some (.slice m (rs.getD i RouteV.zero).blocks.length cm) ∧ (rs.getD i RouteV.zero).blocks.length ≤ cm ∧ Needs w n (rs.getD i RouteV.zero).needs ∧ Ints w m (rs.getD i RouteV.zero).blocks := by
  rcases h with h | ⟨b, off, ha, hc⟩
  · simp [h] at hi
  · obtain ⟨va, vb, h1, h2, n, cn, m, cm, rfl, rfl, h0, h5, h6⟩ := hc i hi
    exact ⟨b, off, n, cn, m, cm, ha, h1, h2, h0, h5, h6⟩
def plantVal (a : Option Addr) (ca : Nat) (b : Option Addr) (cb : Nat) (p : PlantV) : Value := .agg #[.slice a p.under.length ca, .int .i64 p.blocks, .slice b p.routes.length cb]
/-- A plant that is read: its lists, and that no list of it is longer than the law's own measure. -/
structure PlantIn (w : World) (a : Option Addr) (b : Option Addr) (p : PlantV) : Prop where
  under : Ints w a p.under
  routes : Routes w b p.routes
structure Small (p : PlantV) : Prop where
  under : p.under.length ≤ 1048576
  routes : p.routes.length ≤ 1048576
  each : ∀ r ∈ p.routes, r.needs.length ≤ 1048576 ∧ r.blocks.length ≤ 1048576
theorem Small.at {p : PlantV} (h : Small p) {i : Nat} (hi : i < p.routes.length) : (p.route i).needs.length ≤ 1048576 ∧ (p.route i).blocks.length ≤ 1048576 := by
  have e : p.route i = p.routes[i] := by simp [PlantV.route, List.getD, hi]
  rw [e]; exact h.each _ (List.getElem_mem hi)
theorem PlantIn.below {w w' : World} {a b : Option Addr} {p : PlantV} (h : PlantIn w a b p) (hb : Below w.heap.size w w') : PlantIn w' a b p := ⟨h.under.below hb, h.routes.below hb⟩
theorem PlantIn.at {w : World} {a b : Option Addr} {p : PlantV} (h : PlantIn w a b p) {i : Nat} (hi : i < p.routes.length) :
    ∃ g off n cn m cm, b = some ⟨g, off, none⟩ ∧ w.cell? ⟨g, off + i * 2, none⟩ = some (.slice n (p.route i).needs.length cn) ∧
      w.cell? ⟨g, off + i * 2 + 1, none⟩ = some (.slice m (p.route i).blocks.length cm) ∧ (p.route i).blocks.length ≤ cm ∧ Needs w n (p.route i).needs ∧ Ints w m (p.route i).blocks := h.routes.at hi
structure LockIn (w : World) (a b c : Option Addr) (l : LockV) : Prop where
  pos : Ints w a l.pos
  set : Bools w b l.set
  taken : Bools w c l.taken
def lockVal (a : Option Addr) (ca : Nat) (b : Option Addr) (cb : Nat) (c : Option Addr) (cc : Nat) (l : LockV) : Value := .agg #[.slice a l.pos.length ca, .slice b l.set.length cb, .slice c l.taken.length cc]
structure LSmall (l : LockV) : Prop where
  pos : l.pos.length ≤ 1048576
  set : l.set.length ≤ 1048576
  taken : l.taken.length ≤ 1048576
theorem LockIn.below {w w' : World} {a b c : Option Addr} {l : LockV} (h : LockIn w a b c l) (hb : Below w.heap.size w w') : LockIn w' a b c l := ⟨h.pos.below hb, h.set.below hb, h.taken.below hb⟩

/-- Cells that a mark may write into: numbers, none of them frozen, in blocks from lo on and below hi. -/
def Wz (w : World) (lo hi : Nat) (a : Option Addr) (n : Nat) : Prop :=
  n = 0 ∨ ∃ b off, a = some ⟨b, off, none⟩ ∧ lo ≤ b ∧ b < hi ∧ ∀ i, i < n → (∃ v, w.cell? ⟨b, off + i, none⟩ = some (.int .i64 v)) ∧ w.frozen? ⟨b, off + i, none⟩ = false
theorem Wz.below {w w' : World} {lo hi : Nat} {a : Option Addr} {n : Nat} (h : Wz w lo hi a n) (hb : Below w.heap.size w w') : Wz w' lo hi a n := by
  rcases h with h | ⟨b, off, h1, h2, h3, hc⟩
  · exact .inl h
  · refine .inr ⟨b, off, h1, h2, h3, fun i hi => ?_⟩
    obtain ⟨⟨v, hv⟩, hf⟩ := hc i hi
    exact ⟨⟨v, ble hb hv⟩, ((bcell hb).2 _ _ (cell_lt hv)).trans hf⟩
theorem Wz.wider {w : World} {lo hi lo' hi' : Nat} {a : Option Addr} {n : Nat} (h : Wz w lo hi a n) (h1 : lo' ≤ lo) (h2 : hi ≤ hi') : Wz w lo' hi' a n := by
  rcases h with h | ⟨b, off, ha, hb, hc, hd⟩
  · exact .inl h
  · exact .inr ⟨b, off, ha, by omega, by omega, hd⟩
theorem Wz.setCell {w : World} {lo hi : Nat} {a : Option Addr} {n : Nat} (h : Wz w lo hi a n) (p o : Nat) (x : Int) : Wz (w.setCell ⟨p, o, none⟩ (.int .i64 x)) lo hi a n := by
  rcases h with h | ⟨b, off, h1, h2, h3, hc⟩
  · exact .inl h
  · refine .inr ⟨b, off, h1, h2, h3, fun i hi => ?_⟩
    obtain ⟨⟨v, hv⟩, hf⟩ := hc i hi
    refine ⟨?_, by simpa using hf⟩
    by_cases he : (⟨b, off + i, none⟩ : Addr) = ⟨p, o, none⟩
    · rw [← he]; exact ⟨x, World.cell?_setCell_same _ _ _ hv⟩
    · exact ⟨v, (World.cell?_setCell_other _ _ _ _ (fun h => he h.symm)).trans hv⟩
/-- Nothing turns but blocks from lo on and below hi, and there numbers stay numbers. -/
structure Zone (lo hi : Nat) (w w' : World) : Prop where
  os : w'.os = w.os
  tape : w'.tape = w.tape
  output : w'.output = w.output
  size : w.heap.size ≤ w'.heap.size
  block : ∀ k, k < w.heap.size → (k < lo ∨ hi ≤ k) → w'.heap[k]? = w.heap[k]?
  marks : ∀ lo' hi' a n, Wz w lo' hi' a n → Wz w' lo' hi' a n
theorem Zone.refl (lo hi : Nat) (w : World) : Zone lo hi w w := ⟨rfl, rfl, rfl, Nat.le_refl _, fun _ _ _ => rfl, fun _ _ _ _ h => h⟩
theorem Zone.trans {lo hi : Nat} {w w1 w2 : World} (h : Zone lo hi w w1) (g : Zone lo hi w1 w2) : Zone lo hi w w2 :=
  ⟨g.os.trans h.os, g.tape.trans h.tape, g.output.trans h.output, Nat.le_trans h.size g.size, fun k hk hn => (g.block k (Nat.lt_of_lt_of_le hk h.size) hn).trans (h.block k hk hn), fun a b c d e => g.marks a b c d (h.marks a b c d e)⟩
theorem Zone.wider {lo hi lo' hi' : Nat} {w w1 : World} (h : Zone lo hi w w1) (h1 : lo' ≤ lo) (h2 : hi ≤ hi') : Zone lo' hi' w w1 :=
  ⟨h.os, h.tape, h.output, h.size, fun k hk hn => h.block k hk (by omega), h.marks⟩
theorem Zone.set {lo hi b o : Nat} {w w1 : World} {x : Int} (h : Zone lo hi w w1) (h1 : lo ≤ b) (h2 : b < hi) : Zone lo hi w (w1.setCell ⟨b, o, none⟩ (.int .i64 x)) :=
  ⟨h.os, h.tape, h.output, by simpa using h.size, fun k hk hn => (Below.heap_setCell _ _ _ _ (by rintro rfl; omega)).trans (h.block k hk hn), fun a b c d e => (h.marks a b c d e).setCell _ _ _⟩
theorem Zone.below {lo hi : Nat} {w w1 w2 : World} (h : Zone lo hi w w1) (g : Below w1.heap.size w1 w2) : Zone lo hi w w2 :=
  ⟨g.os.trans h.os, g.tape.trans h.tape, g.output.trans h.output, Nat.le_trans h.size g.size, fun k hk hn => (g.block k (Nat.lt_of_lt_of_le hk h.size)).trans (h.block k hk hn), fun a b c d e => (h.marks a b c d e).below g⟩
theorem cell_of_heap {w w' : World} {b o : Nat} (h : w'.heap[b]? = w.heap[b]?) : w'.cell? ⟨b, o, none⟩ = w.cell? ⟨b, o, none⟩ := by simp [World.cell?, h]
theorem Zone.cell {lo hi : Nat} {w w1 : World} (h : Zone lo hi w w1) {b o : Nat} {v : Value} (hc : w.cell? ⟨b, o, none⟩ = some v) (hn : b < lo ∨ hi ≤ b) : w1.cell? ⟨b, o, none⟩ = some v :=
  (cell_of_heap (h.block b (cell_lt hc) hn)).trans hc
theorem own_zone {lo hi : Nat} {w w' : World} {base e sz n : Nat} {v : Value} {xs : List Value} (h : w.ownsRow base e sz v n xs) (hz : Zone lo hi w w') (hn : ∀ k, v.ownBlock = some k → k < lo ∨ hi ≤ k) : w'.ownsRow base e sz v n xs := by
  obtain ⟨h1, h2⟩ := h
  refine ⟨h1, ?_⟩
  rcases h2 with h2 | ⟨g, cap, cur, hv, hg, hh, r⟩
  · exact .inl h2
  · exact .inr ⟨g, cap, cur, hv, hg, (hz.block g (lt_of_block hh) (hn g (by rw [hv]; rfl))).trans hh, r⟩
theorem Wz.owns {w : World} {base T sz m n c : Nat} {a : Option Addr} {xs : List Value} (h : w.ownsRow base T sz (.slice a m c) m xs) (hi : ∀ i, i < n → ∃ v, xs[i]? = some (.int .i64 v)) (hn : m * sz = n) {lo hi' : Nat} (h1 : lo ≤ base) (h2 : ∀ k, (Value.slice a m c).ownBlock = some k → k < hi') : Wz w lo hi' a n := by
  rcases h.2 with ⟨he, h0⟩ | ⟨g, cap', cur, he, hg, _⟩
  · left; rw [← hn, h0]; simp
  · simp only [Value.slice.injEq] at he
    obtain ⟨rfl, _, rfl⟩ := he
    refine .inr ⟨g, 0, rfl, by omega, h2 g rfl, fun i hlt => ?_⟩
    obtain ⟨v, hv⟩ := hi i hlt
    refine ⟨⟨v, ?_⟩, ?_⟩
    · rw [Nat.zero_add, h.cellAt i (by omega)]; exact hv
    · rw [Nat.zero_add]; exact h.frozenAt i
end Go.Proofs.Ytpgjllefhlanpaa
