/- A rank of placed tasks: an element is added. -/
import Derived.Test.YtbnhkkaiohmllaaKD
import Derived.Deep.RegionHeld3
namespace Go.Proofs.Ytbnhkkaiohmllaa
open Go.RowKit Go.Lib

theorem vs_one (e : PlV) : ∀ u ∈ e.cs, u.oneCell' = true := by intro u hu; simp [PlV.cs] at hu; rcases hu with rfl | rfl | rfl | rfl | rfl | rfl <;> rfl
theorem flat_one (es : List PlV) : ∀ u ∈ flatPls es, u.oneCell' = true := by
  intro u hu
  simp only [flatPls, List.mem_flatMap] at hu
  obtain ⟨e, _, h⟩ := hu
  exact vs_one e u h
theorem flat_take (es : List PlV) (i : Nat) : (flatPls es).take (i * 6) = flatPls (es.take i) := by
  induction es generalizing i with
  | nil => simp [flatPls]
  | cons e es ih =>
    cases i with
    | zero => simp [flatPls]
    | succ i => rw [show (i + 1) * 6 = i * 6 + 1 + 1 + 1 + 1 + 1 + 1 by omega, flatPls_cons]; simp only [List.take_succ_cons, ih, flatPls_cons]
theorem flat_drop (es : List PlV) (i : Nat) : (flatPls es).drop (i * 6) = flatPls (es.drop i) := by
  induction es generalizing i with
  | nil => simp [flatPls]
  | cons e es ih =>
    cases i with
    | zero => simp
    | succ i => rw [show (i + 1) * 6 = i * 6 + 1 + 1 + 1 + 1 + 1 + 1 by omega, flatPls_cons]; simp only [List.drop_succ_cons, ih]
def putAt (es : List PlV) (i : Nat) (t : PlV) : List PlV := es.take i ++ t :: es.drop i
theorem flat_putAt (es : List PlV) (i : Nat) (t : PlV) : (flatPls es).take (i * 6) ++ t.cs ++ (flatPls es).drop (i * 6) = flatPls (putAt es i t) := by
  rw [flat_take, flat_drop]; simp [putAt, flatPls]

theorem cInsert (base : Nat) (v : Value) (i vb : Nat) (es : List PlV) (t : PlV) (w : World) (ho : w.ownsRow base 68 6 v es.length (flatPls es)) (hn : es.length ≤ 1000) (hi : i ≤ es.length) (hB : base ≤ w.heap.size)
    (hvb : w.heap[vb]? = some (.cells t.cs.toArray 68 (0, 0))) (hne : v.ownBlock ≠ some vb) :
    Calls Try.prog 87 #[v, .int .i64 i, .slice (some ⟨vb, 0, none⟩) 1 1] w (InsPls w base v es.length (flatPls (putAt es i t))) := by
  rw [← flat_putAt]
  by_cases h : i = es.length
  · subst h
    rw [List.drop_of_length_le (by rw [flatPls_len]; exact Nat.le_refl _), List.take_of_length_le (by rw [flatPls_len]; exact Nat.le_refl _), List.append_nil]
    refine cInsPls_end base v es.length vb _ t.cs w ho hn hB rfl (fun j u hj => ?_) (vs_one t)
    rw [addN]; simp [World.cell?, hvb, hj]
  · rcases ho.2 with ⟨_, h0⟩ | ⟨g, cap, cur, rfl, hg, hh, hnc, hcm, hcs, hx⟩
    · omega
    · by_cases hr : es.length + 1 ≤ cap
      · exact cInsPls_shift base g cap es.length i vb cur _ t.cs w hg hh hr hcm hcs hx (flatPls_len es) hn (by omega) rfl hvb (fun h => hne (by rw [h]; rfl)) (vs_one t) (flat_one es)
      · exact cInsPls_grow base g cap es.length i vb cur _ t.cs w hB hh (by omega) hcs hx (flatPls_len es) hn (by omega) rfl hvb (vs_one t) (flat_one es)

/-- An element stands in the rank, and nothing else turned but the rank's cell and its row. -/
structure Added (ty : TypeId) (w w' : World) (base rb ro : Nat) (cs : Array Value) (v : Value) (es : List PlV) (t : PlV) : Prop where
  ex : ∃ v' p, w'.heap[rb]? = some (.cells (cs.setIfInBounds ro v') ty (0, 0)) ∧ w'.ownsRow base 68 6 v' (es.length + 1) (flatPls (putAt es p t)) ∧ p ≤ es.length ∧ (∀ i, i < p → Les (es.getD i PlV.zero) t) ∧ (∀ i, p ≤ i → i < es.length → ¬ Les (es.getD i PlV.zero) t) ∧ (v'.ownBlock = v.ownBlock ∨ ∃ g, v'.ownBlock = some g ∧ w.heap.size ≤ g)
  os : w'.os = w.os
  tape : w'.tape = w.tape
  output : w'.output = w.output
  size : w.heap.size ≤ w'.heap.size
  block : ∀ k, k < w.heap.size → k ≠ rb → some k ≠ v.ownBlock → w'.heap[k]? = w.heap[k]?

theorem bdrew {B : Nat} {a w : World} (h : Below B a w) : Below B a w.drew := ⟨h.os, h.tape, h.output, h.size, h.block⟩
theorem ins_parts {w w' : World} {base n : Nat} {v : Value} {xs : List Value} {e : Ending} (h : InsPls w base v n xs e w') : ∃ v', e = .returned v' ∧ w'.ownsRow base 68 6 v' (n + 1) xs ∧ w.grownBy w' v.ownBlock ∧ Hid (v'.ownBlock = v.ownBlock ∨ v'.ownBlock = some w.heap.size) := h
/-- A block of another type than the row stands behind an append. -/
theorem blk_app {w w' : World} {base e sz n : Nat} {v : Value} {xs : List Value} (ho : w.ownsRow base e sz v n xs) (hg : w.grownBy w' v.ownBlock) {g : Nat} {cs : Array Value} {t : TypeId} {f : Nat × Nat} (h : w.heap[g]? = some (.cells cs t f)) (hne : t ≠ e) : w'.heap[g]? = some (.cells cs t f) := by
  refine (hg.block g (lt_of_block h) ?_).trans h
  intro hv
  rcases ho.2 with ⟨rfl, _⟩ | ⟨g', cap', cur, rfl, _, hh, _⟩
  · simp [Value.ownBlock] at hv
  · simp only [Value.ownBlock, Option.some.injEq] at hv
    subst hv
    rw [h] at hh
    simp only [Option.some.injEq, Obj.cells.injEq] at hh
    exact hne hh.2.1
theorem rank_cell {w : World} {rb ro : Nat} {cs : Array Value} {t : TypeId} {v : Value} (h : w.heap[rb]? = some (.cells cs t (0, 0))) (hc : cs[ro]? = some v) : w.cell? ⟨rb, ro, none⟩ = some v ∧ w.frozen? ⟨rb, ro, none⟩ = false := by
  constructor
  · simp [World.cell?, h, hc]
  · simp [World.frozen?, h]
theorem added_fin {w w2 w4 : World} {base rb ro : Nat} {cs : Array Value} {v v' : Value} {es : List PlV} {t : PlV} {p : Nat} {o : Obj} {ty : TypeId} (hty : ty ≠ 68) (hr : w.heap[rb]? = some (.cells cs ty (0, 0))) (ho : w.ownsRow base 68 6 v es.length (flatPls es)) (HB : Below w.heap.size w w2)
    (hp1 : p ≤ es.length) (hp2 : ∀ i, i < p → Les (es.getD i PlV.zero) t) (hp3 : ∀ i, p ≤ i → i < es.length → ¬ Les (es.getD i PlV.zero) t)
    (hO : w4.ownsRow base 68 6 v' (es.length + 1) (flatPls (putAt es p t))) (hG : ((w2.alloc o).drew).grownBy w4 v.ownBlock) (hH : Hid (v'.ownBlock = v.ownBlock ∨ v'.ownBlock = some ((w2.alloc o).drew).heap.size)) : Added ty w (w4.setCell ⟨rb, ro, none⟩ v') base rb ro cs v es t := by
  have hAl := balloc w2 o
  have ho3 : ((w2.alloc o).drew).ownsRow base 68 6 v es.length (flatPls es) := own_keep (own_keep ho HB) (bdrew hAl)
  have hrs := lt_of_block hr
  have hr2 := (HB.block rb hrs).trans hr
  have hr3 : ((w2.alloc o).drew).heap[rb]? = some (.cells cs ty (0, 0)) := (hAl.block rb (Nat.lt_of_lt_of_le hrs HB.size)).trans hr2
  have hr4 := blk_app ho3 hG hr3 hty
  have hst : (w4.setCell ⟨rb, ro, none⟩ v').heap[rb]? = some (.cells (cs.setIfInBounds ro v') ty (0, 0)) := by
    rw [setCell_eq_setRow w4 rb ro cs _ _ v' hr4]
    exact setRow_heap w4 rb cs _ _ _ hr4
  refine ⟨⟨v', p, hst, own_set hO (fun k hk => ?_), hp1, hp2, hp3, ?_⟩, ?_, ?_, ?_, ?_, fun k hk hne hnr => ?_⟩
  · rcases hO.2 with ⟨rfl, _⟩ | ⟨g', cap', cur, rfl, _, hh, _⟩
    · simp [Value.ownBlock] at hk
    · simp only [Value.ownBlock, Option.some.injEq] at hk
      rintro rfl
      subst hk
      rw [hr4] at hh
      simp only [Option.some.injEq, Obj.cells.injEq] at hh
      exact hty hh.2.1
  · rcases hH.out with h | h
    · exact .inl h
    · exact .inr ⟨_, h, Nat.le_trans HB.size hAl.size⟩
  · exact hG.os.trans HB.os
  · exact hG.tape.trans HB.tape
  · exact hG.output.trans HB.output
  · have h1 := HB.size; have h2 := hAl.size; have h3 := hG.size; simp only [World.size_setCell]; exact Nat.le_trans h1 (Nat.le_trans h2 h3)
  · rw [Below.heap_setCell _ _ _ _ (fun h => hne h), hG.block k (by have h1 := HB.size; have h2 := hAl.size; show k < (w2.alloc o).heap.size; omega) hnr]
    exact (hAl.block k (Nat.lt_of_lt_of_le hk HB.size)).trans (HB.block k hk)

set_option maxRecDepth 20000 in
set_option maxHeartbeats 3200000 in
theorem cAdd (ty : TypeId) (hty : ty ≠ 68) (base rb ro : Nat) (cs : Array Value) (v : Value) (es : List PlV) (t : PlV) (w : World) (hr : w.heap[rb]? = some (.cells cs ty (0, 0))) (hc : cs[ro]? = some v) (ho : w.ownsRow base 68 6 v es.length (flatPls es)) (hn : es.length ≤ 1000) (hs : es.Pairwise Les) (hB : base ≤ w.heap.size) :
    Calls Try.prog 81 #[.pointer (some ⟨rb, ro, none⟩), t.val] w fun e w' => e = .returned (.tuple #[]) ∧ Added ty w w' base rb ro cs v es t := by
  have hW := balloc w (.cells t.cs.toArray 68)
  have hBx := Bx6p.new w t 68
  have c0 : w.cell? ⟨rb, ro, none⟩ = some v := by simp [World.cell?, hr, hc]
  have CS := fun a cap w hz => cSearch a cap es t w hz hs hn
  obtain ⟨va, vc, rfl⟩ := own_form ho
  have hrs : rb < w.heap.size := lt_of_block hr
  generalize hT : t = T at *
  obtain ⟨⟨te, td, tf, tt, tp⟩, tk⟩ := t
  unfold PlV.val PlV.cs at *
  subst hT
  dsimp only at *
  replace c0 := ble hW c0
  have hZ := (Pls.own ho).below hW
  go_enter Try.func81, Try.ntmps81
  go_wp2
  generalize hv1 : w.alloc (.cells [.int .i64 te, .int .i64 td, .int .i64 tf, .int .i64 tt, .int .i64 tp, .int .i64 tk].toArray 68) = w1 at *
  obtain ⟨t0, t1, t2, t3, t4, t5⟩ := hBx.parts
  have hZd : Pls w1.drew va es := hZ
  go_region_held3 (fun w' => w'.cell? ⟨rb, ro, none⟩ = some (.slice va es.length vc) ∧ w'.cell? ⟨w.heap.size, 0, none⟩ = some (.int .i64 te) ∧ w'.cell? ⟨w.heap.size, 1, none⟩ = some (.int .i64 td) ∧ w'.cell? ⟨w.heap.size, 2, none⟩ = some (.int .i64 tf) ∧ w'.cell? ⟨w.heap.size, 3, none⟩ = some (.int .i64 tt) ∧ w'.cell? ⟨w.heap.size, 4, none⟩ = some (.int .i64 tp) ∧ w'.cell? ⟨w.heap.size, 5, none⟩ = some (.int .i64 tk)) (go_keep) (first
    | (go_at_call 85; with_reducible refine (CS _ _ _ hZd).mono ?_; rintro e w2 ⟨p, b, rfl, hp1, hp2, hp3, hb2⟩; replace hb2 := undrew hb2; have v0 := ble hb2 c0; have v1 := ble hb2 t0; have v2 := ble hb2 t1; have v3 := ble hb2 t2; have v4 := ble hb2 t3; have v5 := ble hb2 t4; have v6 := ble hb2 t5))
  have HB := btrans hW hb2
  have ho2 := own_keep ho HB
  have hr2 := (HB.block rb hrs).trans hr
  have hws : w.heap.size < w2.heap.size := cell_lt v1
  have hrs2 : rb < w2.heap.size := cell_lt v0
  have hB2 : base ≤ w2.heap.size := by have := HB.size; omega
  have hAl := balloc w2 (.cells #[.int .i64 te, .int .i64 td, .int .i64 tf, .int .i64 tt, .int .i64 tp, .int .i64 tk] 68)
  have ho3 : ((w2.alloc (.cells #[.int .i64 te, .int .i64 td, .int .i64 tf, .int .i64 tt, .int .i64 tp, .int .i64 tk] 68)).drew).ownsRow base 68 6 (.slice va es.length vc) es.length (flatPls es) := own_keep ho2 (bdrew hAl)
  have hr3 : ((w2.alloc (.cells #[.int .i64 te, .int .i64 td, .int .i64 tf, .int .i64 tt, .int .i64 tp, .int .i64 tk] 68)).drew).heap[rb]? = some (.cells cs ty (0, 0)) := (hAl.block rb hrs2).trans hr2
  have CI := cInsert base (.slice va es.length vc) p w2.heap.size es ⟨⟨te, td, tf, tt, tp⟩, tk⟩ ((w2.alloc (.cells #[.int .i64 te, .int .i64 td, .int .i64 tf, .int .i64 tt, .int .i64 tp, .int .i64 tk] 68)).drew) ho3 hn hp1 (by have := hAl.size; show base ≤ (w2.alloc _).heap.size; omega) (heap_alloc_new w2 _) (fun h => by have := own_blk_lt ho2 _ h; omega)
  have hFin : Hid (∀ v' w4, w4.ownsRow base 68 6 v' (es.length + 1) (flatPls (putAt es p ⟨⟨te, td, tf, tt, tp⟩, tk⟩)) → ((w2.alloc (.cells #[.int .i64 te, .int .i64 td, .int .i64 tf, .int .i64 tt, .int .i64 tp, .int .i64 tk] 68)).drew).grownBy w4 (Value.ownBlock (.slice va es.length vc)) → Hid (Value.ownBlock v' = Value.ownBlock (.slice va es.length vc) ∨ Value.ownBlock v' = some ((w2.alloc (.cells #[.int .i64 te, .int .i64 td, .int .i64 tf, .int .i64 tt, .int .i64 tp, .int .i64 tk] 68)).drew).heap.size) → Added ty w (w4.setCell ⟨rb, ro, none⟩ v') base rb ro cs (.slice va es.length vc) es ⟨⟨te, td, tf, tt, tp⟩, tk⟩) := hide (fun v' w4 hO hG hH => added_fin hty hr ho HB hp1 hp2 hp3 hO hG hH)
  have hRb : ∀ w4, ((w2.alloc (.cells #[.int .i64 te, .int .i64 td, .int .i64 tf, .int .i64 tt, .int .i64 tp, .int .i64 tk] 68)).drew).grownBy w4 (Value.ownBlock (.slice va es.length vc)) → w4.cell? ⟨rb, ro, none⟩ = some (.slice va es.length vc) ∧ w4.frozen? ⟨rb, ro, none⟩ = false := fun w4 hG => rank_cell (blk_app ho3 hG hr3 hty) hc
  clear hZ hZd hv1 t0 t1 t2 t3 t4 t5 c0 hBx CS hp2 hp3 ho2 hr2 hW hb2 hr3 ho3 hAl
  go_wp2
  go_region_with (first
    | (go_at_call 87; with_reducible refine CI.mono ?_; rintro e w4 hI; obtain ⟨v', rfl, hO, hG, hH⟩ := ins_parts hI; obtain ⟨z0, z1⟩ := hRb w4 hG; obtain ⟨va', vc', rfl⟩ := own_form hO))
  all_goals
    go_wp2
    go_end0
    exact ⟨rfl, hFin.out _ _ hO hG hH⟩
end Go.Proofs.Ytbnhkkaiohmllaa
