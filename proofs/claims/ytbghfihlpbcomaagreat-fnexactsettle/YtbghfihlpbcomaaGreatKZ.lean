/- A rank of placed uses: an element is added. -/
import Derived.Test.YtbghfihlpbcomaaGreatKQ
import Derived.Deep.RegionHeld3
import Derived.Test.YtbghfihlpbcomaaGreatCB
import Derived.Deep.WholeRow
import Derived.Laws.Tables
import Derived.WalkMore
namespace Go.Proofs.YtbghfihlpbcomaaGreat
open Go.RowKit Go.Lib

theorem vs_one (e : PlV) : ∀ u ∈ e.cs, u.oneCell' = true := by intro u hu; simp [PlV.cs] at hu; rcases hu with rfl | rfl | rfl | rfl | rfl | rfl <;> rfl
theorem flat_one (es : List PlV) : ∀ u ∈ flatPls es, u.oneCell' = true := by
  intro u hu
  simp only [flatPls, List.mem_flatMap] at hu
  obtain ⟨e, _, h⟩ := hu
  exact vs_one e u h
theorem flat_take (es : List PlV) (i : Nat) : (flatPls es).take (i * 6) = flatPls (es.take i) := by
  induction es generalizing i with
  | nil => simp [flatPls]
  | cons e es ih =>
    cases i with
    | zero => simp [flatPls]
    | succ i => rw [show (i + 1) * 6 = i * 6 + 1 + 1 + 1 + 1 + 1 + 1 by omega, flatPls_cons]; simp only [List.take_succ_cons, ih, flatPls_cons]
theorem flat_drop (es : List PlV) (i : Nat) : (flatPls es).drop (i * 6) = flatPls (es.drop i) := by
  induction es generalizing i with
  | nil => simp [flatPls]
  | cons e es ih =>
    cases i with
    | zero => simp
    | succ i => rw [show (i + 1) * 6 = i * 6 + 1 + 1 + 1 + 1 + 1 + 1 by omega, flatPls_cons]; simp only [List.drop_succ_cons, ih]
def putAt (es : List PlV) (i : Nat) (t : PlV) : List PlV := es.take i ++ t :: es.drop i
theorem flat_putAt (es : List PlV) (i : Nat) (t : PlV) : (flatPls es).take (i * 6) ++ t.cs ++ (flatPls es).drop (i * 6) = flatPls (putAt es i t) := by
  rw [flat_take, flat_drop]; simp [putAt, flatPls]

theorem cInsert (base : Nat) (v : Value) (i vb : Nat) (es : List PlV) (t : PlV) (w : World) (ho : w.ownsRow base 131 6 v es.length (flatPls es)) (hn : es.length ≤ 1000) (hi : i ≤ es.length) (hB : base ≤ w.heap.size)
    (hvb : w.heap[vb]? = some (.cells t.cs.toArray 131 (0, 0))) (hne : v.ownBlock ≠ some vb) :
    Calls Tryz.prog 103 #[v, .int .i64 i, .slice (some ⟨vb, 0, none⟩) 1 1] w (InsPls w base v es.length (flatPls (putAt es i t))) := by
  rw [← flat_putAt]
  by_cases h : i = es.length
  · subst h
    rw [List.drop_of_length_le (by rw [flatPls_len]; exact Nat.le_refl _), List.take_of_length_le (by rw [flatPls_len]; exact Nat.le_refl _), List.append_nil]
    refine cInsPls_end base v es.length vb _ t.cs w ho hn hB rfl (fun j u hj => ?_) (vs_one t)
    rw [addN]; simp [World.cell?, hvb, hj]
  · rcases ho.2 with ⟨_, h0⟩ | ⟨g, cap, cur, rfl, hg, hh, hnc, hcm, hcs, hx⟩
    · omega
    · by_cases hr : es.length + 1 ≤ cap
      · exact cInsPls_shift base g cap es.length i vb cur _ t.cs w hg hh hr hcm hcs hx (flatPls_len es) hn (by omega) rfl hvb (fun h => hne (by rw [h]; rfl)) (vs_one t) (flat_one es)
      · exact cInsPls_grow base g cap es.length i vb cur _ t.cs w hB hh (by omega) hcs hx (flatPls_len es) hn (by omega) rfl hvb (vs_one t) (flat_one es)

/-- An element stands in the rank, and nothing else turned but the rank's cell and its row. -/
structure Added (ty : TypeId) (w w' : World) (base rb ro : Nat) (cs : Array Value) (v : Value) (es : List PlV) (t : PlV) : Prop where
  ex : ∃ v' p, w'.heap[rb]? = some (.cells (cs.setIfInBounds ro v') ty (0, 0)) ∧ w'.ownsRow base 131 6 v' (es.length + 1) (flatPls (putAt es p t)) ∧ p ≤ es.length ∧ (∀ i, i < p → Les (es.getD i PlV.zero) t) ∧ (∀ i, p ≤ i → i < es.length → ¬ Les (es.getD i PlV.zero) t) ∧ (v'.ownBlock = v.ownBlock ∨ ∃ g, v'.ownBlock = some g ∧ w.heap.size ≤ g)
  os : w'.os = w.os
  tape : w'.tape = w.tape
  output : w'.output = w.output
  size : w.heap.size ≤ w'.heap.size
  block : ∀ k, k < w.heap.size → k ≠ rb → some k ≠ v.ownBlock → w'.heap[k]? = w.heap[k]?

theorem bdrew {B : Nat} {a w : World} (h : Below B a w) : Below B a w.drew := ⟨h.os, h.tape, h.output, h.size, h.block⟩
theorem ins_parts {w w' : World} {base n : Nat} {v : Value} {xs : List Value} {e : Ending} (h : InsPls w base v n xs e w') : ∃ v', e = .returned v' ∧ w'.ownsRow base 131 6 v' (n + 1) xs ∧ w.grownBy w' v.ownBlock ∧ Hid (v'.ownBlock = v.ownBlock ∨ v'.ownBlock = some w.heap.size) := h
/-- A block of another type than the row stands behind an append. -/
theorem blk_app {w w' : World} {base e sz n : Nat} {v : Value} {xs : List Value} (ho : w.ownsRow base e sz v n xs) (hg : w.grownBy w' v.ownBlock) {g : Nat} {cs : Array Value} {t : TypeId} {f : Nat × Nat} (h : w.heap[g]? = some (.cells cs t f)) (hne : t ≠ e) : w'.heap[g]? = some (.cells cs t f) := by
  refine (hg.block g (lt_of_block h) ?_).trans h
  intro hv
  rcases ho.2 with ⟨rfl, _⟩ | ⟨g', cap', cur, rfl, _, hh, _⟩
  · simp [Value.ownBlock] at hv
  · simp only [Value.ownBlock, Option.some.injEq] at hv
    subst hv
    rw [h] at hh
    simp only [Option.some.injEq, Obj.cells.injEq] at hh
    exact hne hh.2.1
theorem rank_cell {w : World} {rb ro : Nat} {cs : Array Value} {t : TypeId} {v : Value} (h : w.heap[rb]? = some (.cells cs t (0, 0))) (hc : cs[ro]? = some v) : w.cell? ⟨rb, ro, none⟩ = some v ∧ w.frozen? ⟨rb, ro, none⟩ = false := by
  constructor
  · simp [World.cell?, h, hc]
  · simp [World.frozen?, h]
theorem added_fin {w w2 w4 : World} {base rb ro : Nat} {cs : Array Value} {v v' : Value} {es : List PlV} {t : PlV} {p : Nat} {o : Obj} {ty : TypeId} (hty : ty ≠ 131) (hr : w.heap[rb]? = some (.cells cs ty (0, 0))) (ho : w.ownsRow base 131 6 v es.length (flatPls es)) (HB : Below w.heap.size w w2)
    (hp1 : p ≤ es.length) (hp2 : ∀ i, i < p → Les (es.getD i PlV.zero) t) (hp3 : ∀ i, p ≤ i → i < es.length → ¬ Les (es.getD i PlV.zero) t)
    (hO : w4.ownsRow base 131 6 v' (es.length + 1) (flatPls (putAt es p t))) (hG : ((w2.alloc o).drew).grownBy w4 v.ownBlock) (hH : Hid (v'.ownBlock = v.ownBlock ∨ v'.ownBlock = some ((w2.alloc o).drew).heap.size)) : Added ty w (w4.setCell ⟨rb, ro, none⟩ v') base rb ro cs v es t := by
  have hAl := balloc w2 o
  have ho3 : ((w2.alloc o).drew).ownsRow base 131 6 v es.length (flatPls es) := own_keep (own_keep ho HB) (bdrew hAl)
  have hrs := lt_of_block hr
  have hr2 := (HB.block rb hrs).trans hr
  have hr3 : ((w2.alloc o).drew).heap[rb]? = some (.cells cs ty (0, 0)) := (hAl.block rb (Nat.lt_of_lt_of_le hrs HB.size)).trans hr2
  have hr4 := blk_app ho3 hG hr3 hty
  have hst : (w4.setCell ⟨rb, ro, none⟩ v').heap[rb]? = some (.cells (cs.setIfInBounds ro v') ty (0, 0)) := by
    rw [setCell_eq_setRow w4 rb ro cs _ _ v' hr4]
    exact setRow_heap w4 rb cs _ _ _ hr4
  refine ⟨⟨v', p, hst, own_set hO (fun k hk => ?_), hp1, hp2, hp3, ?_⟩, ?_, ?_, ?_, ?_, fun k hk hne hnr => ?_⟩
  · rcases hO.2 with ⟨rfl, _⟩ | ⟨g', cap', cur, rfl, _, hh, _⟩
    · simp [Value.ownBlock] at hk
    · simp only [Value.ownBlock, Option.some.injEq] at hk
      rintro rfl
      subst hk
      rw [hr4] at hh
      simp only [Option.some.injEq, Obj.cells.injEq] at hh
      exact hty hh.2.1
  · rcases hH.out with h | h
    · exact .inl h
    · exact .inr ⟨_, h, Nat.le_trans HB.size hAl.size⟩
  · exact hG.os.trans HB.os
  · exact hG.tape.trans HB.tape
  · exact hG.output.trans HB.output
  · have h1 := HB.size; have h2 := hAl.size; have h3 := hG.size; simp only [World.size_setCell]; exact Nat.le_trans h1 (Nat.le_trans h2 h3)
  · rw [Below.heap_setCell _ _ _ _ (fun h => hne h), hG.block k (by have h1 := HB.size; have h2 := hAl.size; show k < (w2.alloc o).heap.size; omega) hnr]
    exact (hAl.block k (Nat.lt_of_lt_of_le hk HB.size)).trans (HB.block k hk)

set_option maxRecDepth 20000 in
set_option maxHeartbeats 3200000 in
theorem cAdd (ty : TypeId) (hty : ty ≠ 131) (base rb ro : Nat) (cs : Array Value) (v : Value) (es : List PlV) (t : PlV) (w : World) (hr : w.heap[rb]? = some (.cells cs ty (0, 0))) (hc : cs[ro]? = some v) (ho : w.ownsRow base 131 6 v es.length (flatPls es)) (hn : es.length ≤ 1000) (hs : es.Pairwise Les) (hB : base ≤ w.heap.size) :
    Calls Tryz.prog 88 #[.pointer (some ⟨rb, ro, none⟩), t.val] w fun e w' => e = .returned (.tuple #[]) ∧ Added ty w w' base rb ro cs v es t := by
  have hW := balloc w (.cells t.cs.toArray 131)
  have hBx := Bx6p.new w t 131
  have c0 : w.cell? ⟨rb, ro, none⟩ = some v := by simp [World.cell?, hr, hc]
  have CS := fun a cap w hz => cSearch a cap es t w hz hs hn
  obtain ⟨va, vc, rfl⟩ := own_form ho
  have hrs : rb < w.heap.size := lt_of_block hr
  generalize hT : t = T at *
  obtain ⟨⟨te, td, tf, tt, tp⟩, tk⟩ := t
  unfold PlV.val PlV.cs at *
  subst hT
  dsimp only at *
  replace c0 := ble hW c0
  have hZ := (Pls.own ho).below hW
  go_enter Tryz.func88, Tryz.ntmps88
  go_wp2
  generalize hv1 : w.alloc (.cells [.int .i64 te, .int .i64 td, .int .i64 tf, .int .i64 tt, .int .i64 tp, .int .i64 tk].toArray 131) = w1 at *
  obtain ⟨t0, t1, t2, t3, t4, t5⟩ := hBx.parts
  have hZd : Pls w1.drew va es := hZ
  go_region_held3 (fun w' => w'.cell? ⟨rb, ro, none⟩ = some (.slice va es.length vc) ∧ w'.cell? ⟨w.heap.size, 0, none⟩ = some (.int .i64 te) ∧ w'.cell? ⟨w.heap.size, 1, none⟩ = some (.int .i64 td) ∧ w'.cell? ⟨w.heap.size, 2, none⟩ = some (.int .i64 tf) ∧ w'.cell? ⟨w.heap.size, 3, none⟩ = some (.int .i64 tt) ∧ w'.cell? ⟨w.heap.size, 4, none⟩ = some (.int .i64 tp) ∧ w'.cell? ⟨w.heap.size, 5, none⟩ = some (.int .i64 tk)) (go_keep) (first
    | (go_at_call 101; with_reducible refine (CS _ _ _ hZd).mono ?_; rintro e w2 ⟨p, b, rfl, hp1, hp2, hp3, hb2⟩; replace hb2 := undrew hb2; have v0 := ble hb2 c0; have v1 := ble hb2 t0; have v2 := ble hb2 t1; have v3 := ble hb2 t2; have v4 := ble hb2 t3; have v5 := ble hb2 t4; have v6 := ble hb2 t5))
  have HB := btrans hW hb2
  have ho2 := own_keep ho HB
  have hr2 := (HB.block rb hrs).trans hr
  have hws : w.heap.size < w2.heap.size := cell_lt v1
  have hrs2 : rb < w2.heap.size := cell_lt v0
  have hB2 : base ≤ w2.heap.size := by have := HB.size; omega
  have hAl := balloc w2 (.cells #[.int .i64 te, .int .i64 td, .int .i64 tf, .int .i64 tt, .int .i64 tp, .int .i64 tk] 131)
  have ho3 : ((w2.alloc (.cells #[.int .i64 te, .int .i64 td, .int .i64 tf, .int .i64 tt, .int .i64 tp, .int .i64 tk] 131)).drew).ownsRow base 131 6 (.slice va es.length vc) es.length (flatPls es) := own_keep ho2 (bdrew hAl)
  have hr3 : ((w2.alloc (.cells #[.int .i64 te, .int .i64 td, .int .i64 tf, .int .i64 tt, .int .i64 tp, .int .i64 tk] 131)).drew).heap[rb]? = some (.cells cs ty (0, 0)) := (hAl.block rb hrs2).trans hr2
  have CI := cInsert base (.slice va es.length vc) p w2.heap.size es ⟨⟨te, td, tf, tt, tp⟩, tk⟩ ((w2.alloc (.cells #[.int .i64 te, .int .i64 td, .int .i64 tf, .int .i64 tt, .int .i64 tp, .int .i64 tk] 131)).drew) ho3 hn hp1 (by have := hAl.size; show base ≤ (w2.alloc _).heap.size; omega) (heap_alloc_new w2 _) (fun h => by have := own_blk_lt ho2 _ h; omega)
  have hFin : Hid (∀ v' w4, w4.ownsRow base 131 6 v' (es.length + 1) (flatPls (putAt es p ⟨⟨te, td, tf, tt, tp⟩, tk⟩)) → ((w2.alloc (.cells #[.int .i64 te, .int .i64 td, .int .i64 tf, .int .i64 tt, .int .i64 tp, .int .i64 tk] 131)).drew).grownBy w4 (Value.ownBlock (.slice va es.length vc)) → Hid (Value.ownBlock v' = Value.ownBlock (.slice va es.length vc) ∨ Value.ownBlock v' = some ((w2.alloc (.cells #[.int .i64 te, .int .i64 td, .int .i64 tf, .int .i64 tt, .int .i64 tp, .int .i64 tk] 131)).drew).heap.size) → Added ty w (w4.setCell ⟨rb, ro, none⟩ v') base rb ro cs (.slice va es.length vc) es ⟨⟨te, td, tf, tt, tp⟩, tk⟩) := hide (fun v' w4 hO hG hH => added_fin hty hr ho HB hp1 hp2 hp3 hO hG hH)
  have hRb : ∀ w4, ((w2.alloc (.cells #[.int .i64 te, .int .i64 td, .int .i64 tf, .int .i64 tt, .int .i64 tp, .int .i64 tk] 131)).drew).grownBy w4 (Value.ownBlock (.slice va es.length vc)) → w4.cell? ⟨rb, ro, none⟩ = some (.slice va es.length vc) ∧ w4.frozen? ⟨rb, ro, none⟩ = false := fun w4 hG => rank_cell (blk_app ho3 hG hr3 hty) hc
  clear hZ hZd hv1 t0 t1 t2 t3 t4 t5 c0 hBx CS hp2 hp3 ho2 hr2 hW hb2 hr3 ho3 hAl
  go_wp2
  go_region_with (first
    | (go_at_call 103; with_reducible refine CI.mono ?_; rintro e w4 hI; obtain ⟨v', rfl, hO, hG, hH⟩ := ins_parts hI; obtain ⟨z0, z1⟩ := hRb w4 hG; obtain ⟨va', vc', rfl⟩ := own_form hO))
  all_goals
    go_wp2
    go_end0
    exact ⟨rfl, hFin.out _ _ hO hG hH⟩
end Go.Proofs.YtbghfihlpbcomaaGreat

/- The uses by their edges: sixty ranks in one block. -/
namespace Go.Proofs.YtbghfihlpbcomaaGreat
open Go.RowKit Go.Lib

/-- Sixty ranks in block r: the rank of each edge, their rows apart. -/
def Rks (w : World) (base r : Nat) (us : List RideV) (k : Nat) (vs : Array Value) : Prop :=
  vs.size = 60 ∧ w.heap[r]? = some (.cells vs 104 (0, 0)) ∧
    (∀ e, e < 60 → ∃ v rs, vs[e]? = some v ∧ RowOf us k e rs ∧ rs.length ≤ k ∧ w.ownsRow base 131 6 v rs.length (flatPls rs)) ∧
    ∀ (e e' : Nat) (v v' : Value) (b : Nat), e ≠ e' → vs[e]? = some v → vs[e']? = some v' → v.ownBlock = some b → v'.ownBlock ≠ some b
theorem Rks.below {w w' : World} {base r k : Nat} {us : List RideV} {vs : Array Value} (h : Rks w base r us k vs) (hb : Below w.heap.size w w') : Rks w' base r us k vs := by
  obtain ⟨h1, h2, h3, h4⟩ := h
  refine ⟨h1, (hb.block r (lt_of_block h2)).trans h2, fun e he => ?_, h4⟩
  obtain ⟨v, rs, a1, a2, a3, a4⟩ := h3 e he
  exact ⟨v, rs, a1, a2, a3, own_keep a4 hb⟩
theorem Rks.skip {w : World} {base r k : Nat} {us : List RideV} {vs : Array Value} (h : Rks w base r us k vs) (g : rideB (rdA us k) = false) : Rks w base r us (k + 1) vs := by
  obtain ⟨h1, h2, h3, h4⟩ := h
  refine ⟨h1, h2, fun e he => ?_, h4⟩
  obtain ⟨v, rs, a1, a2, a3, a4⟩ := h3 e he
  exact ⟨v, rs, a1, a2.skip (by rw [g]; simp), by omega, a4⟩
theorem Rks.add {w w' : World} {base r k e : Nat} {us : List RideV} {vs : Array Value} {v : Value} {rs : List PlV} (h : Rks w base r us k vs) (he : e < 60) (g : rideB (rdA us k) = true) (ge : (rdA us k).e = e) (hv : vs[e]? = some v) (hR : RowOf us k e rs) (hk : rs.length ≤ k)
    (hA : Added 104 w w' base r e vs v rs ⟨rdA us k, k⟩) : ∃ vs', Rks w' base r us (k + 1) vs' := by
  obtain ⟨h1, h2, h3, h4⟩ := h
  obtain ⟨⟨v', p, q1, q2, q3, q4, q5, q6⟩, -, -, -, -, hbl⟩ := hA
  have same : (vs.setIfInBounds e v')[e]? = some v' := by simp [h1, he]
  have other : ∀ f, f ≠ e → (vs.setIfInBounds e v')[f]? = vs[f]? := fun f hf => by rw [Array.getElem?_setIfInBounds]; simp [Ne.symm hf]
  have hlt : ∀ (f : Nat) (u : Value) (b : Nat), vs[f]? = some u → u.ownBlock = some b → b < w.heap.size := fun f u b hf hb => by
    have hf60 : f < 60 := by
      rw [← h1]
      exact (Array.getElem?_eq_some_iff.1 hf).1
    obtain ⟨u', rs', a1, a2, a3, a4⟩ := h3 f hf60
    rw [hf] at a1
    cases a1
    exact own_blk_lt a4 b hb
  refine ⟨vs.setIfInBounds e v', by simpa using h1, q1, fun f hf => ?_, ?_⟩
  · by_cases hfe : f = e
    · subst hfe
      refine ⟨v', putAt rs p ⟨rdA us k, k⟩, same, hR.add g ge q3 (fun t ht => cmpP_neg.2 (q4 t ht)) (fun t ht1 ht2 hc => q5 t ht1 ht2 (cmpP_neg.1 hc)), ?_, ?_⟩
      · unfold putAt; simp; omega
      · have hl : (putAt rs p ⟨rdA us k, k⟩).length = rs.length + 1 := by unfold putAt; simp; omega
        rw [hl]; exact q2
    · obtain ⟨u, rs', a1, a2, a3, a4⟩ := h3 f hf
      refine ⟨u, rs', (other f hfe).trans a1, a2.skip (fun hx => hfe (by have := hx.2; omega)), by omega, ?_⟩
      rcases a4.2 with ⟨rfl, h0⟩ | ⟨gb, cap, cur, rfl, hB, hh, hrest⟩
      · exact ⟨a4.1, .inl ⟨rfl, h0⟩⟩
      · refine ⟨a4.1, .inr ⟨gb, cap, cur, rfl, hB, ?_, hrest⟩⟩
        rw [hbl gb (lt_of_block hh) ?_ ?_]
        · exact hh
        · rintro rfl
          rw [h2] at hh
          simp only [Option.some.injEq, Obj.cells.injEq] at hh
          exact absurd hh.2.1 (by decide)
        · intro hx
          exact h4 f e _ v gb hfe a1 hv rfl hx.symm
  · intro f f' u u' b hff hu hu' hb
    by_cases hfe : f = e
    · subst hfe
      rw [same] at hu
      cases hu
      rw [other f' (Ne.symm hff)] at hu'
      intro hb'
      rcases q6 with q6 | ⟨gg, q6, q7⟩
      · rw [q6] at hb
        exact h4 f f' v u' b hff hv hu' hb hb'
      · rw [q6] at hb
        have e1 : gg = b := by simpa using hb
        have := hlt f' u' b hu' hb'
        omega
    · rw [other f hfe] at hu
      by_cases hfe' : f' = e
      · subst hfe'
        rw [same] at hu'
        cases hu'
        intro hb'
        rcases q6 with q6 | ⟨gg, q6, q7⟩
        · rw [q6] at hb'
          exact h4 f f' u v b hff hu hv hb hb'
        · rw [q6] at hb'
          have e1 : gg = b := by simpa using hb'
          have := hlt f u b hu hb
          omega
      · rw [other f' hfe'] at hu'
        exact h4 f f' u u' b hff hu hu' hb
theorem Rks.start {w : World} {r : Nat} {us : List RideV} (base : Nat) (h : w.heap[r]? = some (.cells (Array.replicate 60 (.slice none 0 0)) 104 (0, 0))) : Rks w base r us 0 (Array.replicate 60 (.slice none 0 0)) := by
  refine ⟨by simp, h, fun e he => ⟨.slice none 0 0, [], by simp [he], RowOf.nil us e, Nat.le_refl _, World.ownsRow_nil _ _ _ _⟩, ?_⟩
  intro e e' v v' b _ h1 _ hb
  rw [Array.getElem?_replicate] at h1
  split at h1
  · cases h1; simp [Value.ownBlock] at hb
  · cases h1
/-- What byEdge answers: the ranks of all edges. -/
def AnsRks (w : World) (us : List RideV) (e : Ending) (w' : World) : Prop := ∃ vs, e = .returned (.agg vs) ∧ Below w.heap.size w w' ∧ vs.size = 60 ∧ ∀ e, e < 60 → ∃ v rs, vs[e]? = some v ∧ RowOf us us.length e rs ∧ rs.length ≤ us.length ∧ w'.ownsRow w.heap.size 131 6 v rs.length (flatPls rs)

theorem Added.keep {ty : TypeId} {w w' : World} {base rb ro : Nat} {cs : Array Value} {v : Value} {es : List PlV} {t : PlV} (hA : Added ty w w' base rb ro cs v es t) (ho : w.ownsRow base 131 6 v es.length (flatPls es)) {g : Nat} {c : Array Value} {tt : TypeId} {f : Nat × Nat} (h : w.heap[g]? = some (.cells c tt f)) (ht : tt ≠ 131) (hg : g ≠ rb) : w'.heap[g]? = some (.cells c tt f) := by
  rw [hA.block g (lt_of_block h) hg ?_]
  · exact h
  · intro hv
    rcases ho.2 with ⟨rfl, _⟩ | ⟨g', cap', cur, rfl, _, hh, _⟩
    · simp [Value.ownBlock] at hv
    · simp only [Value.ownBlock, Option.some.injEq] at hv
      subst hv
      rw [h] at hh
      simp only [Option.some.injEq, Obj.cells.injEq] at hh
      exact ht hh.2.1
theorem Added.below {ty : TypeId} {w0 w w' : World} {rb ro : Nat} {cs : Array Value} {v : Value} {es : List PlV} {t : PlV} (hA : Added ty w w' w0.heap.size rb ro cs v es t) (ho : w.ownsRow w0.heap.size 131 6 v es.length (flatPls es)) (hb : Below w0.heap.size w0 w) (hrb : w0.heap.size ≤ rb) : Below w0.heap.size w0 w' :=
  ⟨hA.os.trans hb.os, hA.tape.trans hb.tape, hA.output.trans hb.output, Nat.le_trans hb.size hA.size, fun k hk => (hA.block k (Nat.lt_of_lt_of_le hk hb.size) (by omega) (fun e => by have := own_from ho (Nat.le_refl _) k e.symm; omega)).trans (hb.block k hk)⟩
theorem grow_below' {w0 w w' : World} {r : Option Nat} (hb : Below w0.heap.size w0 w) (h : w.grownBy w' r) (hr : ∀ k, r = some k → w0.heap.size ≤ k) : Below w0.heap.size w0 w' :=
  ⟨h.os.trans hb.os, h.tape.trans hb.tape, h.output.trans hb.output, Nat.le_trans hb.size h.size, fun k hk => (h.block k (Nat.lt_of_lt_of_le hk hb.size) (fun e => by have := hr k e.symm; omega)).trans (hb.block k hk)⟩
theorem wpList_load_run {P : Program} {ops : Array Oper} {rest : List Oper} {op : Oper} {a : Act} {w : World} {Q : Exit → Act → World → Prop} (hgd : op.guard = none) (ty : TypeId) (x : Operand) (ho : op.op = .load ty x) (p : Addr) (hx : a.eval x = .pointer (some p)) {v : Value} (hr : (loadVar ty p).run P w = .ok v w)
    (h : wpList P ops Q rest (a.put op.dst v) w) : wpList P ops Q (op :: rest) a w := by
  refine wpList_plain hgd fun _ hK => ?_
  unfold Oper.wp execOp
  simp only [ho, hx, Instr.loadAt, Instr.sureAddr, Sem.run_bind, Sem.run_pure, Result.andThen_ok, hr]
  exact hK _ _ h
theorem wpList_store_run {P : Program} {ops : Array Oper} {rest : List Oper} {op : Oper} {a : Act} {w w' : World} {Q : Exit → Act → World → Prop} (hgd : op.guard = none) (ty : TypeId) (x y : Operand) (ho : op.op = .store ty x y) (p : Addr) (v : Value) (hx : a.eval x = .pointer (some p)) (hy : a.eval y = v) (hr : (storeVar ty p v).run P w = .ok () w')
    (h : wpList P ops Q rest (a.put op.dst undef) w') : wpList P ops Q (op :: rest) a w := by
  refine wpList_plain hgd fun _ hK => ?_
  unfold Oper.wp execOp
  simp only [ho, hx, hy, Instr.storeAt, Instr.sureAddr, Sem.run_bind, Sem.run_pure, Result.andThen_ok, hr]
  exact hK _ _ h
theorem below2 (w : World) (o1 o2 : Obj) : Below w.heap.size w ((w.alloc o1).alloc o2) := btrans (balloc _ _) (balloc _ _)
theorem blocks2 (w : World) (o1 o2 : Obj) : ((w.alloc o1).alloc o2).heap[w.heap.size]? = some o1 ∧ ((w.alloc o1).alloc o2).heap[w.heap.size + 1]? = some o2 := by
  refine ⟨blk_keep (balloc _ _) (one_block w o1), ?_⟩
  have h := one_block (w.alloc o1) o2
  rwa [sz1] at h
theorem size60 : (Tryz.prog.info? 104).map (·.size) = some 60 := by kernel_rfl
abbrev Z60 : Array Value := Array.replicate 60 (.slice none 0 0)

set_option maxRecDepth 20000 in
set_option maxHeartbeats 6400000 in
theorem cByEdge (a : Option Addr) (cap : Nat) (us : List RideV) (w : World) (hz : Rides w a us) (hl : us.length ≤ 300) :
    Calls Tryz.prog 65 #[.slice a us.length cap] w (AnsRks w us) := by
  go_enter Tryz.func65, Tryz.ntmps65
  go_wp2_with fail
  go_loopw [8] (fun i wr => ∃ (k : Nat) (vs : Array Value), k ≤ us.length ∧ i = .int .i64 k ∧ Rks wr w.heap.size (w.heap.size + 1) us k vs ∧ wr.heap[w.heap.size]? = some (.cells Z60 104 (0, 0)) ∧ Below w.heap.size w wr) (fun i _ => us.length - (intOf i).toNat)
  case atStart => exact ⟨0, Z60, Nat.zero_le _, rfl, Rks.start _ (blocks2 w (.cells Z60 104) (.cells Z60 104)).2, (blocks2 w (.cells Z60 104) (.cells Z60 104)).1, below2 w (.cells Z60 104) (.cells Z60 104)⟩
  case round =>
    obtain ⟨k, vs, hk, rfl, hR, hX, hb⟩ := hrel
    by_cases hlt : k < us.length
    · have hlt' : (k : Int) < (us.length : Int) := by omega
      rcases hz with hz | ⟨b, off, rfl, hc⟩
      · simp [hz] at hlt
      obtain ⟨p0, p1, p2, p3, p4⟩ := hc k hlt
      replace p0 := ble hb p0
      replace p1 := ble hb p1
      replace p2 := ble hb p2
      replace p3 := ble hb p3
      replace p4 := ble hb p4
      have CU := cUseI (us.getD k RideV.zero)
      have hu : Hid (us.getD k RideV.zero = rdA us k) := rfl
      generalize us.getD k RideV.zero = u at *
      obtain ⟨ue, ud, uf, ut, up⟩ := u
      unfold RideV.val at CU
      dsimp only at *
      have hbA := balloc wr (.cells #[.int .i64 ue, .int .i64 ud, .int .i64 uf, .int .i64 ut, .int .i64 up] 98)
      have hXA := one_block wr (.cells #[.int .i64 ue, .int .i64 ud, .int .i64 uf, .int .i64 ut, .int .i64 up] 98)
      clear hc
      go_wp2_with fail
      refine (CU _).mono ?_
      rintro e w2 ⟨rfl, hb2⟩
      have hbB := btrans hbA hb2
      have hR2 := hR.below hbB
      have hX2 := blk_keep hbB hX
      have hb3 := btrans hb hbB
      replace hXA := blk_keep hb2 hXA
      clear hbA hbB hb2 p0 p1 p2 p3 p4 hX hb CU
      cases hok : rideB ⟨ue, ud, uf, ut, up⟩
      · have hR3 := hR2.skip (by rw [← hu.out]; exact hok)
        replace hok := hide hok
        clear hR2 hR hXA
        go_wp2
        go_roundw
        case rel => exact ⟨k + 1, vs, by omega, by go_num, hR3, hX2, hb3⟩
        case measure => simp [intOf]; omega
      · obtain ⟨g0, g1, -⟩ := rideB_iff.1 hok
        dsimp only at g0 g1
        obtain ⟨en, rfl⟩ : ∃ en : Nat, ue = (en : Int) := ⟨ue.toNat, by omega⟩
        have hen : en < 60 := by omega
        have hen' : (en : Int) < 60 := by omega
        have hge : (rdA us k).e = en := by rw [← hu.out]
        have hgo : rideB (rdA us k) = true := by rw [← hu.out]; exact hok
        obtain ⟨v, rs, hv, hRow, hrs, hown⟩ := hR2.2.2.1 en hen
        have hRd : Rks w2.drew w.heap.size (w.heap.size + 1) us k vs := hR2.below (bdrew (Below.refl _ _))
        have CA := cAdd 104 (by decide) w.heap.size (w.heap.size + 1) en vs v rs ⟨⟨en, ud, uf, ut, up⟩, k⟩ w2.drew hR2.2.1 hv hown (by omega) hRow.1 hb3.size
        have ub3 : ∀ w3, Added 104 w2.drew w3 w.heap.size (w.heap.size + 1) en vs v rs ⟨⟨en, ud, uf, ut, up⟩, k⟩ → w3.cell? ⟨wr.heap.size, 0, none⟩ = some (.int .i64 en) ∧ w3.cell? ⟨wr.heap.size, 1, none⟩ = some (.int .i64 ud) ∧ w3.cell? ⟨wr.heap.size, 2, none⟩ = some (.int .i64 uf) ∧ w3.cell? ⟨wr.heap.size, 3, none⟩ = some (.int .i64 ut) ∧ w3.cell? ⟨wr.heap.size, 4, none⟩ = some (.int .i64 up) := fun w3 hA => by
          have h := hA.keep hown (show w2.drew.heap[wr.heap.size]? = _ from hXA) (by decide) (by have := lt_of_block hR.2.1; omega)
          exact ⟨by simp [World.cell?, h], by simp [World.cell?, h], by simp [World.cell?, h], by simp [World.cell?, h], by simp [World.cell?, h]⟩
        have hfin : Hid (∀ w3, Added 104 w2.drew w3 w.heap.size (w.heap.size + 1) en vs v rs ⟨⟨en, ud, uf, ut, up⟩, k⟩ → ∃ vs', Rks w3 w.heap.size (w.heap.size + 1) us (k + 1) vs' ∧ w3.heap[w.heap.size]? = some (.cells Z60 104 (0, 0)) ∧ Below w.heap.size w w3) := hide (fun w3 hA => by
          have hA2 := hA
          rw [hu.out] at hA2
          obtain ⟨vs', h1⟩ := hRd.add hen hgo hge hv hRow hrs hA2
          exact ⟨vs', h1, hA.keep hown (show w2.drew.heap[w.heap.size]? = _ from hX2) (by decide) (by omega), hA.below hown (bdrew hb3) (by omega)⟩)
        obtain ⟨u0, u1, u2, u3, u4⟩ : Bx5 w2 wr.heap.size (.int .i64 en) (.int .i64 ud) (.int .i64 uf) (.int .i64 ut) (.int .i64 up) := ⟨by simp [World.cell?, hXA], by simp [World.cell?, hXA], by simp [World.cell?, hXA], by simp [World.cell?, hXA], by simp [World.cell?, hXA]⟩
        unfold PlV.val at CA
        dsimp only at CA
        clear hRd hRow hrs hR2 hR hX2 hb3 hXA hok hgo hge hu
        go_wp2_with fail
        go_region_held3 (fun w' => w'.cell? ⟨wr.heap.size, 0, none⟩ = some (.int .i64 en) ∧ w'.cell? ⟨wr.heap.size, 1, none⟩ = some (.int .i64 ud) ∧ w'.cell? ⟨wr.heap.size, 2, none⟩ = some (.int .i64 uf) ∧ w'.cell? ⟨wr.heap.size, 3, none⟩ = some (.int .i64 ut) ∧ w'.cell? ⟨wr.heap.size, 4, none⟩ = some (.int .i64 up)) (go_keep) (
          (go_at_call 88; with_reducible refine CA.mono ?_; rintro e w3 ⟨rfl, hA⟩; have v0 := (ub3 _ hA).1; have v1 := (ub3 _ hA).2.1; have v2 := (ub3 _ hA).2.2.1; have v3 := (ub3 _ hA).2.2.2.1; have v4 := (ub3 _ hA).2.2.2.2))
        obtain ⟨vs', h1, h2, h3⟩ := hfin.out _ hA
        clear hfin ub3 CA hA
        go_wp2
        go_roundw
        case rel => exact ⟨k + 1, vs', by omega, by go_num, h1, h2, h3⟩
        case measure => simp [intOf]; omega
    · obtain rfl : k = us.length := by omega
      have hnl : ¬ ((us.length : Int) < (us.length : Int)) := by omega
      have hall : vs.all (·.oneCell') = true := by
        rw [Array.all_eq_true_iff_forall_mem]
        intro x hx
        obtain ⟨i, hi, rfl⟩ := Array.mem_iff_getElem.1 hx
        obtain ⟨v, rs, a1, a2, a3, a4⟩ := hR.2.2.1 i (by have := hR.1; omega)
        have : vs[i] = v := by simpa [hi] using a1
        rw [this]
        obtain ⟨aa, cc, rfl⟩ := own_form a4
        rfl
      have hsz := hR.1
      have hld := run_loadVar_row (P := Tryz.prog) wr (w.heap.size + 1) _ 104 vs (0, 0) _ hR.2.1 Tryz.underlying104 rfl (by rw [hsz]; exact size60)
      have hst := run_storeVar_row (P := Tryz.prog) wr w.heap.size _ 104 Z60 vs hX (by rw [hsz]; exact size60) (by rw [hsz]; rfl) hall
      have hX3 : (wr.setRow w.heap.size vs).heap[w.heap.size]? = some (.cells vs 104 (0, 0)) := setRow_heap wr w.heap.size Z60 vs _ _ hX
      have hld3 := run_loadVar_row (P := Tryz.prog) (wr.setRow w.heap.size vs) w.heap.size _ 104 vs (0, 0) _ hX3 Tryz.underlying104 rfl (by rw [hsz]; exact size60)
      have hG : wr.grownBy (wr.setRow w.heap.size vs) (some w.heap.size) := ⟨rfl, rfl, rfl, by simp, fun k hk hne => setRow_other _ _ _ _ (fun h => hne (by rw [h]))⟩
      have hfin : Hid (AnsRks w us (.returned (.agg vs)) (wr.setRow w.heap.size vs)) := hide ⟨vs, rfl, grow_below' hb hG (fun k e => by cases e; exact Nat.le_refl _), hsz, fun e he => by
        obtain ⟨v, rs, a1, a2, a3, a4⟩ := hR.2.2.1 e he
        refine ⟨v, rs, a1, a2, a3, own_far a4 hG (fun k hk e => ?_)⟩
        cases e
        rcases a4.2 with ⟨rfl, _⟩ | ⟨g', cap', cur, rfl, _, hh, _⟩
        · simp [Value.ownBlock] at hk
        · simp only [Value.ownBlock, Option.some.injEq] at hk
          subst hk
          rw [hX] at hh
          simp only [Option.some.injEq, Obj.cells.injEq] at hh
          exact absurd hh.2.1 (by decide)⟩
      clear hR hX hX3 hG hall
      go_wp2_with (first
        | (refine wpList_load_run rfl 104 _ rfl _ rfl hld ?_)
        | (refine wpList_store_run rfl 104 _ _ rfl _ _ rfl rfl hst ?_))
      refine bodyPost_ret (v := .agg vs) ?_ rfl hfin.out
      simp only [results, Tryz.results65]
      simp [asAddr, hld3]
end Go.Proofs.YtbghfihlpbcomaaGreat

/- The first clash among the ranked uses of one edge. -/
namespace Go.Proofs.YtbghfihlpbcomaaGreat
open Go.RowKit Go.Lib
def AnsBest (w : World) (rs : List PlV) (h bi bj : Int) (e : Ending) (w' : World) : Prop := ∃ ri rj, e = .returned (.agg #[.int .i64 ri, .int .i64 rj]) ∧ BestOf rs h bi bj ri rj (fun _ _ => True) ∧ Below w.heap.size w w'
theorem set2 {w : World} {b : Nat} {x0 x1 : Value} {t : TypeId} (y0 y1 : Value) (h : w.heap[b]? = some (.cells #[x0, x1] t (0, 0))) :
    ((w.setCell ⟨b, 0, none⟩ y0).setCell ⟨b, 1, none⟩ y1).heap[b]? = some (.cells #[y0, y1] t (0, 0)) ∧ w.grownBy ((w.setCell ⟨b, 0, none⟩ y0).setCell ⟨b, 1, none⟩ y1) (some b) := by
  have h1 : (w.setCell ⟨b, 0, none⟩ y0).heap[b]? = some (.cells #[y0, x1] t (0, 0)) := by
    rw [setCell_eq_setRow w b 0 _ _ _ y0 h]
    exact setRow_heap w b _ _ _ _ h
  refine ⟨?_, gset (gset (World.grownBy.refl _ _) _ _) _ _⟩
  rw [setCell_eq_setRow _ b 1 _ _ _ y1 h1]
  exact setRow_heap _ b _ _ _ _ h1
theorem far_blk' {w w' : World} {r : Nat} (hgr : w.grownBy w' (some r)) {b : Nat} {o : Obj} (h : w.heap[b]? = some o) (hne : b ≠ r) : w'.heap[b]? = some o :=
  (hgr.block b (lt_of_block h) (fun e => hne (by simpa using e))).trans h
theorem blk6 {w : World} {g : Nat} {c0 c1 c2 c3 c4 c5 : Value} {t : TypeId} (h : w.heap[g]? = some (.cells #[c0, c1, c2, c3, c4, c5] t (0, 0))) :
    w.cell? ⟨g, 0, none⟩ = some c0 ∧ w.cell? ⟨g, 1, none⟩ = some c1 ∧ w.cell? ⟨g, 2, none⟩ = some c2 ∧ w.cell? ⟨g, 3, none⟩ = some c3 ∧ w.cell? ⟨g, 4, none⟩ = some c4 ∧ w.cell? ⟨g, 5, none⟩ = some c5 :=
  ⟨by simp [World.cell?, h], by simp [World.cell?, h], by simp [World.cell?, h], by simp [World.cell?, h], by simp [World.cell?, h], by simp [World.cell?, h]⟩

set_option maxRecDepth 20000 in
set_option maxHeartbeats 12800000 in
theorem cFirstAmong (a : Option Addr) (cap : Nat) (rs : List PlV) (h bi bj : Int) (w : World) (hz : Pls w a rs) (hl : rs.length ≤ 1000) (hcap : rs.length ≤ cap) (hr : Ranked rs) (hB : ∀ p, p < rs.length → rideB (plA rs p).u = true) (hh : inB h 0 60 = true) :
    Calls Tryz.prog 66 #[.slice a rs.length cap, .int .i64 h, .agg #[.int .i64 bi, .int .i64 bj]] w (AnsBest w rs h bi bj) := by
  obtain ⟨hh0, hh1⟩ := inB_true hh
  replace hh := hide hh
  replace hr := hide hr
  replace hB := hide hB
  have hW := below2 w (.cells #[.int .i64 bi, .int .i64 bj] 100) (.cells #[.int .i64 0, .int .i64 0] 100)
  obtain ⟨B0, B1⟩ := blocks2 w (.cells #[.int .i64 bi, .int .i64 bj] 100) (.cells #[.int .i64 0, .int .i64 0] 100)
  go_enter Tryz.func66, Tryz.ntmps66
  go_wp2_with fail
  go_step3
  go_wp2_with fail
  go_step3
  go_wp2_with fail
  go_loopw [14] (fun i wr => ∃ (k : Nat) (ri rj : Int), k ≤ rs.length ∧ i = .int .i64 k ∧ Hid (BestOf rs h bi bj ri rj (fun p _ => p < k)) ∧ wr.heap[w.heap.size]? = some (.cells #[.int .i64 ri, .int .i64 rj] 100) ∧ wr.heap[w.heap.size + 1]? = some (.cells #[.int .i64 0, .int .i64 0] 100) ∧ Below w.heap.size w wr) (fun i _ => rs.length - (intOf i).toNat)
  case atStart => exact ⟨0, bi, bj, Nat.zero_le _, rfl, hide (BestOf.start _ _ _ _ _ (fun p q => by omega)), B0, B1, hW⟩
  case round =>
    obtain ⟨k, ri, rj, hk, rfl, hQ, hX, hY, hb⟩ := hrel
    clear B0 B1 hW
    by_cases hlt : k < rs.length
    · have hlt' : (k : Int) < (rs.length : Int) := by omega
      rcases hz with hz | ⟨b, off, rfl, hc⟩
      · simp [hz] at hlt
      have hc2 := hc
      obtain ⟨p0, p1, p2, p3, p4, p5⟩ := (hc k hlt).parts
      replace p0 := ble hb p0
      replace p1 := ble hb p1
      replace p2 := ble hb p2
      replace p3 := ble hb p3
      replace p4 := ble hb p4
      replace p5 := ble hb p5
      have hx : Hid (plA rs k = rs.getD k PlV.zero) := rfl
      have hxB := hB.out k hlt
      rw [hx.out] at hxB
      generalize rs.getD k PlV.zero = x at *
      obtain ⟨⟨xe, xd, xf, xt, xp⟩, xk⟩ := x
      obtain ⟨-, -, -, x1, x2, x3⟩ := rideB_iff.1 hxB
      dsimp only at *
      have hwr : w.heap.size < wr.heap.size := lt_of_block hX
      have hbA := balloc wr (.cells #[.int .i64 xe, .int .i64 xd, .int .i64 xf, .int .i64 xt, .int .i64 xp, .int .i64 xk] 131)
      have hA := one_block wr (.cells #[.int .i64 xe, .int .i64 xd, .int .i64 xf, .int .i64 xt, .int .i64 xp, .int .i64 xk] 131)
      replace hX := blk_keep hbA hX
      replace hY := blk_keep hbA hY
      replace hb := btrans hb hbA
      have hw1 : IntKind.i64.wrap ((k : Int) + 1) = (k : Int) + 1 := wrap_in _ (by omega) (by omega)
      have hk0 : (0 : Int) ≤ (k : Int) + 1 := by omega
      have hk1 : (k : Int) + 1 ≤ (rs.length : Int) := by omega
      have hk2 : ((k : Int) + 1).toNat = k + 1 := by omega
      have hwx : IntKind.i64.wrap (xt + h) = xt + h := wrap_in _ (by omega) (by omega)
      clear hbA hc
      obtain ⟨wA, hwA⟩ : ∃ wA, wA = wr.heap.size := ⟨_, rfl⟩
      rw [← hwA] at hA
      by_cases hce : cap = k + 1
      · have hke : rs.length = k + 1 := by omega
        have hQ2 := hide (hQ.out.mono (T := fun p _ => p < k + 1) (fun p q g _ => by have h1 := g.1; have h2 := g.2.1; omega))
        have hz0 : rs.length - (k + 1) = 0 := by omega
        clear hQ
        go_wp2_with fail
        go_loop [24] (fun i => i = .int .i64 0) (fun _ => 0)
        case atStart => rfl
        case round =>
          cases hrel
          go_wp2
          go_roundw
          case rel => exact ⟨k + 1, ri, rj, by omega, by go_num, hQ2, hX, hY, hb⟩
          case measure => simp [intOf]; omega
      go_wp2_with fail
      rw [← hwA]
      have hN : Hid (wr.heap.size = wA) := hide hwA.symm
      have hwlt : Hid (w.heap.size < wA) := hide (by have := hwr; omega)
      generalize wr.alloc (.cells #[.int .i64 xe, .int .i64 xd, .int .i64 xf, .int .i64 xt, .int .i64 xp, .int .i64 xk] 131) = wo at *
      clear hwA
      go_loopw [24] (fun i wx => ∃ (j : Nat) (ri rj : Int), j ≤ rs.length - (k + 1) ∧ i = .int .i64 j ∧ Hid (BestOf rs h bi bj ri rj (fun p q => p < k ∨ (p = k ∧ q < k + 1 + j))) ∧ wx.heap[w.heap.size]? = some (.cells #[.int .i64 ri, .int .i64 rj] 100) ∧ wx.heap[w.heap.size + 1]? = some (.cells #[.int .i64 0, .int .i64 0] 100) ∧ wx.heap[wA]? = some (.cells #[.int .i64 xe, .int .i64 xd, .int .i64 xf, .int .i64 xt, .int .i64 xp, .int .i64 xk] 131) ∧ Below w.heap.size w wx) (fun i _ => rs.length - (k + 1) - (intOf i).toNat)
      case atStart => exact ⟨0, ri, rj, Nat.zero_le _, rfl, hide (hQ.out.mono (fun p q g hp => by have := g.1; omega)), hX, hY, hA, hb⟩
      case round =>
        obtain ⟨j, ri', rj', hj, rfl, hP, hX', hY', hA', hb'⟩ := hrel
        clear hX hY hA hb hQ p0 p1 p2 p3 p4 p5
        by_cases hjl : j < rs.length - (k + 1)
        · have hjl' : (j : Int) < ((rs.length - (k + 1) : Nat) : Int) := by omega
          have hq : k + 1 + j < rs.length := by omega
          have hw2 : IntKind.i64.wrap ((j : Int) + 1) = (j : Int) + 1 := wrap_in _ (by omega) (by omega)
          have hq6 := hc2 (k + 1 + j) hq
          rw [show off + (k + 1 + j) * 6 = off + (k + 1) * 6 + j * 6 by omega] at hq6
          obtain ⟨q0, q1, q2, q3, q4, q5⟩ := (hq6.below hb').parts
          have hy : Hid (plA rs (k + 1 + j) = rs.getD (k + 1 + j) PlV.zero) := rfl
          clear hq6
          generalize rs.getD (k + 1 + j) PlV.zero = y at *
          obtain ⟨⟨ye, yd, yf, yt, yp⟩, yk⟩ := y
          dsimp only at *
          have hbB := balloc wr (.cells #[.int .i64 ye, .int .i64 yd, .int .i64 yf, .int .i64 yt, .int .i64 yp, .int .i64 yk] 131)
          have hBk := one_block wr (.cells #[.int .i64 ye, .int .i64 yd, .int .i64 yf, .int .i64 yt, .int .i64 yp, .int .i64 yk] 131)
          replace hX' := blk_keep hbB hX'
          replace hY' := blk_keep hbB hY'
          replace hA' := blk_keep hbB hA'
          replace hb' := btrans hb' hbB
          have hTop : Hid (∀ (T : Nat → Nat → Prop), (∀ p q, T p q → (p < k ∨ (p = k ∧ q < k + 1 + j)) ∨ (p = k ∧ q = k + 1 + j)) ↔ ∀ p q, T p q → (p < k ∨ (p = k ∧ q < k + 1 + (j + 1)))) := hide (fun T => ⟨fun g p q t => by have := g p q t; omega, fun g p q t => by have := g p q t; omega⟩)
          obtain ⟨a0, a1, a2, a3, a4, a5⟩ := blk6 hA'
          clear hbB
          by_cases hgo : xt + h ≤ yf
          · have hQ2 := hide (hP.out.mono (T := fun p _ => p < k + 1) (fun p q g hp => by
              by_cases e : p < k
              · exact .inl e
              · have e2 : p = k := by omega
                refine .inr ⟨e2, ?_⟩
                by_cases hqq : q < k + 1 + j
                · exact hqq
                · rw [e2] at g
                  have hle : (plA rs k).u.t + h ≤ (plA rs (k + 1 + j)).u.f := by rw [hx.out, hy.out]; exact hgo
                  exact absurd g (none_behind hr.out hle (by omega))))
            obtain ⟨b0, b1, b2, b3, b4, b5⟩ := blk6 hBk
            clear hP hTop
            go_wp2
            go_roundw
            case rel => exact ⟨k + 1, ri', rj', by omega, by go_num, hQ2, hX', hY', hb'⟩
            case measure => simp [intOf]; omega
          by_cases hpp : xp = yp
          · have hP2 := hide (hP.out.keep (i := k) (j := k + 1 + j) (fun g => absurd (by rw [hx.out, hy.out]; exact hpp) g.2.2.1) ((hTop.out (fun p q => p < k ∨ (p = k ∧ q < k + 1 + (j + 1)))).2 (fun p q t => t)))
            obtain ⟨b0, b1, b2, b3, b4, b5⟩ := blk6 hBk
            have hpe : (xp == yp) = true := by simp [hpp]
            clear hP hTop
            go_wp2
            go_roundw
            case rel => exact ⟨j + 1, ri', rj', by omega, by go_num, hP2, hX', hY', hA', hb'⟩
            case measure => simp [intOf]; omega
          have hpe : (xp == yp) = false := by simp [hpp]
          have CC := fun W => cClashI ⟨xe, xd, xf, xt, xp⟩ ⟨ye, yd, yf, yt, yp⟩ h W
          unfold RideV.val at CC
          dsimp only at CC
          obtain ⟨b0, b1, b2, b3, b4, b5⟩ := blk6 hBk
          cases hcl : clashB ⟨xe, xd, xf, xt, xp⟩ ⟨ye, yd, yf, yt, yp⟩ h
          · have hP2 := hide (hP.out.keep (i := k) (j := k + 1 + j) (fun g => by have := g.2.2.2; rw [hx.out, hy.out, hcl] at this; cases this) ((hTop.out (fun p q => p < k ∨ (p = k ∧ q < k + 1 + (j + 1)))).2 (fun p q t => t)))
            rw [hcl] at CC
            clear hP hTop hcl
            go_wp2_with fail
            refine (CC _).mono ?_
            rintro e w2 ⟨rfl, hb2⟩
            replace hX' := blk_keep hb2 hX'
            replace hY' := blk_keep hb2 hY'
            replace hA' := blk_keep hb2 hA'
            replace hb' := btrans hb' hb2
            clear hb2 a0 a1 a2 a3 a4 a5 b0 b1 b2 b3 b4 b5
            go_wp2
            go_roundw
            case rel => exact ⟨j + 1, ri', rj', by omega, by go_num, hP2, hX', hY', hA', hb'⟩
            case measure => simp [intOf]; omega
          have hit : PHit rs h k (k + 1 + j) := ⟨by omega, hq, by rw [hx.out, hy.out]; exact hpp, by rw [hx.out, hy.out]; exact hcl⟩
          have hlo : loK rs k (k + 1 + j) = min xk yk := by unfold loK; rw [hx.out, hy.out]
          have hhi : hiK rs k (k + 1 + j) = max xk yk := by unfold hiK; rw [hx.out, hy.out]
          have hTk := hide (fun g => hP.out.take (T := fun p q => p < k ∨ (p = k ∧ q < k + 1 + (j + 1))) hit g ((hTop.out _).2 (fun p q t => t)))
          have hKp := hide (fun g => hP.out.keep (T := fun p q => p < k ∨ (p = k ∧ q < k + 1 + (j + 1))) (i := k) (j := k + 1 + j) (fun _ => g) ((hTop.out _).2 (fun p q t => t)))
          rw [hlo, hhi] at hTk hKp
          rw [hcl] at CC
          replace hit := hide hit
          clear hP hTop hcl hlo hhi
          go_wp2_with fail
          refine (CC _).mono ?_
          rintro e w2 ⟨rfl, hb2⟩
          replace hX' := blk_keep hb2 hX'
          replace hY' := blk_keep hb2 hY'
          replace hA' := blk_keep hb2 hA'
          replace hBk := blk_keep hb2 hBk
          replace hb' := btrans hb' hb2
          clear hb2 a0 a1 a2 a3 a4 a5 b0 b1 b2 b3 b4 b5
          obtain ⟨-, -, -, -, -, a5⟩ := blk6 hA'
          obtain ⟨-, -, -, -, -, b5⟩ := blk6 hBk
          obtain ⟨⟨x0, x1⟩, fx0, fx1⟩ := blk2 hX'
          have hws : w.heap.size < w2.heap.size := lt_of_block hX'
          have hwAl : w.heap.size < wA := hwlt.out
          rcases Int.lt_trichotomy xk yk with hm | hm | hm
          · have hm2 : ¬ yk < xk := by omega
            have hmin := hide (show min xk yk = xk by omega)
            have hmax := hide (show max xk yk = yk by omega)
            have hbC := balloc w2 (.cells #[.int .i64 xk, .int .i64 yk] 100)
            have hC := one_block w2 (.cells #[.int .i64 xk, .int .i64 yk] 100)
            replace hX' := blk_keep hbC hX'
            replace hY' := blk_keep hbC hY'
            replace hA' := blk_keep hbC hA'
            replace hb' := btrans hb' hbC
            have hcmp := hide (cmpC_neg xk yk ri' rj')
            clear hBk
            go_wp2_with fail
            refine (cCmpC xk yk ri' rj' _).mono ?_
            rintro e w3 ⟨rfl, hb3⟩
            replace hX' := blk_keep hb3 hX'
            replace hY' := blk_keep hb3 hY'
            replace hA' := blk_keep hb3 hA'
            replace hC := blk_keep hb3 hC
            replace hb' := btrans hb' hb3
            clear hb3 hbC x0 x1 fx0 fx1 a5 b5
            by_cases hcc : cmpC xk yk ri' rj' < 0
            · have hP2 := hide (hTk.out (by rw [hmin.out, hmax.out]; exact hcmp.out.1 hcc))
              rw [hmin.out, hmax.out] at hP2
              obtain ⟨⟨x0, x1⟩, fx0, fx1⟩ := blk2 hX'
              obtain ⟨⟨c0, c1⟩, -⟩ := blk2 hC
              obtain ⟨s1, s2⟩ := set2 (.int .i64 xk) (.int .i64 yk) hX'
              replace hY' := far_blk' s2 hY' (by omega)
              replace hA' := far_blk' s2 hA' (by have := hN.out; omega)
              replace hb' := grow_below' hb' s2 (fun k e => by cases e; omega)
              clear hTk hKp hcmp hmin hmax hX' hC s2
              go_wp2
              go_roundw
              case rel => exact ⟨j + 1, xk, yk, by omega, by go_num, hP2, s1, hY', hA', hb'⟩
              case measure => simp [intOf]; omega
            · have hP2 := hide (hKp.out (by rw [hmin.out, hmax.out]; exact fun g => hcc (hcmp.out.2 g)))
              clear hTk hKp hcmp hmin hmax hC
              go_wp2
              go_roundw
              case rel => exact ⟨j + 1, ri', rj', by omega, by go_num, hP2, hX', hY', hA', hb'⟩
              case measure => simp [intOf]; omega
          · subst hm
            have hm2 : ¬ xk < xk := by omega
            have hmin := hide (show min xk xk = xk by omega)
            have hmax := hide (show max xk xk = xk by omega)
            have hbC := balloc w2 (.cells #[.int .i64 xk, .int .i64 xk] 100)
            have hC := one_block w2 (.cells #[.int .i64 xk, .int .i64 xk] 100)
            replace hX' := blk_keep hbC hX'
            replace hY' := blk_keep hbC hY'
            replace hA' := blk_keep hbC hA'
            replace hb' := btrans hb' hbC
            have hcmp := hide (cmpC_neg xk xk ri' rj')
            clear hBk
            go_wp2_with fail
            refine (cCmpC xk xk ri' rj' _).mono ?_
            rintro e w3 ⟨rfl, hb3⟩
            replace hX' := blk_keep hb3 hX'
            replace hY' := blk_keep hb3 hY'
            replace hA' := blk_keep hb3 hA'
            replace hC := blk_keep hb3 hC
            replace hb' := btrans hb' hb3
            clear hb3 hbC x0 x1 fx0 fx1 a5 b5
            by_cases hcc : cmpC xk xk ri' rj' < 0
            · have hP2 := hide (hTk.out (by rw [hmin.out, hmax.out]; exact hcmp.out.1 hcc))
              rw [hmin.out, hmax.out] at hP2
              obtain ⟨⟨x0, x1⟩, fx0, fx1⟩ := blk2 hX'
              obtain ⟨⟨c0, c1⟩, -⟩ := blk2 hC
              obtain ⟨s1, s2⟩ := set2 (.int .i64 xk) (.int .i64 xk) hX'
              replace hY' := far_blk' s2 hY' (by omega)
              replace hA' := far_blk' s2 hA' (by have := hN.out; omega)
              replace hb' := grow_below' hb' s2 (fun k e => by cases e; omega)
              clear hTk hKp hcmp hmin hmax hX' hC s2
              go_wp2
              go_roundw
              case rel => exact ⟨j + 1, xk, xk, by omega, by go_num, hP2, s1, hY', hA', hb'⟩
              case measure => simp [intOf]; omega
            · have hP2 := hide (hKp.out (by rw [hmin.out, hmax.out]; exact fun g => hcc (hcmp.out.2 g)))
              clear hTk hKp hcmp hmin hmax hC
              go_wp2
              go_roundw
              case rel => exact ⟨j + 1, ri', rj', by omega, by go_num, hP2, hX', hY', hA', hb'⟩
              case measure => simp [intOf]; omega
          · have hm2 : ¬ xk < yk := by omega
            have hmin := hide (show min xk yk = yk by omega)
            have hmax := hide (show max xk yk = xk by omega)
            have hbC := balloc w2 (.cells #[.int .i64 yk, .int .i64 xk] 100)
            have hC := one_block w2 (.cells #[.int .i64 yk, .int .i64 xk] 100)
            replace hX' := blk_keep hbC hX'
            replace hY' := blk_keep hbC hY'
            replace hA' := blk_keep hbC hA'
            replace hb' := btrans hb' hbC
            have hcmp := hide (cmpC_neg yk xk ri' rj')
            clear hBk
            go_wp2_with fail
            refine (cCmpC yk xk ri' rj' _).mono ?_
            rintro e w3 ⟨rfl, hb3⟩
            replace hX' := blk_keep hb3 hX'
            replace hY' := blk_keep hb3 hY'
            replace hA' := blk_keep hb3 hA'
            replace hC := blk_keep hb3 hC
            replace hb' := btrans hb' hb3
            clear hb3 hbC x0 x1 fx0 fx1 a5 b5
            by_cases hcc : cmpC yk xk ri' rj' < 0
            · have hP2 := hide (hTk.out (by rw [hmin.out, hmax.out]; exact hcmp.out.1 hcc))
              rw [hmin.out, hmax.out] at hP2
              obtain ⟨⟨x0, x1⟩, fx0, fx1⟩ := blk2 hX'
              obtain ⟨⟨c0, c1⟩, -⟩ := blk2 hC
              obtain ⟨s1, s2⟩ := set2 (.int .i64 yk) (.int .i64 xk) hX'
              replace hY' := far_blk' s2 hY' (by omega)
              replace hA' := far_blk' s2 hA' (by have := hN.out; omega)
              replace hb' := grow_below' hb' s2 (fun k e => by cases e; omega)
              clear hTk hKp hcmp hmin hmax hX' hC s2
              go_wp2
              go_roundw
              case rel => exact ⟨j + 1, yk, xk, by omega, by go_num, hP2, s1, hY', hA', hb'⟩
              case measure => simp [intOf]; omega
            · have hP2 := hide (hKp.out (by rw [hmin.out, hmax.out]; exact fun g => hcc (hcmp.out.2 g)))
              clear hTk hKp hcmp hmin hmax hC
              go_wp2
              go_roundw
              case rel => exact ⟨j + 1, ri', rj', by omega, by go_num, hP2, hX', hY', hA', hb'⟩
              case measure => simp [intOf]; omega
        · have hjl' : ¬ ((j : Int) < ((rs.length - (k + 1) : Nat) : Int)) := by omega
          have hQ2 := hide (hP.out.mono (T := fun p _ => p < k + 1) (fun p q g hp => by have h1 := g.1; have h2 := g.2.1; omega))
          clear hP
          go_wp2
          go_roundw
          case rel => exact ⟨k + 1, ri', rj', by omega, by go_num, hQ2, hX', hY', hb'⟩
          case measure => simp [intOf]; omega
    · obtain rfl : k = rs.length := by omega
      have hnl : ¬ ((rs.length : Int) < (rs.length : Int)) := by omega
      have hQ2 := hide (hQ.out.mono (T := fun _ _ => True) (fun p q g _ => by have h1 := g.1; have h2 := g.2.1; omega))
      obtain ⟨⟨x0, x1⟩, f0, f1⟩ := blk2 hX
      obtain ⟨⟨y0, y1⟩, g0, g1⟩ := blk2 hY
      obtain ⟨s1, s2⟩ := set2 (.int .i64 ri) (.int .i64 rj) hY
      have hb2 := grow_below' hb s2 (fun k e => by cases e; omega)
      obtain ⟨⟨z0, z1⟩, -⟩ := blk2 s1
      clear hQ hX hY s1 s2
      go_wp2
      refine bodyPost_ret (v := .agg #[.int .i64 ri, .int .i64 rj]) (by simp [results, Tryz.results66, go_sem, z0, z1]) rfl ?_
      exact ⟨ri, rj, rfl, hQ2.out, hb2⟩
end Go.Proofs.YtbghfihlpbcomaaGreat

