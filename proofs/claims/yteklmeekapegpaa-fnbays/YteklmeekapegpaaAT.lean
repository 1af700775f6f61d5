/- What the assignment holds while it goes on: the list, the bays, the passages. -/
import Derived.Test.YteklmeekapegpaaMS
import Derived.Test.YteklmeekapegpaaBZ
import Derived.Test.YteklmeekapegpaaPB
namespace Go.Proofs.Yteklmeekapegpaa
open Go.RowKit Go.Conc

/-- One channel turned, and nothing else. -/
def ChanTo (V w4 : World) (c : Nat) (o : Option Int) : Prop := ∃ s r, w4 = V.setChan c 1 (bufOf o) false s r false
theorem ChanTo.blk {V w4 : World} {c : Nat} {o : Option Int} (h : ChanTo V w4 c o) {b : Nat} (hb : c ≠ b) : w4.heap[b]? = V.heap[b]? := by
  obtain ⟨s, r, rfl⟩ := h
  exact heap_setChan_other _ _ _ _ _ _ _ _ _ hb
theorem ChanTo.size {V w4 : World} {c : Nat} {o : Option Int} (h : ChanTo V w4 c o) : w4.heap.size = V.heap.size := by
  obtain ⟨s, r, rfl⟩ := h
  exact size_setChan _ _ _ _ _ _ _ _
theorem ChanTo.below {B : Nat} {a V w4 : World} {c : Nat} {o : Option Int} (h : ChanTo V w4 c o) (hb : Below B a V) (hc : B ≤ c) : Below B a w4 := by
  obtain ⟨s, r, rfl⟩ := h
  exact below_setChan hb hc _ _ _ _ _ _
theorem own_blk {w w' : World} {base e sz n : Nat} {v : Value} {xs : List Value} (h : w.ownsRow base e sz v n xs) (hk : ∀ (b : Nat) (cur : Array Value), w.heap[b]? = some (Obj.cells cur e (0, 0)) → w'.heap[b]? = some (Obj.cells cur e (0, 0))) : w'.ownsRow base e sz v n xs := by
  obtain ⟨h1, h2⟩ := h
  refine ⟨h1, ?_⟩
  rcases h2 with h2 | ⟨g, cap, cur, hv, hg, hh, r⟩
  · exact .inl h2
  · exact .inr ⟨g, cap, cur, hv, hg, hk g cur hh, r⟩
structure St (w0 w : World) (gl ga : Nat) (cs : List Nat) (occ : Nat → Option Int) (ls : List Int) (v : Value) (es : List PassV) : Prop where
  list : w.ownsRow w0.heap.size 3 1 (.slice (some ⟨gl, 0, none⟩) ls.length ls.length) ls.length (ls.map (Value.int .i64))
  bays : BaysAt w w0.heap.size ga cs occ
  pass : w.ownsRow w0.heap.size 60 3 v es.length (flatPasses es)
  below : Below w0.heap.size w0 w
theorem St.keep {w0 w w' : World} {gl ga : Nat} {cs : List Nat} {occ : Nat → Option Int} {ls : List Int} {v : Value} {es : List PassV} (h : St w0 w gl ga cs occ ls v es) (hb : Below w.heap.size w w') : St w0 w' gl ga cs occ ls v es :=
  ⟨own_keep h.list hb, h.bays.below hb, own_keep h.pass hb, btrans h.below hb⟩
theorem St.chan {w0 w w' : World} {gl ga : Nat} {cs : List Nat} {occ : Nat → Option Int} {ls : List Int} {v : Value} {es : List PassV} (h : St w0 w gl ga cs occ ls v es) {k : Nat} (hk : k < cs.length) {o : Option Int} (hc : ChanTo w w' (cs.getD k 0) o) : St w0 w' gl ga cs (setOcc occ k o) ls v es := by
  have hne : ∀ (b : Nat) (cur : Array Value) (t : TypeId) (f : Nat × Nat), w.heap[b]? = some (Obj.cells cur t f) → cs.getD k 0 ≠ b := fun b cur t f hb e => h.bays.cellsNe hb (e ▸ getD_mem hk)
  refine ⟨own_blk h.list (fun b cur hb => (hc.blk (hne b _ _ _ hb)).trans hb), ?_, own_blk h.pass (fun b cur hb => (hc.blk (hne b _ _ _ hb)).trans hb), hc.below h.below (h.bays.low _ (getD_mem hk))⟩
  obtain ⟨s, r, rfl⟩ := hc
  exact h.bays.set hk o s r
theorem St.listBlock {w0 w : World} {gl ga : Nat} {cs : List Nat} {occ : Nat → Option Int} {ls : List Int} {v : Value} {es : List PassV} (h : St w0 w gl ga cs occ ls v es) : ∃ cur, w.heap[gl]? = some (.cells cur 3 (0, 0)) ∧ w0.heap.size ≤ gl := by
  rcases h.list.2 with ⟨h2, _⟩ | ⟨g', cap, cur, hv, hg, hh, r⟩
  · cases h2
  · simp only [Value.slice.injEq, Option.some.injEq, Addr.mk.injEq] at hv
    obtain ⟨⟨rfl, _⟩, _⟩ := hv
    exact ⟨cur, hh, hg⟩
theorem St.put {w0 w : World} {gl ga : Nat} {cs : List Nat} {occ : Nat → Option Int} {ls : List Int} {v : Value} {es : List PassV} (h : St w0 w gl ga cs occ ls v es) (i : Nat) (x : Int) : St w0 (w.setCell ⟨gl, i, none⟩ (.int .i64 x)) gl ga cs occ (ls.set i x) v es := by
  obtain ⟨cur, hg, hl⟩ := h.listBlock
  obtain ⟨cur2, hg2, _⟩ := h.bays.rowBlock
  have hO := (h.list.stored i (.int .i64 x)).1
  have hkeep : ∀ b, b ≠ gl → (w.setCell ⟨gl, i, none⟩ (.int .i64 x)).heap[b]? = w.heap[b]? := fun b hb => Below.heap_setCell _ _ _ _ hb
  refine ⟨?_, h.bays.keep (fun b _ hb => hkeep b ?_), own_blk h.pass (fun b cur' hb => (hkeep b ?_).trans hb), h.below.setCell (p := ⟨gl, i, none⟩) hl _⟩
  · rw [List.length_set, List.map_set]; exact hO
  · rintro rfl
    rcases hb with rfl | hb
    · rw [hg] at hg2; simp at hg2
    · exact h.bays.cellsNe hg hb
  · rintro rfl
    rw [hg] at hb; simp at hb
theorem St.cell {w0 w : World} {gl ga : Nat} {cs : List Nat} {occ : Nat → Option Int} {ls : List Int} {v : Value} {es : List PassV} (h : St w0 w gl ga cs occ ls v es) {i : Nat} (hi : i < ls.length) : w.cell? ⟨gl, i, none⟩ = some (.int .i64 (ls.getD i 0)) ∧ w.frozen? ⟨gl, i, none⟩ = false := by
  refine ⟨?_, h.list.frozenAt i⟩
  rw [h.list.cellAt i (by omega)]
  simp [List.getD, hi]
theorem least {P : Nat → Prop} : ∀ n, (∃ k, k < n ∧ P k ∧ ∀ j, j < k → ¬ P j) ∨ ∀ j, j < n → ¬ P j
  | 0 => .inr (fun j h => by omega)
  | n + 1 => by
    rcases least (P := P) n with ⟨k, hk, h1, h2⟩ | h
    · exact .inl ⟨k, by omega, h1, h2⟩
    · by_cases hp : P n
      · exact .inl ⟨n, by omega, hp, h⟩
      · exact .inr (fun j hj hx => by
          by_cases e : j = n
          · subst e; exact hp hx
          · exact h j (by omega) hx)
/-- The first that serves is picked. -/
theorem picked_yes {zs : List Int} {cs : List Nat} {occ : Nat → Option Int} {l p : Int} {w w' : World} {e : Ending} (h : Picked zs cs occ l p w e w') {k : Nat} (hk : k < zs.length) (h1 : Serves zs occ l k) (h2 : ∀ j, j < k → ¬ Serves zs occ l j) : e = .returned (.int .i64 k) ∧ ChanTo w w' (cs.getD k 0) (some p) := by
  rcases h with ⟨k', hk', h1', h2', he, s, r, hw⟩ | ⟨h', _⟩
  · rcases Nat.lt_trichotomy k k' with h | h | h
    · exact absurd h1 (h2' k h)
    · subst h; exact ⟨he, s, r, hw⟩
    · exact absurd h1' (h2 k' h)
  · exact absurd h1 (h' k hk)
theorem picked_no {zs : List Int} {cs : List Nat} {occ : Nat → Option Int} {l p : Int} {w w' : World} {e : Ending} (h : Picked zs cs occ l p w e w') (h1 : ∀ j, j < zs.length → ¬ Serves zs occ l j) : e = .returned (.int .i64 (-1)) ∧ w' = w := by
  rcases h with ⟨k', hk', h1', _⟩ | ⟨_, h2, h3⟩
  · exact absurd h1' (h1 k' hk')
  · exact ⟨h2, h3⟩
theorem pass_who {ss : List StayV} {g : Int} {n : Nat} {es : List PassV} (h : IsPass ss g n es) {j : Nat} (hj : j < es.length) : ∃ i, i < n ∧ ((es.getD j PassV.zero = comeP ss i ∧ es[j] = comeP ss i) ∨ (es.getD j PassV.zero = leaveP ss g i ∧ es[j] = leaveP ss g i)) := by
  have e0 : es.getD j PassV.zero = es[j] := by simp [List.getD, hj]
  obtain ⟨i, hi, e | e⟩ := (h.mem es[j]).1 (List.getElem_mem hj)
  · exact ⟨i, hi, .inl ⟨e0.trans e, e⟩⟩
  · exact ⟨i, hi, .inr ⟨e0.trans e, e⟩⟩
/-- What Assign answers: nothing, or the list, in a row of its own. -/
def assignOk (zs : List Int) (ss : List StayV) (g : Int) : Bool := baysB zs && (staysB ss && gapB g)
structure AnsList (w w' : World) (e : Ending) (ls : List Int) : Prop where
  ex : ∃ v, e = .returned v ∧ w'.ownsRow w.heap.size 3 1 v ls.length (ls.map (Value.int .i64))
  below : Below w.heap.size w w'
theorem AnsList.nil {w w' : World} (h : Below w.heap.size w w') : AnsList w w' (.returned (.slice none 0 0)) [] := ⟨⟨_, rfl, World.ownsRow_nil _ _ _ _⟩, h⟩
/-- The list that is asked for. -/
def IsList (zs : List Int) (ss : List StayV) (g : Int) (ls : List Int) : Prop :=
  (assignOk zs ss g = false ∧ ls = []) ∨ (assignOk zs ss g = true ∧ ls.length = ss.length ∧ IsAssign zs ss g (fun k => ls.getD k 0))
theorem fine0 {ss : List StayV} (h : staysB ss = true) : ∀ k, k < ss.length → 0 ≤ fA ss k := fun _ hk => (stays_get h hk).1
theorem IsList.unique {zs : List Int} {ss : List StayV} {g : Int} {ls ls' : List Int} (h : IsList zs ss g ls) (h' : IsList zs ss g ls') : ls = ls' := by
  rcases h with ⟨h1, rfl⟩ | ⟨h1, h2, h3⟩ <;> rcases h' with ⟨h1', rfl⟩ | ⟨h1', h2', h3'⟩
  · rfl
  · rw [h1] at h1'; cases h1'
  · rw [h1] at h1'; cases h1'
  · have hS : staysB ss = true := by
      simp only [assignOk, Bool.and_eq_true] at h1; exact h1.2.1
    have := IsAssign.unique (fine0 hS) h3 h3'
    apply List.ext_getElem (by rw [h2, h2'])
    intro i hi hi'
    have := this i (by omega)
    simpa [List.getD, hi, hi'] using this
end Go.Proofs.Yteklmeekapegpaa
