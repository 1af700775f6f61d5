/- The roster in memory: the units told so far, and the tasks of each unit, every row apart from the others. -/
import Derived.Test.YtbnhkkaiohmllaaKE
import Derived.Test.YtbnhkkaiohmllaaMB
import Derived.Deep.AppendLies
namespace Go.Proofs.Ytbnhkkaiohmllaa
open Go.RowKit Go.Lib

theorem own_blk_ne {w : World} {B e sz n : Nat} {v : Value} {xs : List Value} (h : w.ownsRow B e sz v n xs) {g : Nat} {cs : Array Value} {t : TypeId} {f : Nat × Nat} (hb : w.heap[g]? = some (.cells cs t f)) (hne : t ≠ e) : ∀ k, v.ownBlock = some k → k ≠ g := by
  intro k hk
  rcases h.2 with ⟨rfl, _⟩ | ⟨g', cap', cur, rfl, _, hh, _⟩
  · simp [Value.ownBlock] at hk
  · simp only [Value.ownBlock, Option.some.injEq] at hk
    rintro rfl
    subst hk
    rw [hb] at hh
    simp only [Option.some.injEq, Obj.cells.injEq] at hh
    exact hne hh.2.1
theorem own_ne {w : World} {B e sz n B' e' sz' n' : Nat} {v v' : Value} {xs ys : List Value} (h : w.ownsRow B e sz v n xs) (g : w.ownsRow B' e' sz' v' n' ys) (hne : e ≠ e') : ∀ k, v.ownBlock = some k → some k ≠ v'.ownBlock := by
  intro k hk hk'
  rcases h.2 with ⟨rfl, _⟩ | ⟨g', cap', cur, rfl, _, hh, _⟩
  · simp [Value.ownBlock] at hk
  · simp only [Value.ownBlock, Option.some.injEq] at hk
    subst hk
    exact own_blk_ne g hh hne _ hk'.symm rfl
theorem blk_set {w : World} {q i : Nat} {cs : Array Value} {t : TypeId} {v : Value} (h : w.heap[q]? = some (.cells cs t (0, 0))) : (w.setCell ⟨q, i, none⟩ v).heap[q]? = some (.cells (cs.setIfInBounds i v) t (0, 0)) := by
  rw [setCell_eq_setRow w q i cs _ _ v h]
  exact setRow_heap w q cs _ _ _ h
theorem blk_far {w w' : World} {r : Option Nat} (hg : w.grownBy w' r) {q : Nat} {o : Obj} (h : w.heap[q]? = some o) (hne : some q ≠ r) : w'.heap[q]? = some o := (hg.block q (lt_of_block h) hne).trans h
theorem set_other {w : World} {q g i : Nat} {o : Obj} {v : Value} (h : w.heap[q]? = some o) (hne : q ≠ g) : (w.setCell ⟨g, i, none⟩ v).heap[q]? = some o := by
  rw [Below.heap_setCell _ _ _ _ hne]; exact h
theorem blk3 {w : World} {g : Nat} {c0 c1 c2 : Value} {t : TypeId} (h : w.heap[g]? = some (.cells #[c0, c1, c2] t (0, 0))) :
    (w.cell? ⟨g, 0, none⟩ = some c0 ∧ w.cell? ⟨g, 1, none⟩ = some c1 ∧ w.cell? ⟨g, 2, none⟩ = some c2) ∧ w.frozen? ⟨g, 0, none⟩ = false ∧ w.frozen? ⟨g, 1, none⟩ = false ∧ w.frozen? ⟨g, 2, none⟩ = false := by
  simp [World.cell?, World.frozen?, h]
/-- The roster in block r. -/
structure Ros (w : World) (base r : Nat) (ts : List TaskV) (n : Int) (zs : List Int) (h : Hist) (M : Nat) (vu vr : Value) (vs : List Value) : Prop where
  blk : w.heap[r]? = some (.cells #[.int .i64 n, vu, vr] 59 (0, 0))
  hu : w.ownsRow base 3 1 vu zs.length (zs.map (Value.int .i64))
  hr : w.ownsRow base 72 1 vr M vs
  each : ∀ u v, vs[u]? = some v → w.ownsRow base 68 6 v (runU h u).length (flatPls ((runU h u).map (plOf ts)))
  apart : ∀ (u u' : Nat) (v v' : Value) (b : Nat), u ≠ u' → vs[u]? = some v → vs[u']? = some v' → v.ownBlock = some b → v'.ownBlock ≠ some b
  rb : base ≤ r
theorem Ros.len {w : World} {base r : Nat} {ts : List TaskV} {n : Int} {zs : List Int} {h : Hist} {M : Nat} {vu vr : Value} {vs : List Value} (R : Ros w base r ts n zs h M vu vr vs) : vs.length = M := by
  have := R.hr.1; omega
theorem Ros.below {w w1 : World} {base r : Nat} {ts : List TaskV} {n : Int} {zs : List Int} {h : Hist} {M : Nat} {vu vr : Value} {vs : List Value} (R : Ros w base r ts n zs h M vu vr vs) (hb : Below w.heap.size w w1) : Ros w1 base r ts n zs h M vu vr vs :=
  ⟨blk_keep hb R.blk, own_keep R.hu hb, own_keep R.hr hb, fun u v hv => own_keep (R.each u v hv) hb, R.apart, R.rb⟩
theorem below_grown {base : Nat} {W w w2 : World} {v : Value} {e sz n : Nat} {xs : List Value} (hb : Below base W w) (ho : w.ownsRow base e sz v n xs) (hB : base ≤ W.heap.size) (hg : w.grownBy w2 v.ownBlock) : Below base W w2 :=
  ⟨hg.os.trans hb.os, hg.tape.trans hb.tape, hg.output.trans hb.output, Nat.le_trans hb.size hg.size, fun k hk => (hg.block k (by have := hb.size; omega) (fun e => by have := own_from ho (Nat.le_refl _) k e.symm; omega)).trans (hb.block k hk)⟩
/-- One run more, with nothing in it. -/
theorem Ros.more {w w2 : World} {base r : Nat} {ts : List TaskV} {n : Int} {zs : List Int} {h : Hist} {M : Nat} {vu vr v2 : Value} {vs : List Value} (R : Ros w base r ts n zs h M vu vr vs) (hM : nU h ≤ M)
    (ho : w2.ownsRow base 72 1 v2 (M + 1) (vs ++ [.slice none 0 0])) (hg : w.grownBy w2 vr.ownBlock) :
    Ros (w2.setCell ⟨r, 2, none⟩ v2) base r ts n zs h (M + 1) vu v2 (vs ++ [.slice none 0 0]) ∧ w2.heap[r]? = some (.cells #[.int .i64 n, vu, vr] 59 (0, 0)) := by
  have hq := blk_app R.hr hg R.blk (by decide)
  have hl := R.len
  have hu2 := own_far R.hu hg (own_ne R.hu R.hr (by decide))
  refine ⟨⟨blk_set hq, own_set hu2 (own_blk_ne hu2 hq (by decide)), own_set ho (own_blk_ne ho hq (by decide)), fun u v hv => ?_, fun u u' v v' b hne hv hv' hb => ?_, R.rb⟩, hq⟩
  · by_cases e : u < vs.length
    · rw [List.getElem?_append_left e] at hv
      have h1 := R.each u v hv
      have h2 := own_far h1 hg (own_ne h1 R.hr (by decide))
      exact own_set h2 (own_blk_ne h2 hq (by decide))
    · rw [List.getElem?_append_right (by omega)] at hv
      obtain rfl : u = vs.length := by
        have := (List.getElem?_eq_some_iff.1 hv).1; simp at this; omega
      simp at hv
      subst hv
      rw [runU_beyond (by omega)]
      exact World.ownsRow_nil _ _ _ _
  · by_cases e : u < vs.length
    · rw [List.getElem?_append_left e] at hv
      by_cases e' : u' < vs.length
      · rw [List.getElem?_append_left e'] at hv'
        exact R.apart u u' v v' b hne hv hv' hb
      · rw [List.getElem?_append_right (by omega)] at hv'
        have := List.mem_of_getElem? hv'
        simp at this
        subst this
        simp [Value.ownBlock]
    · rw [List.getElem?_append_right (by omega)] at hv
      have := List.mem_of_getElem? hv
      simp at this
      subst this
      simp [Value.ownBlock] at hb
/-- A task behind those of its unit. -/
theorem Ros.push {w w2 : World} {base r gr cap : Nat} {ts : List TaskV} {n : Int} {zs : List Int} {h : Hist} {M u t H : Nat} {vu v v2 : Value} {vs : List Value} (R : Ros w base r ts n zs h M vu (.slice (some ⟨gr, 0, none⟩) M cap) vs) (hv : vs[u]? = some v)
    (ho : w2.ownsRow base 68 6 v2 ((runU h u).length + 1) (flatPls ((runU h u).map (plOf ts)) ++ (plOf ts t).cs)) (hg : w.grownBy w2 v.ownBlock) (hat : v2.ownBlock = v.ownBlock ∨ v2.ownBlock = some H) (hH : w.heap.size ≤ H) :
    Ros (w2.setCell ⟨gr, u, none⟩ v2) base r ts n zs (h ++ [(t, u)]) M vu (.slice (some ⟨gr, 0, none⟩) M cap) (vs.set u v2) ∧ w2.cell? ⟨gr, u, none⟩ = some v ∧ w2.frozen? ⟨gr, u, none⟩ = false ∧ w2.heap[r]? = some (.cells #[.int .i64 n, vu, .slice (some ⟨gr, 0, none⟩) M cap] 59 (0, 0)) := by
  have hl := R.len
  have hu' : u < vs.length := (List.getElem?_eq_some_iff.1 hv).1
  have hev := R.each u v hv
  have hq := blk_app hev hg R.blk (by decide)
  have hu2 := own_far R.hu hg (own_ne R.hu hev (by decide))
  have hr2 := own_far R.hr hg (own_ne R.hr hev (by decide))
  have hgr : gr ≠ r := own_blk_ne hr2 hq (by decide) gr rfl
  have hlt : ∀ (x : Nat) (y : Value) (b : Nat), vs[x]? = some y → y.ownBlock = some b → b < w.heap.size := fun x y b hx hb => own_blk_lt (R.each x y hx) b hb
  obtain ⟨s1, -⟩ := hr2.stored u v2
  refine ⟨⟨set_other hq (Ne.symm hgr), own_set hu2 (fun k hk e => ?_), s1, fun x y hx => ?_, fun x x' y y' b hne hx hx' hb => ?_, R.rb⟩, ?_, hr2.frozenAt u, hq⟩
  · subst e
    exact own_ne hu2 hr2 (by decide) k hk rfl
  · by_cases e : u = x
    · subst e
      rw [List.getElem?_set_self (by omega)] at hx
      cases hx
      have e1 : runU (h ++ [(t, u)]) u = runU h u ++ [t] := by rw [runU_snoc, if_pos rfl]
      rw [e1, List.length_append, List.map_append, flatPls_app]
      have e2 : flatPls ([t].map (plOf ts)) = (plOf ts t).cs := by simp [flatPls]
      rw [e2]
      exact own_set ho (fun k hk e => own_ne ho hr2 (by decide) k hk (by rw [e]; rfl))
    · rw [List.getElem?_set_ne e] at hx
      have e1 : runU (h ++ [(t, u)]) x = runU h x := by rw [runU_snoc, if_neg e]
      rw [e1]
      have h1 := R.each x y hx
      have h2 := own_far h1 hg (fun k hk he => R.apart x u y v k (Ne.symm e) hx hv hk he.symm)
      exact own_set h2 (fun k hk e => own_ne h2 hr2 (by decide) k hk (by rw [e]; rfl))
  · by_cases e : u = x
    · subst e
      rw [List.getElem?_set_self (by omega)] at hx
      cases hx
      rw [List.getElem?_set_ne hne] at hx'
      intro hb'
      rcases hat with hat | hat
      · rw [hat] at hb
        exact R.apart u x' v y' b hne hv hx' hb hb'
      · rw [hat] at hb
        have e1 : H = b := by simpa using hb
        have := hlt x' y' b hx' hb'
        omega
    · rw [List.getElem?_set_ne e] at hx
      by_cases e' : u = x'
      · subst e'
        rw [List.getElem?_set_self (by omega)] at hx'
        cases hx'
        intro hb'
        rcases hat with hat | hat
        · rw [hat] at hb'
          exact R.apart x u y v b hne hx hv hb hb'
        · rw [hat] at hb'
          have e1 : H = b := by simpa using hb'
          have := hlt x y b hx hb
          omega
      · rw [List.getElem?_set_ne e'] at hx'
        exact R.apart x x' y y' b hne hx hx' hb
  · rw [hr2.cellAt u (by omega)]; exact hv
/-- The unit of a place is set. -/
theorem Ros.unit {w : World} {base r gu cap : Nat} {ts : List TaskV} {n : Int} {zs : List Int} {h : Hist} {M : Nat} {vr : Value} {vs : List Value} (R : Ros w base r ts n zs h M (.slice (some ⟨gu, 0, none⟩) zs.length cap) vr vs) (t : Nat) (x : Int) :
    Ros (w.setCell ⟨gu, t, none⟩ (.int .i64 x)) base r ts n (zs.set t x) h M (.slice (some ⟨gu, 0, none⟩) (zs.set t x).length cap) vr vs := by
  have hq := R.blk
  have hgu : gu ≠ r := own_blk_ne R.hu hq (by decide) gu rfl
  obtain ⟨s1, -⟩ := R.hu.stored t (.int .i64 x)
  refine ⟨by rw [List.length_set]; exact set_other hq (Ne.symm hgu), ?_, own_set R.hr (fun k hk e => own_ne R.hr R.hu (by decide) k hk (by rw [e]; rfl)), fun u v hv => ?_, R.apart, R.rb⟩
  · rw [List.length_set]
    have e : ((zs.set t x).map (Value.int .i64)) = (zs.map (Value.int .i64)).set t (.int .i64 x) := by rw [List.map_set]
    rw [e]; exact s1
  · have h1 := R.each u v hv
    exact own_set h1 (fun k hk e => own_ne h1 R.hu (by decide) k hk (by rw [e]; rfl))
theorem infoRuns : (Try.prog.info? 72).map (fun i => (i.zero, i.size, i.bytes)) = some (some (.slice none 0 0), 1, 24) := by kernel_rfl
/-- How many runs the roster in block r has. -/
def lenAt (w : World) (r : Nat) : Nat := match w.cell? ⟨r, 2, none⟩ with
  | some (.slice _ k _) => k
  | _ => 0
theorem Ros.lenAt {w : World} {base r : Nat} {ts : List TaskV} {n : Int} {zs : List Int} {h : Hist} {M : Nat} {vu vr : Value} {vs : List Value} (R : Ros w base r ts n zs h M vu vr vs) : lenAt w r = M := by
  obtain ⟨a, c, rfl⟩ := own_form R.hr
  unfold Go.Proofs.Ytbnhkkaiohmllaa.lenAt
  rw [(blk3 R.blk).1.2.2]
end Go.Proofs.Ytbnhkkaiohmllaa
