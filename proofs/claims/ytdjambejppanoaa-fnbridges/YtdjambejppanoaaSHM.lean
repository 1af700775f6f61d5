/- Shortest of the program: what its loops hold (mathematics and memory). -/
import Derived.Test.YtdjambejppanoaaAL
import Derived.Test.YtdjambejppanoaaRD
namespace Go.Proofs.Ytdjambejppanoaa
open Go.RowKit
theorem Best.small {N : Nat} {es : List EdgeV} (R : Rg (N : Int) es) {x z L : Int} {ps : List Nat} (h : Best es x z ps L) (hx : 0 ≤ x ∧ x < (N : Int)) : ps.length + 1 ≤ N ∧ 0 ≤ L ∧ L ≤ 100000 * (N : Int) := by
  obtain ⟨qs, M, h1, h2, h3, h4⟩ := h.1.short R hx
  have h5 := h.2 qs M h1
  have h6 := h.1.low R
  have h7 : ps.length ≤ qs.length := by
    rcases h5 with h5 | ⟨-, h5 | ⟨h5, -⟩⟩ <;> omega
  omega
theorem Kt.low {w w1 : World} {fb B0 : Nat} {v v1 : Value} (K : Kt w w1 fb v v1) (hf : B0 ≤ fb) (hw : B0 ≤ w.heap.size) (hv : ∀ k, v.ownBlock = some k → B0 ≤ k) : Below B0 w w1 :=
  ⟨K.os, K.tape, K.output, K.size, fun k hk => K.block k (by omega) (by omega) (fun e => by have := hv k e; omega)⟩
theorem Kt.map {w w1 : World} {fb : Nat} {v v1 : Value} (K : Kt w w1 fb v v1) {R : Value → Option (DataW Unit × List MemPlace)} {b n : Nat} {D : DataW Unit} (h : w.ownsMap Try.prog 3 R b n D) (h1 : b ≠ fb) (h2 : v.ownBlock ≠ some b) : w1.ownsMap Try.prog 3 R b n D := by
  obtain ⟨es, clock, hb, rest⟩ := h
  exact ⟨es, clock, K.blk hb h1 h2, rest⟩
/-- The nodes that are done, as keys of a map of the call's own. -/
structure Dn (w : World) (sb : Nat) (kl : List Int) (D : DataW Unit) : Prop where
  map : w.ownsMap Try.prog 3 (plainElem Try.prog 3) sb kl.length D
  has : ∀ y : Int, Maps.has D (.int .i64 y) = decide (y ∈ kl)
  num : ∀ y : Int, ∃ c : Int, 0 ≤ c ∧ c ≤ 10000000 ∧ D.atKey (.int .i64 y) (.lit (.int .i64 0)) = .lit (.int .i64 c)
  size : Maps.size D = kl.length
  nodup : kl.Nodup
theorem Dn.below {w w' : World} {sb : Nat} {kl : List Int} {D : DataW Unit} (h : Dn w sb kl D) (hb : Below w.heap.size w w') : Dn w' sb kl D :=
  ⟨h.map.kept (row := none) ⟨hb.os, hb.tape, hb.output, hb.size, fun k hk _ => hb.block k hk⟩ (by simp), h.has, h.num, h.size, h.nodup⟩
theorem Dn.kt {w w1 : World} {fb sb : Nat} {v v1 : Value} {kl : List Int} {D : DataW Unit} (h : Dn w sb kl D) (K : Kt w w1 fb v v1) (h1 : sb ≠ fb) (h2 : v.ownBlock ≠ some sb) : Dn w1 sb kl D := ⟨K.map h.map h1 h2, h.has, h.num, h.size, h.nodup⟩
theorem Dn.put {w w' : World} {sb : Nat} {kl : List Int} {D : DataW Unit} (h : Dn w sb kl D) {y c : Int} (hy : y ∉ kl) (h0 : 0 ≤ c) (h1 : c ≤ 10000000) (hm : w'.ownsMap Try.prog 3 (plainElem Try.prog 3) sb (kl.length + 1) (D.put (.int .i64 y) (.lit (.int .i64 c)))) :
    Dn w' sb (y :: kl) (D.put (.int .i64 y) (.lit (.int .i64 c))) := by
  refine ⟨hm, fun z => ?_, fun z => ?_, ?_, List.nodup_cons.2 ⟨hy, h.nodup⟩⟩
  · by_cases e : z = y
    · subst e; rw [Maps.has_put_same h.map.isMap (show WideAt.IsKeyLit (.int .i64 z) from trivial)]; simp
    · rw [Maps.has_put_other (by simpa using e), h.has z]; simp [e]
  · by_cases e : z = y
    · subst e; exact ⟨c, h0, h1, by rw [Maps.atKey_put_same h.map.isMap (show WideAt.IsKeyLit (.int .i64 z) from trivial)]⟩
    · obtain ⟨d, d0, d1, d2⟩ := h.num z
      exact ⟨d, d0, d1, by rw [Maps.atKey_put_other (by simpa using e)]; exact d2⟩
  · rw [Maps.size_put (h.map.tidy lawI), h.has y, h.size]
    simp [hy]
theorem Dn.sz {w : World} {sb : Nat} {kl : List Int} {D : DataW Unit} (h : Dn w sb kl D) : knSize w sb = kl.length := by
  rw [← h.size]
  obtain ⟨es, clock, hb, _, _, rfl⟩ := h.map
  unfold knSize
  rw [hb]
  simp [Maps.size_eq, length_sorted]
/-- How many trials the front has. -/
def frLen (w : World) (fb : Nat) : Nat := match w.cell? ⟨fb, 0, none⟩ with
  | some (.slice _ n _) => n
  | _ => 0
theorem Fr.len {w : World} {fb B : Nat} {v : Value} {ps : List PT} (h : Fr w fb B v ps) : frLen w fb = ps.length := by
  obtain ⟨a, c, rfl⟩ := own_form h.own
  unfold frLen
  rw [h.cell.1]
/-- One step further, as a value. -/
def extV (t : TrialV) (s : Nat × Int × Int) : TrialV := ⟨s.2.1, t.len + s.2.2, t.way ++ [s.1]⟩
/-- The trials of a front, without where they lie. -/
def tvs (ps : List PT) : List TrialV := ps.map PT.t
theorem mem_tvs {ps : List PT} {u : TrialV} : u ∈ tvs ps ↔ ∃ p ∈ ps, p.t = u := by simp [tvs]
theorem tvs_pop {ps qs : List PT} {p : PT} (h : ∀ u, u ∈ ps ↔ u = p ∨ u ∈ qs) (u : TrialV) : u ∈ tvs ps ↔ u = p.t ∨ u ∈ tvs qs := by
  rw [mem_tvs, mem_tvs]
  constructor
  · rintro ⟨q, hq, rfl⟩
    rcases (h q).1 hq with rfl | h
    · exact .inl rfl
    · exact .inr ⟨q, h, rfl⟩
  · rintro (rfl | ⟨q, hq, rfl⟩)
    · exact ⟨p, (h p).2 (.inl rfl), rfl⟩
    · exact ⟨q, (h q).2 (.inr hq), rfl⟩
/-- How great the trials of a front are. -/
structure Low (ps : List PT) : Prop where
  way : ∀ p ∈ ps, p.t.way.length ≤ 40
  len : ∀ p ∈ ps, 0 ≤ p.t.len ∧ p.t.len ≤ 5000000
theorem Low.sm {ps : List PT} (h : Low ps) (hn : ps.length ≤ 1000000) : Sm ps := ⟨by omega, fun p hp => by have := h.way p hp; omega⟩
theorem Low.sub {ps qs : List PT} (h : Low ps) (hs : ∀ u ∈ qs, u ∈ ps) : Low qs := ⟨fun p hp => h.way p (hs p hp), fun p hp => h.len p (hs p hp)⟩
theorem Low.push {ps qs : List PT} {p : PT} (h : Low ps) (hq : ∀ u, u ∈ qs ↔ u = p ∨ u ∈ ps) (h1 : p.t.way.length ≤ 40) (h2 : 0 ≤ p.t.len ∧ p.t.len ≤ 5000000) : Low qs :=
  ⟨fun u hu => by rcases (hq u).1 hu with rfl | g; exact h1; exact h.way u g, fun u hu => by rcases (hq u).1 hu with rfl | g; exact h2; exact h.len u g⟩
/-- What the inner loop has pushed: the first k steps from t. -/
def Pushed (es : List EdgeV) (t : TrialV) (k : Nat) (H H' : List TrialV) : Prop := ∀ u, u ∈ H ↔ u ∈ H' ∨ ∃ j, j < k ∧ ∃ s, (stepsOf es t.at_)[j]? = some s ∧ u = extV t s
theorem Pushed.zero (es : List EdgeV) (t : TrialV) (H : List TrialV) : Pushed es t 0 H H := fun u => by simp
theorem Pushed.next {es : List EdgeV} {t : TrialV} {k : Nat} {ps qs : List PT} {H' : List TrialV} {s : Nat × Int × Int} {p : PT} (h : Pushed es t k (tvs ps) H') (hs : (stepsOf es t.at_)[k]? = some s) (hp : p.t = extV t s) (hq : ∀ u, u ∈ qs ↔ u = p ∨ u ∈ ps) : Pushed es t (k + 1) (tvs qs) H' := by
  intro u
  rw [tvs_pop hq u, h u]
  constructor
  · rintro (rfl | h1 | ⟨j, hj, s', h1, h2⟩)
    · exact .inr ⟨k, by omega, s, hs, hp⟩
    · exact .inl h1
    · exact .inr ⟨j, by omega, s', h1, h2⟩
  · rintro (h1 | ⟨j, hj, s', h1, h2⟩)
    · exact .inr (.inl h1)
    · by_cases e : j = k
      · subst e
        rw [hs] at h1
        cases h1
        exact .inl (h2.trans hp.symm)
      · exact .inr (.inr ⟨j, by omega, s', h1, h2⟩)
theorem Pushed.all {es : List EdgeV} {t : TrialV} {k : Nat} {H H' : List TrialV} (h : Pushed es t k H H') (hk : (stepsOf es t.at_).length ≤ k) : ∀ u, u ∈ H ↔ u ∈ H' ∨ ∃ p y l, (p, y, l) ∈ stepsOf es t.at_ ∧ u = ⟨y, t.len + l, t.way ++ [p]⟩ := by
  intro u
  rw [h u]
  constructor
  · rintro (h1 | ⟨j, hj, ⟨p, y, l⟩, h1, h2⟩)
    · exact .inl h1
    · exact .inr ⟨p, y, l, List.mem_of_getElem? h1, h2⟩
  · rintro (h1 | ⟨p, y, l, h1, h2⟩)
    · exact .inl h1
    · obtain ⟨j, hj⟩ := List.getElem?_of_mem h1
      have hl : j < (stepsOf es t.at_).length := by
        rcases Nat.lt_or_ge j (stepsOf es t.at_).length with g | g
        · exact g
        · rw [List.getElem?_eq_none g] at hj; cases hj
      exact .inr ⟨j, by omega, (p, y, l), hj, h2⟩
end Go.Proofs.Ytdjambejppanoaa
