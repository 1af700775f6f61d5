/- A heap of trials: how it lies; Len, Less, Swap. -/
import Derived.Test.YtdjambejppanoaaCP
import Derived.WalkSmall
import Derived.Maps.AppendAt
import Derived.Deep.AppendLies
import Derived.Deep.RegionLaw
import Derived.Deep.RegionHeld3
import Derived.BigQuiet
namespace Go.Proofs.Ytdjambejppanoaa
open Go.RowKit
def PT.zero : PT := ⟨TrialV.zero, none, 0⟩
def PT.vs (p : PT) : List Value := [.int .i64 p.t.at_, .int .i64 p.t.len, .slice p.a p.t.way.length p.c]
def flatPT (ps : List PT) : List Value := ps.flatMap PT.vs
theorem flatPT_cons (p : PT) (ps : List PT) : flatPT (p :: ps) = .int .i64 p.t.at_ :: .int .i64 p.t.len :: .slice p.a p.t.way.length p.c :: flatPT ps := rfl
theorem flatPT_len (ps : List PT) : (flatPT ps).length = ps.length * 3 := by
  induction ps with
  | nil => rfl
  | cons p ps ih => rw [flatPT_cons]; simp only [List.length_cons, ih]; omega
theorem flatPT_app (xs ys : List PT) : flatPT (xs ++ ys) = flatPT xs ++ flatPT ys := by simp [flatPT]
theorem flatPT_get (ps : List PT) : ∀ i, i < ps.length → (flatPT ps)[i * 3]? = some (.int .i64 (ps.getD i PT.zero).t.at_) ∧ (flatPT ps)[i * 3 + 1]? = some (.int .i64 (ps.getD i PT.zero).t.len) ∧ (flatPT ps)[i * 3 + 2]? = some (.slice (ps.getD i PT.zero).a (ps.getD i PT.zero).t.way.length (ps.getD i PT.zero).c) := by
  induction ps with
  | nil => intro i hi; simp at hi
  | cons p ps ih =>
    intro i hi
    rw [flatPT_cons]
    cases i with
    | zero => simp
    | succ i =>
      have h := ih i (by simpa using hi)
      have e1 : (i + 1) * 3 = i * 3 + 1 + 1 + 1 := by omega
      rw [e1]
      simpa using h
theorem flatPT_set (q : PT) : ∀ (ps : List PT) (i : Nat), i < ps.length → (((flatPT ps).set (i * 3) (.int .i64 q.t.at_)).set (i * 3 + 1) (.int .i64 q.t.len)).set (i * 3 + 2) (.slice q.a q.t.way.length q.c) = flatPT (ps.set i q)
  | [], i, h => by simp at h
  | p :: ps, 0, _ => by simp [flatPT_cons]
  | p :: ps, i + 1, h => by
    have ih := flatPT_set q ps i (by simpa using h)
    rw [flatPT_cons, List.set_cons_succ, flatPT_cons, ← ih]
    have e1 : (i + 1) * 3 = i * 3 + 1 + 1 + 1 := by omega
    rw [e1]
    simp [List.set_cons_succ]
/-- The trials ps lie in block g, their ways in rows of their own. -/
structure Ts (w : World) (B g c : Nat) (ps : List PT) : Prop where
  own : w.ownsRow B 59 3 (.slice (some ⟨g, 0, none⟩) ps.length c) ps.length (flatPT ps)
  ways : ∀ p ∈ ps, w.ownsRow B 3 1 (.slice p.a p.t.way.length p.c) p.t.way.length ((nI p.t.way).map (.int .i64))
theorem Ts.below {w w' : World} {B g c : Nat} {ps : List PT} (h : Ts w B g c ps) (hb : Below w.heap.size w w') : Ts w' B g c ps := ⟨own_keep h.own hb, fun p hp => own_keep (h.ways p hp) hb⟩
theorem Ts.blk {w : World} {B g c : Nat} {ps : List PT} (h : Ts w B g c ps) : ∃ cur, w.heap[g]? = some (.cells cur 59 (0, 0)) ∧ B ≤ g := by
  rcases h.own.2 with ⟨e, _⟩ | ⟨g', cap', cur, e, hB, hh, _⟩
  · cases e
  · simp only [Value.slice.injEq, Option.some.injEq, Addr.mk.injEq, and_true] at e
    obtain ⟨rfl, -⟩ := e
    exact ⟨cur, hh, hB⟩
theorem Ts.way_ne {w : World} {B g c : Nat} {ps : List PT} (h : Ts w B g c ps) {p : PT} (hp : p ∈ ps) : ∀ k, (Value.slice p.a p.t.way.length p.c).ownBlock = some k → k ≠ g := by
  obtain ⟨cur, hh, _⟩ := h.blk
  exact row_ne (h.ways p hp) hh (by decide)
theorem Ts.cells {w : World} {B g c : Nat} {ps : List PT} (h : Ts w B g c ps) {i : Nat} (hi : i < ps.length) : w.cell? ⟨g, i * 3, none⟩ = some (.int .i64 (ps.getD i PT.zero).t.at_) ∧ w.cell? ⟨g, i * 3 + 1, none⟩ = some (.int .i64 (ps.getD i PT.zero).t.len) ∧ w.cell? ⟨g, i * 3 + 2, none⟩ = some (.slice (ps.getD i PT.zero).a (ps.getD i PT.zero).t.way.length (ps.getD i PT.zero).c) := by
  have f := flatPT_get ps i hi
  exact ⟨(h.own.cellAt _ (by omega)).trans f.1, (h.own.cellAt _ (by omega)).trans f.2.1, (h.own.cellAt _ (by omega)).trans f.2.2⟩
theorem Ts.set {w : World} {B g c : Nat} {ps : List PT} (h : Ts w B g c ps) {i : Nat} (hi : i < ps.length) {q : PT} (hq : q ∈ ps) :
    Ts (((w.setCell ⟨g, i * 3, none⟩ (.int .i64 q.t.at_)).setCell ⟨g, i * 3 + 1, none⟩ (.int .i64 q.t.len)).setCell ⟨g, i * 3 + 2, none⟩ (.slice q.a q.t.way.length q.c)) B g c (ps.set i q) := by
  have o1 := (h.own.stored (i * 3) (.int .i64 q.t.at_)).1
  have o2 := (o1.stored (i * 3 + 1) (.int .i64 q.t.len)).1
  have o3 := (o2.stored (i * 3 + 2) (.slice q.a q.t.way.length q.c)).1
  rw [flatPT_set q ps i hi] at o3
  have key : ∀ p ∈ ps, World.ownsRow (((w.setCell ⟨g, i * 3, none⟩ (.int .i64 q.t.at_)).setCell ⟨g, i * 3 + 1, none⟩ (.int .i64 q.t.len)).setCell ⟨g, i * 3 + 2, none⟩ (.slice q.a q.t.way.length q.c)) B 3 1 (.slice p.a p.t.way.length p.c) p.t.way.length ((nI p.t.way).map (.int .i64)) := fun p hp =>
    own_set (own_set (own_set (h.ways p hp) (h.way_ne hp)) (h.way_ne hp)) (h.way_ne hp)
  refine ⟨by rw [List.length_set]; exact o3, fun p hp => ?_⟩
  rcases List.mem_or_eq_of_mem_set hp with h1 | rfl
  · exact key p h1
  · exact key p hq
theorem PT.mem {ps : List PT} {i : Nat} (hi : i < ps.length) : ps.getD i PT.zero ∈ ps := by simp [List.getD, hi]
set_option maxHeartbeats 1600000 in
theorem cLenT (a : Option Addr) (n c : Nat) (w : World) : Calls Try.prog 106 #[.slice a n c] w fun e w' => e = .returned (.int .i64 (n : Int)) ∧ w' = w := by
  go_enter Try.func106, Try.ntmps106
  go_wp2
  go_ret
  exact ⟨rfl, rfl⟩
/-- How long ways and heaps are. -/
structure Sm (ps : List PT) : Prop where
  few : ps.length ≤ 1048576
  ways : ∀ p ∈ ps, p.t.way.length ≤ 1048576
set_option maxHeartbeats 1600000 in
theorem cLessT (B g c : Nat) (ps : List PT) (i j : Nat) (w : World) (T : Ts w B g c ps) (S : Sm ps) (hi : i < ps.length) (hj : j < ps.length) :
    Calls Try.prog 107 #[.slice (some ⟨g, 0, none⟩) ps.length c, .int .i64 (i : Int), .int .i64 (j : Int)] w fun e w' => e = .returned (.bool (decide (cmpT (ps.getD i PT.zero).t (ps.getD j PT.zero).t < 0))) ∧ Below w.heap.size w w' := by
  obtain ⟨x0, x1, x2⟩ := T.cells hi
  obtain ⟨y0, y1, y2⟩ := T.cells hj
  have hpi := Ints.own (T.ways _ (PT.mem hi)) (nI_len _)
  have hpj := Ints.own (T.ways _ (PT.mem hj)) (nI_len _)
  have CC := fun W (h : Below w.heap.size w W) => cCmpT (ps.getD i PT.zero) (ps.getD j PT.zero) W (hpi.below h) (hpj.below h) (S.ways _ (PT.mem hi)) (S.ways _ (PT.mem hj))
  have hi' : (i : Int) < (ps.length : Int) := by omega
  have hj' : (j : Int) < (ps.length : Int) := by omega
  generalize ps.getD i PT.zero = p at *
  generalize ps.getD j PT.zero = q at *
  obtain ⟨⟨pm, pk, pp⟩, pa, pc⟩ := p
  obtain ⟨⟨qm, qk, qp⟩, qa, qc⟩ := q
  unfold PT.val at CC
  dsimp only at *
  generalize cmpT ⟨pm, pk, pp⟩ ⟨qm, qk, qp⟩ = R at *
  have hn := S.few
  generalize ps.length = n at *
  clear T S hpi hpj
  go_enter Try.func107, Try.ntmps107
  go_wp2
  go_region_held3 (fun w' => w'.cell? ⟨g, i * 3, none⟩ = some (.int .i64 pm) ∧ w'.cell? ⟨g, i * 3 + 1, none⟩ = some (.int .i64 pk) ∧ w'.cell? ⟨g, i * 3 + 2, none⟩ = some (.slice pa pp.length pc) ∧ w'.cell? ⟨g, j * 3, none⟩ = some (.int .i64 qm) ∧ w'.cell? ⟨g, j * 3 + 1, none⟩ = some (.int .i64 qk) ∧ w'.cell? ⟨g, j * 3 + 2, none⟩ = some (.slice qa qp.length qc)) (go_keep) (first
    | (go_at_call 105; with_reducible refine (CC _ (Below.refl _ _).drew).mono ?_; rintro e w1 ⟨rfl, hbd⟩; have hb := undrew hbd; have k0 := ble hb x0; have k1 := ble hb x1; have k2 := ble hb x2; have k3 := ble hb y0; have k4 := ble hb y1; have k5 := ble hb y2))
  go_wp2
  go_ret
  exact ⟨rfl, hb⟩
def swapPT (ps : List PT) (i j : Nat) : List PT := (ps.set i (ps.getD j PT.zero)).set j (ps.getD i PT.zero)
theorem swapPT_len (ps : List PT) (i j : Nat) : (swapPT ps i j).length = ps.length := by simp [swapPT]
theorem mem_swapPT {ps : List PT} {i j : Nat} (hi : i < ps.length) (hj : j < ps.length) {p : PT} (h : p ∈ swapPT ps i j) : p ∈ ps := by
  unfold swapPT at h
  rcases List.mem_or_eq_of_mem_set h with h | rfl
  · rcases List.mem_or_eq_of_mem_set h with h | rfl
    · exact h
    · exact PT.mem hj
  · exact PT.mem hi
theorem Ts.swap {w : World} {B g c : Nat} {ps : List PT} (h : Ts w B g c ps) {i j : Nat} (hi : i < ps.length) (hj : j < ps.length) {w1 w2 : World} {p q : PT} (hp : ps.getD i PT.zero = p) (hq : ps.getD j PT.zero = q)
    (e1 : w1 = ((w.setCell ⟨g, i * 3, none⟩ (.int .i64 q.t.at_)).setCell ⟨g, i * 3 + 1, none⟩ (.int .i64 q.t.len)).setCell ⟨g, i * 3 + 2, none⟩ (.slice q.a q.t.way.length q.c))
    (e2 : w2 = ((w1.setCell ⟨g, j * 3, none⟩ (.int .i64 p.t.at_)).setCell ⟨g, j * 3 + 1, none⟩ (.int .i64 p.t.len)).setCell ⟨g, j * 3 + 2, none⟩ (.slice p.a p.t.way.length p.c)) :
    Ts w2 B g c (swapPT ps i j) ∧ w.grownBy w2 (some g) := by
  subst hp hq
  obtain ⟨cur, hh, hB⟩ := h.blk
  have h1 := h.set hi (PT.mem hj)
  rw [← e1] at h1
  have hways : ∀ p ∈ ps, w1.ownsRow B 3 1 (.slice p.a p.t.way.length p.c) p.t.way.length ((nI p.t.way).map (.int .i64)) := fun p hp => by
    rw [e1]; exact own_set (own_set (own_set (h.ways p hp) (h.way_ne hp)) (h.way_ne hp)) (h.way_ne hp)
  have T1 : Ts w1 B g c (ps.set i (ps.getD j PT.zero)) := h1
  obtain ⟨cur1, hh1, -⟩ := T1.blk
  have o1 := (T1.own.stored (j * 3) (.int .i64 (ps.getD i PT.zero).t.at_)).1
  have o2 := (o1.stored (j * 3 + 1) (.int .i64 (ps.getD i PT.zero).t.len)).1
  have o3 := (o2.stored (j * 3 + 2) (.slice (ps.getD i PT.zero).a (ps.getD i PT.zero).t.way.length (ps.getD i PT.zero).c)).1
  rw [flatPT_set _ _ j (by rw [List.length_set]; exact hj), ← e2] at o3
  refine ⟨⟨by rw [swapPT_len]; simpa [swapPT] using o3, fun p hp => ?_⟩, ?_⟩
  · have hm := mem_swapPT hi hj hp
    have hne : ∀ k, (Value.slice p.a p.t.way.length p.c).ownBlock = some k → k ≠ g := h.way_ne hm
    rw [e2]
    exact own_set (own_set (own_set (hways p hm) hne) hne) hne
  · subst e1 e2
    exact gset (gset (gset (gset (gset (gset (World.grownBy.refl _ _) _ _) _ _) _ _) _ _) _ _) _ _
set_option maxHeartbeats 1600000 in
theorem cSwapT (B g c : Nat) (ps : List PT) (i j : Nat) (w : World) (T : Ts w B g c ps) (S : Sm ps) (hi : i < ps.length) (hj : j < ps.length) :
    Calls Try.prog 109 #[.slice (some ⟨g, 0, none⟩) ps.length c, .int .i64 (i : Int), .int .i64 (j : Int)] w fun e w' => e = .returned (.tuple #[]) ∧ Ts w' B g c (swapPT ps i j) ∧ w.grownBy w' (some g) := by
  obtain ⟨x0, x1, x2⟩ := T.cells hi
  obtain ⟨y0, y1, y2⟩ := T.cells hj
  have TS := T.swap hi hj rfl rfl rfl rfl
  have T1 := T.set hi (PT.mem hj)
  obtain ⟨z0, z1, z2⟩ := T1.cells (i := j) (by rw [List.length_set]; exact hj)
  generalize ((ps.set i (ps.getD j PT.zero)).getD j PT.zero) = r at *
  have fz := fun k => T.own.frozenAt k
  have f0 := fz (i * 3)
  have f1 := fz (i * 3 + 1)
  have f2 := fz (i * 3 + 2)
  have f3 := fz (j * 3)
  have f4 := fz (j * 3 + 1)
  have f5 := fz (j * 3 + 2)
  have hi' : (i : Int) < (ps.length : Int) := by omega
  have hj' : (j : Int) < (ps.length : Int) := by omega
  have hn := S.few
  generalize ps.getD i PT.zero = p at *
  generalize ps.getD j PT.zero = q at *
  obtain ⟨⟨pm, pk, pp⟩, pa, pc⟩ := p
  obtain ⟨⟨qm, qk, qp⟩, qa, qc⟩ := q
  obtain ⟨⟨rm, rk, rp⟩, ra, rc⟩ := r
  dsimp only at *
  replace TS := hide TS
  clear T T1 S fz
  generalize ps.length = n at *
  go_enter Try.func109, Try.ntmps109
  go_region_law (fail)
  all_goals go_wp2
  all_goals refine bodyPost_end (results_none rfl _ _ _) rfl ?_
  all_goals exact ⟨rfl, TS.out.1.below (Below.refl _ _).drew, gbelow TS.out.2 (Below.refl _ _).drew⟩
end Go.Proofs.Ytdjambejppanoaa
