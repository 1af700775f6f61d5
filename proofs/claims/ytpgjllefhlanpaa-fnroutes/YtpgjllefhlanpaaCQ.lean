/- A list of routes copied; plants and lockings copied. -/
import Derived.Test.YtpgjllefhlanpaaCP
namespace Go.Proofs.Ytpgjllefhlanpaa
open Go.RowKit
def flatP (vs : List (Value × Value)) : List Value := vs.flatMap fun q => [q.1, q.2]
theorem flatP_cons (q : Value × Value) (vs : List (Value × Value)) : flatP (q :: vs) = q.1 :: q.2 :: flatP vs := rfl
theorem flatP_len (vs : List (Value × Value)) : (flatP vs).length = vs.length * 2 := by
  induction vs with
  | nil => rfl
  | cons e es ih => rw [flatP_cons]; simp only [List.length_cons, ih]; omega
theorem flatP_app (xs ys : List (Value × Value)) : flatP (xs ++ ys) = flatP xs ++ flatP ys := by simp [flatP]
theorem flatP_get (vs : List (Value × Value)) : ∀ i, (hi : i < vs.length) → (flatP vs)[i * 2]? = some vs[i].1 ∧ (flatP vs)[i * 2 + 1]? = some vs[i].2 := by
  induction vs with
  | nil => intro i hi; simp at hi
  | cons e es ih =>
    intro i hi
    rw [flatP_cons]
    cases i with
    | zero => simp
    | succ i =>
      have h := ih i (by simpa using hi)
      have e1 : (i + 1) * 2 = i * 2 + 1 + 1 := by omega
      rw [e1]
      simpa using h
theorem infoRoute : (Try.prog.info? 48).map (fun i => (i.zero, i.size, i.bytes)) = some (some (.agg #[.slice none 0 0, .slice none 0 0]), 2, 48) := by kernel_rfl
theorem madeRoute (n : Nat) : (madeCells (Value.agg #[.slice none 0 0, .slice none 0 0]).cells (n * 2)).toList = List.replicate (n * 2) (Value.slice none 0 0) := by
  apply List.ext_getElem?
  intro j
  by_cases hj : j < n * 2
  · have h4 : j % 2 < 2 := Nat.mod_lt _ (by omega)
    simp only [madeCells, Value.cells]
    generalize hq : j % 2 = q at h4
    match q, h4 with
    | 0, _ => simp [hj, hq]
    | 1, _ => simp [hj, hq]
  · simp [madeCells, hj]
theorem stepRoute (vs : List (Value × Value)) (n k : Nat) (va vb : Value) (hv : vs.length = k) (hk : k < n) :
    ((flatP vs ++ List.replicate ((n - k) * 2) (Value.slice none 0 0)).set (k * 2) va).set (k * 2 + 1) vb = flatP (vs ++ [(va, vb)]) ++ List.replicate ((n - (k + 1)) * 2) (Value.slice none 0 0) := by
  have e1 : (n - k) * 2 = (n - (k + 1)) * 2 + 1 + 1 := by omega
  have e2 : (flatP vs).length = k * 2 := by rw [flatP_len, hv]
  rw [List.set_append_right _ _ (by omega), List.set_append_right _ _ (by omega), e2, e1, List.replicate_succ, List.replicate_succ, flatP_app]
  have a0 : k * 2 - k * 2 = 0 := by omega
  have a1 : k * 2 + 1 - k * 2 = 1 := by omega
  rw [a0, a1]
  simp [flatP]
/-- Routes that the call itself made: the list's own block lies ahead of all of theirs. -/
def RoutesOwn (w : World) (lo hi : Nat) (a : Option Addr) (rs : List RouteV) : Prop :=
  ∃ g, a = some ⟨g, 0, none⟩ ∧ lo ≤ g ∧ g < hi ∧ ∀ i, i < rs.length → ∃ va vb, w.cell? ⟨g, i * 2, none⟩ = some va ∧ w.cell? ⟨g, i * 2 + 1, none⟩ = some vb ∧ RouteOwn w (g + 1) hi va vb (rs.getD i RouteV.zero)
theorem RoutesOwn.below {w w' : World} {lo hi : Nat} {a : Option Addr} {rs : List RouteV} (h : RoutesOwn w lo hi a rs) (hb : Below w.heap.size w w') : RoutesOwn w' lo hi a rs := by
  obtain ⟨g, ha, h1, h2, hc⟩ := h
  refine ⟨g, ha, h1, h2, fun i hi => ?_⟩
  obtain ⟨va, vb, c1, c2, c3⟩ := hc i hi
  exact ⟨va, vb, ble hb c1, ble hb c2, c3.below hb⟩
theorem RoutesOwn.wider {w : World} {lo hi lo' hi' : Nat} {a : Option Addr} {rs : List RouteV} (h : RoutesOwn w lo hi a rs) (g1 : lo' ≤ lo) (g2 : hi ≤ hi') : RoutesOwn w lo' hi' a rs := by
  obtain ⟨g, ha, h1, h2, hc⟩ := h
  refine ⟨g, ha, by omega, by omega, fun i hi => ?_⟩
  obtain ⟨va, vb, c1, c2, c3⟩ := hc i hi
  exact ⟨va, vb, c1, c2, c3.wider (by omega) (by omega)⟩
theorem RoutesOwn.read {w : World} {lo hi : Nat} {a : Option Addr} {rs : List RouteV} (h : RoutesOwn w lo hi a rs) : Routes w a rs := by
  obtain ⟨g, ha, h1, h2, hc⟩ := h
  refine .inr ⟨g, 0, ha, fun i hi => ?_⟩
  obtain ⟨va, vb, c1, c2, a, ca, b, cb, q1, q2, q3, q4, _, _, q0⟩ := hc i hi
  rw [Nat.zero_add]
  exact ⟨va, vb, c1, c2, a, ca, b, cb, q1, q2, q0, q3, q4⟩

theorem frozen_of_heap {w w' : World} {b o : Nat} (h : w'.heap[b]? = w.heap[b]?) : w'.frozen? ⟨b, o, none⟩ = w.frozen? ⟨b, o, none⟩ := by simp [World.frozen?, h]
theorem Wz.same {w w' : World} {lo hi : Nat} {a : Option Addr} {n : Nat} (h : Wz w lo hi a n) (hs : ∀ k, lo ≤ k → w'.heap[k]? = w.heap[k]?) : Wz w' lo hi a n := by
  rcases h with h | ⟨b, off, h1, h2, h3, hc⟩
  · exact .inl h
  · refine .inr ⟨b, off, h1, h2, h3, fun i hi => ?_⟩
    obtain ⟨⟨v, hv⟩, hf⟩ := hc i hi
    exact ⟨⟨v, (cell_of_heap (hs b h2)).trans hv⟩, (frozen_of_heap (hs b h2)).trans hf⟩
theorem Ints.same {w w' : World} {lo hi : Nat} {a : Option Addr} {zs : List Int} (h : Ints w a zs) (g : Wz w lo hi a zs.length) (hs : ∀ k, lo ≤ k → w'.heap[k]? = w.heap[k]?) : Ints w' a zs := by
  rcases h with h | ⟨b, off, rfl, hc⟩
  · exact .inl h
  rcases g with g | ⟨b', off', g1, g2, _⟩
  · exact .inl (List.length_eq_zero_iff.1 g)
  · simp only [Option.some.injEq, Addr.mk.injEq] at g1
    obtain ⟨rfl, rfl, _⟩ := g1
    exact .inr ⟨b, off, rfl, fun i hi => (cell_of_heap (hs b g2)).trans (hc i hi)⟩
theorem Needs.same {w w' : World} {lo hi : Nat} {a : Option Addr} {es : List NeedV} (h : Needs w a es) (g : Wz w lo hi a (es.length * 2)) (hs : ∀ k, lo ≤ k → w'.heap[k]? = w.heap[k]?) : Needs w' a es := by
  rcases h with h | ⟨b, off, rfl, hc⟩
  · exact .inl h
  rcases g with g | ⟨b', off', g1, g2, _⟩
  · exact .inl (List.length_eq_zero_iff.1 (by omega))
  · simp only [Option.some.injEq, Addr.mk.injEq] at g1
    obtain ⟨rfl, rfl, _⟩ := g1
    exact .inr ⟨b, off, rfl, fun i hi => ⟨(cell_of_heap (hs b g2)).trans (hc i hi).1, (cell_of_heap (hs b g2)).trans (hc i hi).2⟩⟩
theorem RouteOwn.same {w w' : World} {lo hi : Nat} {va vb : Value} {r : RouteV} (h : RouteOwn w lo hi va vb r) (hs : ∀ k, lo ≤ k → w'.heap[k]? = w.heap[k]?) : RouteOwn w' lo hi va vb r := by
  obtain ⟨a, ca, b, cb, h1, h2, h3, h4, h5, h6, h7⟩ := h
  exact ⟨a, ca, b, cb, h1, h2, h3.same h5 hs, h4.same h6 hs, h5.same hs, h6.same hs, h7⟩
theorem RoutesOwn.same {w w' : World} {lo hi : Nat} {a : Option Addr} {rs : List RouteV} (h : RoutesOwn w lo hi a rs) (hs : ∀ k, lo ≤ k → w'.heap[k]? = w.heap[k]?) : RoutesOwn w' lo hi a rs := by
  obtain ⟨g, ha, h1, h2, hc⟩ := h
  refine ⟨g, ha, h1, h2, fun i hi => ?_⟩
  obtain ⟨va, vb, c1, c2, c3⟩ := hc i hi
  exact ⟨va, vb, (cell_of_heap (hs g h1)).trans c1, (cell_of_heap (hs g h1)).trans c2, c3.same (fun k hk => hs k (by omega))⟩
theorem heap_set2 {w : World} {g i j : Nat} {u v : Value} : ∀ k, g + 1 ≤ k → ((w.setCell ⟨g, i, none⟩ u).setCell ⟨g, j, none⟩ v).heap[k]? = w.heap[k]? := fun k hk =>
  (Below.heap_setCell _ _ _ _ (by rintro rfl; omega)).trans (Below.heap_setCell _ _ _ _ (by rintro rfl; omega))

/-- A plant that the call itself made: its points ahead of its routes. -/
def PlantOwn (w : World) (lo hi : Nat) (a b : Option Addr) (p : PlantV) : Prop :=
  ∃ mid, lo ≤ mid ∧ mid ≤ hi ∧ Ints w a p.under ∧ Wz w lo mid a p.under.length ∧ RoutesOwn w mid hi b p.routes
theorem PlantOwn.read {w : World} {lo hi : Nat} {a b : Option Addr} {p : PlantV} (h : PlantOwn w lo hi a b p) : PlantIn w a b p := by
  obtain ⟨_, _, _, h1, _, h2⟩ := h
  exact ⟨h1, h2.read⟩
theorem PlantOwn.below {w w' : World} {lo hi : Nat} {a b : Option Addr} {p : PlantV} (h : PlantOwn w lo hi a b p) (hb : Below w.heap.size w w') : PlantOwn w' lo hi a b p := by
  obtain ⟨m, h1, h2, h3, h4, h5⟩ := h
  exact ⟨m, h1, h2, h3.below hb, h4.below hb, h5.below hb⟩

end Go.Proofs.Ytpgjllefhlanpaa
