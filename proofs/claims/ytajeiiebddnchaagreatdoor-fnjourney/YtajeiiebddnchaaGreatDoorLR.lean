/- The model's journey: leg by leg the first with which the rest comes in time. -/
import Derived.Test.YtajeiiebddnchaaGreatDoorLQ
namespace Go.Proofs.YtajeiiebddnchaaGreatDoor
open Go.RowKit
/-- Legs, at least one, that lead from a node, left at r or later, to q. -/
def Pf (ts : List TripV) (ch : Int) : Int → Int → List Lg → Qn → Prop
  | _, _, [], _ => False
  | n, r, x :: xs, q => ∃ p, Leads ts r n x p ∧ ((xs = [] ∧ p = q) ∨ Pf ts ch p.n (p.m + ch) xs q)
theorem Leads.later {ts : List TripV} {r n : Int} {x : Lg} {q : Qn} (hg : Gd ts) (h : Leads ts r n x q) : r < q.m := by
  obtain ⟨h1, _, h3, _, h5⟩ := h
  have := hg.rise _ _ _ h1
  omega
theorem pf_later {ts : List TripV} {ch : Int} (hg : Gd ts) (hc : 0 ≤ ch) : ∀ {xs : List Lg} {n r : Int} {q : Qn}, Pf ts ch n r xs q → r < q.m
  | [], _, _, _, h => absurd h (by simp [Pf])
  | x :: xs, n, r, q, ⟨p, h1, h2⟩ => by
    have := h1.later hg
    rcases h2 with ⟨_, rfl⟩ | h2
    · exact this
    · have := pf_later hg hc h2; omega
theorem pt_pf {ts : List TripV} {s : Qn} {ch : Int} (hg : Gd ts) (hc : 0 ≤ ch) {q : Qn} : ∀ {xs : List Lg} {p : Qn}, xs ≠ [] → s.m ≤ p.m → (Pt ts s ch p xs q ↔ Pf ts ch p.n (rdy s ch p) xs q)
  | [], _, h, _ => absurd rfl h
  | x :: xs, p, _, hp => by
    have key : ∀ p', Leads ts (rdy s ch p) p.n x p' → (Pt ts s ch p' xs q ↔ ((xs = [] ∧ p' = q) ∨ Pf ts ch p'.n (p'.m + ch) xs q)) := fun p' hl => by
      have h1 := hl.later hg
      have h2 := rdy_ge (s := s) hc p
      have hne : p' ≠ s := fun e => by rw [e] at h1; omega
      by_cases hx : xs = []
      · subst hx
        exact Iff.intro (fun h => .inl ⟨rfl, h⟩) (fun h => h.elim (fun g => g.2) (fun g => absurd g (by simp [Pf])))
      · rw [pt_pf hg hc hx (by omega)]
        have hr : rdy s ch p' = p'.m + ch := by unfold rdy; rw [if_neg hne]
        rw [hr]
        exact Iff.intro .inr (fun h => h.elim (fun g => absurd g.1 hx) id)
    constructor
    · rintro ⟨p', h1, h2⟩; exact ⟨p', h1, (key p' h1).1 h2⟩
    · rintro ⟨p', h1, h2⟩; exact ⟨p', h1, (key p' h1).2 h2⟩
theorem start_pf {ts : List TripV} {s : Qn} {ch : Int} (hg : Gd ts) (hc : 0 ≤ ch) {q : Qn} {xs : List Lg} (hx : xs ≠ []) : Pt ts s ch s xs q ↔ Pf ts ch s.n s.m xs q := by
  have := pt_pf (s := s) hg hc (q := q) hx (Int.le_refl s.m)
  have hr : rdy s ch s = s.m := by unfold rdy; rw [if_pos rfl]
  rwa [hr] at this
theorem jr_pf {ts : List TripV} {n r to m ch : Int} {h : Nat} (hg : Gd ts) (hc : 0 ≤ ch) (hne : n ≠ to) : Jr ts ⟨n, r⟩ ch h ⟨to, m⟩ ↔ ∃ L : List Lg, L.length ≤ h ∧ Pf ts ch n r L ⟨to, m⟩ := by
  constructor
  · intro hj
    obtain ⟨L, h1, h2⟩ := jr_pt h _ hj
    have hx : L ≠ [] := fun e => by subst e; exact hne (congrArg Qn.n h2)
    exact ⟨L, h1, (start_pf hg hc hx).1 h2⟩
  · rintro ⟨L, h1, h2⟩
    have hx : L ≠ [] := fun e => by subst e; exact h2
    exact (pt_jr _ L _ rfl ((start_pf (s := ⟨n, r⟩) hg hc hx).2 h2)).more h1
/-- What stands of the model's journey: the legs told so far, and how many are to come. -/
structure Jv (ts : List TripV) (s : Qn) (ch to e n r : Int) (f : Nat) (out : List Lg) : Prop where
  zero : f = 0 → IsJn ts s ch ⟨to, e⟩ out
  soon : ∀ L m, L.length ≤ f → Pf ts ch n r L ⟨to, m⟩ → e ≤ m
  few : ∀ L, Pf ts ch n r L ⟨to, e⟩ → f ≤ L.length
  one : 0 < f → ∃ L : List Lg, L.length = f ∧ Pf ts ch n r L ⟨to, e⟩
  ans : 0 < f → ∀ L : List Lg, L.length = f → Pf ts ch n r L ⟨to, e⟩ → (∀ L' : List Lg, L'.length = f → Pf ts ch n r L' ⟨to, e⟩ → lsLe L L') → IsJn ts s ch ⟨to, e⟩ (out ++ L)
/-- A leg with which the journey can go on. -/
def Fits (ts : List TripV) (ch to e n r : Int) (f : Nat) (x : Lg) : Prop :=
  ∃ p, Leads ts r n x p ∧ ((f = 0 ∧ p = ⟨to, e⟩) ∨ (0 < f ∧ p.n ≠ to ∧ IsSoon ts ⟨p.n, p.m + ch⟩ ch f to e))
theorem fits_iff {ts : List TripV} {s : Qn} {ch to e n r : Int} {f : Nat} {out : List Lg} (hg : Gd ts) (hc : 0 ≤ ch) (he : 0 ≤ e) (h : Jv ts s ch to e n r (f + 1) out) (x : Lg) :
    Fits ts ch to e n r f x ↔ ∃ L : List Lg, L.length = f ∧ Pf ts ch n r (x :: L) ⟨to, e⟩ := by
  constructor
  · rintro ⟨p, h1, ⟨rfl, rfl⟩ | ⟨h2, h3, h4⟩⟩
    · exact ⟨[], rfl, ⟨to, e⟩, h1, .inl ⟨rfl, rfl⟩⟩
    · rcases h4 with ⟨h4, _⟩ | ⟨h4, _⟩
      · omega
      · obtain ⟨L, g1, g2⟩ := (jr_pf hg hc h3).1 h4
        have g3 : Pf ts ch n r (x :: L) ⟨to, e⟩ := ⟨p, h1, .inr g2⟩
        have := h.few _ g3
        simp at this
        exact ⟨L, by omega, g3⟩
  · rintro ⟨L, h1, p, h2, ⟨rfl, rfl⟩ | h3⟩
    · exact ⟨⟨to, e⟩, h2, .inl ⟨h1.symm, rfl⟩⟩
    · have hL : L ≠ [] := fun e0 => by subst e0; exact h3
      have h0 : 0 < f := by rw [← h1]; exact List.length_pos_iff.2 hL
      have hlat := pf_later hg hc h3
      simp only at hlat
      have hne : p.n ≠ to := fun e0 => by
        have : Pf ts ch n r [x] ⟨to, p.m⟩ := ⟨p, h2, .inl ⟨rfl, by cases p; simp_all⟩⟩
        have := h.soon _ _ (by simp) this
        omega
      refine ⟨p, h2, .inr ⟨h0, hne, .inr ⟨(jr_pf hg hc hne).2 ⟨L, by omega, h3⟩, fun m hm => ?_⟩⟩⟩
      obtain ⟨L', g1, g2⟩ := (jr_pf hg hc hne).1 hm
      exact h.soon (x :: L') m (by simp; omega) ⟨p, h2, .inr g2⟩
theorem Jv.step {ts : List TripV} {s : Qn} {ch to e n r : Int} {f : Nat} {out : List Lg} (hg : Gd ts) (hc : 0 ≤ ch) (he : 0 ≤ e) (h : Jv ts s ch to e n r (f + 1) out) {x : Lg} (hx : Fits ts ch to e n r f x) (hmin : ∀ y, lgLt y x → ¬ Fits ts ch to e n r f y) :
    Jv ts s ch to e (hcA ts x.1 x.2.2).n ((hcA ts x.1 x.2.2).a + ch) f (out ++ [x]) := by
  obtain ⟨p, h1, h2⟩ := hx
  have hxf : Fits ts ch to e n r f x := ⟨p, h1, h2⟩
  have e1 : (hcA ts x.1 x.2.2).n = p.n := h1.2.2.2.1
  have e2 : (hcA ts x.1 x.2.2).a = p.m := h1.2.2.2.2
  rw [e1, e2]
  have hleast : ∀ L : List Lg, L.length = f → Pf ts ch n r (x :: L) ⟨to, e⟩ → (∀ L' : List Lg, L'.length = f → Pf ts ch n r (x :: L') ⟨to, e⟩ → lsLe L L') → IsJn ts s ch ⟨to, e⟩ (out ++ (x :: L)) := fun L g1 g2 g3 => by
    refine h.ans (by omega) (x :: L) (by simp [g1]) g2 (fun L' k1 k2 => ?_)
    cases L' with
    | nil => simp at k1
    | cons y ys =>
      have hy : Fits ts ch to e n r f y := (fits_iff hg hc he h y).2 ⟨ys, by simpa using k1, k2⟩
      rcases lgLt_tri x y with h5 | h5 | h5
      · exact .inr (.inl h5)
      · subst h5
        rcases g3 ys (by simpa using k1) k2 with g | g
        · exact .inl (by rw [g])
        · exact .inr (.inr ⟨rfl, g⟩)
      · exact absurd hy (hmin y h5)
  have hpx : ∀ L, L ≠ [] → (Pf ts ch n r (x :: L) ⟨to, e⟩ ↔ Pf ts ch p.n (p.m + ch) L ⟨to, e⟩) := fun L hL => by
    constructor
    · rintro ⟨p', g1, ⟨g2, _⟩ | g2⟩
      · exact absurd g2 hL
      · have := g1.uniq h1; subst this; exact g2
    · intro g; exact ⟨p, h1, .inr g⟩
  refine ⟨fun hf => ?_, fun L m g1 g2 => h.soon (x :: L) m (by simp; omega) ⟨p, h1, .inr g2⟩, fun L g => ?_, fun h0 => ?_, fun h0 L g1 g2 g3 => ?_⟩
  · subst hf
    rcases h2 with ⟨_, rfl⟩ | ⟨h2, _⟩
    · refine hleast [] rfl ⟨_, h1, .inl ⟨rfl, rfl⟩⟩ (fun L' k1 _ => ?_)
      rw [List.length_eq_zero_iff] at k1; subst k1; exact .inl rfl
    · omega
  · have := h.few (x :: L) ⟨p, h1, .inr g⟩
    simp at this
    exact this
  · obtain ⟨L, g1, g2⟩ := (fits_iff hg hc he h x).1 hxf
    have hL : L ≠ [] := fun e0 => by subst e0; simp at g1; omega
    exact ⟨L, g1, (hpx L hL).1 g2⟩
  · have hL : L ≠ [] := fun e0 => by subst e0; simp at g1; omega
    have := hleast L g1 ((hpx L hL).2 g2) (fun L' k1 k2 => by
      have hL' : L' ≠ [] := fun e0 => by subst e0; simp at k1; omega
      exact g3 L' k1 ((hpx L' hL').1 k2))
    simpa using this
theorem Jv.some {ts : List TripV} {s : Qn} {ch to e n r : Int} {f : Nat} {out : List Lg} (hg : Gd ts) (hc : 0 ≤ ch) (he : 0 ≤ e) (h : Jv ts s ch to e n r (f + 1) out) : ∃ x, Fits ts ch to e n r f x := by
  obtain ⟨L, g1, g2⟩ := h.one (by omega)
  cases L with
  | nil => simp at g1
  | cons x xs => exact ⟨x, (fits_iff hg hc he h x).2 ⟨xs, by simpa using g1, g2⟩⟩
/-- How the model's journey begins. -/
theorem Jv.begin {ts : List TripV} {s : Qn} {ch to e : Int} {hops f : Nat} (hg : Gd ts) (hc : 0 ≤ ch) (he : 0 ≤ e) (hs : IsSoon ts s ch hops to e) (hf : f ≤ hops) (h1 : IsSoon ts s ch f to e) (h2 : ∀ k, k < f → ¬ IsSoon ts s ch k to e) : Jv ts s ch to e s.n s.m f [] := by
  have hall : ∀ m, Jr ts s ch hops ⟨to, m⟩ → e ≤ m := by
    rcases hs with ⟨h, _⟩ | ⟨_, h⟩
    · omega
    · exact h
  have hje : Jr ts s ch f ⟨to, e⟩ := by
    rcases h1 with ⟨h, _⟩ | ⟨h, _⟩
    · omega
    · exact h
  have hnot : ∀ k, k < f → ¬ Jr ts s ch k ⟨to, e⟩ := fun k hk hj => h2 k hk (.inr ⟨hj, fun m hm => hall m (hm.more (by omega))⟩)
  have hjl : ∀ L : List Lg, Pf ts ch s.n s.m L ⟨to, e⟩ → Pt ts s ch s L ⟨to, e⟩ := fun L h => (start_pf hg hc (fun e0 => by subst e0; exact h)).2 h
  have hfew : ∀ L : List Lg, Pt ts s ch s L ⟨to, e⟩ → f ≤ L.length := fun L h => by
    refine Classical.byContradiction fun hn => hnot L.length (by omega) (pt_jr _ L _ rfl h)
  refine ⟨fun h0 => ?_, fun L m g1 g2 => ?_, fun L g => hfew L (hjl L g), fun h0 => ?_, fun h0 L g1 g2 g3 => ?_⟩
  · subst h0
    have : (⟨to, e⟩ : Qn) = s := hje
    exact ⟨this.symm, fun L' _ => Nat.zero_le _, fun L' hL _ => .inl (List.length_eq_zero_iff.1 (by simpa using hL)).symm⟩
  · have hp : Pt ts s ch s L ⟨to, m⟩ := (start_pf hg hc (fun e0 => by subst e0; exact g2)).2 g2
    exact hall m ((pt_jr _ L _ rfl hp).more (by omega))
  · obtain ⟨L, g1, g2⟩ := jr_pt f _ hje
    have := hfew L g2
    have hL : L ≠ [] := fun e0 => by subst e0; simp at this; omega
    exact ⟨L, by omega, (start_pf hg hc hL).1 g2⟩
  · have hL : ∀ L' : List Lg, L'.length = f → L' ≠ [] := fun L' k e0 => by subst e0; simp at k; omega
    rw [List.nil_append]
    exact ⟨hjl L g2, fun L' k => by rw [g1]; exact hfew L' k, fun L' k1 k2 => g3 L' (by omega) ((start_pf hg hc (hL L' (by omega))).1 k2)⟩
end Go.Proofs.YtajeiiebddnchaaGreatDoor
