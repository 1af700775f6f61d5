/- Ways in a net: mathematics. -/
import Derived.Test.YtdjambejppanoaaSE
namespace Go.Proofs.Ytdjambejppanoaa
open Go.RowKit
/-- The edge at place p leads from x to y and is l long. -/
def St (es : List EdgeV) (x : Int) (p : Nat) (y l : Int) : Prop :=
  ∃ h : p < es.length, ((es[p].a = x ∧ es[p].b = y) ∨ (es[p].b = x ∧ es[p].a = y)) ∧ es[p].l = l
theorem St.flip {es : List EdgeV} {x y l : Int} {p : Nat} (h : St es x p y l) : St es y p x l := by
  obtain ⟨h, hx, hl⟩ := h
  exact ⟨h, hx.elim (fun g => .inr ⟨g.2, g.1⟩) (fun g => .inl ⟨g.2, g.1⟩), hl⟩
/-- A way from x over the edges at some places to z, L long. -/
inductive Way (es : List EdgeV) : Int → List Nat → Int → Int → Prop
  | nil (x : Int) : Way es x [] x 0
  | cons {x y z l L : Int} {p : Nat} {ps : List Nat} : St es x p y l → Way es y ps z L → Way es x (p :: ps) z (l + L)
theorem Way.app {es : List EdgeV} {x y z L M : Int} {ps qs : List Nat} (h : Way es x ps y L) (g : Way es y qs z M) : Way es x (ps ++ qs) z (L + M) := by
  induction h with
  | nil x => simpa using g
  | cons s _ ih => rw [List.cons_append, Int.add_assoc]; exact .cons s (ih g)
theorem Way.one {es : List EdgeV} {x y l : Int} {p : Nat} (h : St es x p y l) : Way es x [p] y l := by
  have := Way.cons h (Way.nil (es := es) y)
  rwa [Int.add_zero] at this
theorem Way.snoc {es : List EdgeV} {x y z L l : Int} {p : Nat} {ps : List Nat} (h : Way es x ps y L) (g : St es y p z l) : Way es x (ps ++ [p]) z (L + l) := h.app (.one g)
theorem Way.flip {es : List EdgeV} {x y L : Int} {ps : List Nat} (h : Way es x ps y L) : Way es y ps.reverse x L := by
  induction h with
  | nil x => exact .nil x
  | cons s _ ih => rw [List.reverse_cons, Int.add_comm]; exact ih.snoc s.flip
theorem Way.split {es : List EdgeV} {x z : Int} {ps qs : List Nat} : ∀ {L : Int}, Way es x (ps ++ qs) z L → ∃ y M K, Way es x ps y M ∧ Way es y qs z K ∧ L = M + K := by
  induction ps generalizing x with
  | nil => intro L h; exact ⟨x, 0, L, .nil x, h, by omega⟩
  | cons p ps ih =>
    intro L h
    cases h with
    | cons s r =>
      obtain ⟨y, M, K, h1, h2, rfl⟩ := ih r
      exact ⟨y, _, K, .cons s h1, h2, by omega⟩
theorem Way.places {es : List EdgeV} {x y L : Int} {ps : List Nat} (h : Way es x ps y L) : ∀ p ∈ ps, p < es.length := by
  induction h with
  | nil => simp
  | cons s _ ih =>
    intro p hp
    rcases List.mem_cons.1 hp with rfl | hp
    · exact s.1
    · exact ih p hp
/-- A right net's edges: nodes in range, ends apart, lengths above nothing. -/
structure Rg (N : Int) (es : List EdgeV) : Prop where
  nd : ∀ p (h : p < es.length), (0 ≤ es[p].a ∧ es[p].a < N) ∧ (0 ≤ es[p].b ∧ es[p].b < N) ∧ es[p].a ≠ es[p].b ∧ 1 ≤ es[p].l ∧ es[p].l ≤ 100000
theorem St.pos {N : Int} {es : List EdgeV} (r : Rg N es) {x y l : Int} {p : Nat} (h : St es x p y l) : 1 ≤ l ∧ l ≤ 100000 := by
  obtain ⟨h, _, rfl⟩ := h
  exact (r.nd p h).2.2.2
theorem St.ends {N : Int} {es : List EdgeV} (r : Rg N es) {x y l : Int} {p : Nat} (h : St es x p y l) : (0 ≤ x ∧ x < N) ∧ (0 ≤ y ∧ y < N) ∧ x ≠ y := by
  obtain ⟨h, hx, -⟩ := h
  obtain ⟨h1, h2, h3, -⟩ := r.nd p h
  rcases hx with ⟨rfl, rfl⟩ | ⟨rfl, rfl⟩
  · exact ⟨h1, h2, h3⟩
  · exact ⟨h2, h1, fun e => h3 e.symm⟩
theorem St.same {N : Int} {es : List EdgeV} (r : Rg N es) {x y z l m : Int} {p : Nat} (h : St es x p y l) (g : St es x p z m) : y = z ∧ l = m := by
  obtain ⟨h, hx, rfl⟩ := h
  obtain ⟨_, gx, rfl⟩ := g
  have h3 := (r.nd p h).2.2.1
  rcases hx with ⟨h1, h2⟩ | ⟨h1, h2⟩ <;> rcases gx with ⟨g1, g2⟩ | ⟨g1, g2⟩
  · exact ⟨h2.symm.trans g2, rfl⟩
  · exact absurd (h1.trans g1.symm) h3
  · exact absurd (g1.trans h1.symm) h3
  · exact ⟨h2.symm.trans g2, rfl⟩
theorem Way.same {N : Int} {es : List EdgeV} (r : Rg N es) {x y z L M : Int} {ps : List Nat} (h : Way es x ps y L) (g : Way es x ps z M) : y = z ∧ L = M := by
  induction h generalizing M with
  | nil => cases g; exact ⟨rfl, rfl⟩
  | cons s _ ih =>
    cases g with
    | cons s2 g2 =>
      obtain ⟨rfl, rfl⟩ := s.same r s2
      obtain ⟨rfl, rfl⟩ := ih g2
      exact ⟨rfl, rfl⟩
theorem Way.low {N : Int} {es : List EdgeV} (r : Rg N es) {x y L : Int} {ps : List Nat} (h : Way es x ps y L) : (ps.length : Int) ≤ L ∧ L ≤ 100000 * ps.length := by
  induction h with
  | nil => simp
  | cons s _ ih => have := s.pos r; simp only [List.length_cons]; omega
theorem Way.inside {N : Int} {es : List EdgeV} (r : Rg N es) {x y L : Int} {ps : List Nat} (h : Way es x ps y L) (hx : 0 ≤ x ∧ x < N) : 0 ≤ y ∧ y < N := by
  induction h with
  | nil => exact hx
  | cons s _ ih => exact ih (s.ends r).2.1
/-- A way that goes over no node twice; ns are its nodes. -/
inductive Sway (es : List EdgeV) : Int → List Nat → Int → Int → List Int → Prop
  | nil (x : Int) : Sway es x [] x 0 [x]
  | cons {x y z l L : Int} {p : Nat} {ps : List Nat} {ns : List Int} : St es x p y l → Sway es y ps z L ns → x ∉ ns → Sway es x (p :: ps) z (l + L) (x :: ns)
theorem Sway.way {es : List EdgeV} {x y L : Int} {ps : List Nat} {ns : List Int} (h : Sway es x ps y L ns) : Way es x ps y L := by
  induction h with
  | nil x => exact .nil x
  | cons s _ _ ih => exact .cons s ih
theorem Sway.len {es : List EdgeV} {x y L : Int} {ps : List Nat} {ns : List Int} (h : Sway es x ps y L ns) : ns.length = ps.length + 1 := by
  induction h with
  | nil x => rfl
  | cons _ _ _ ih => simp [ih]
theorem Sway.nodup {es : List EdgeV} {x y L : Int} {ps : List Nat} {ns : List Int} (h : Sway es x ps y L ns) : ns.Nodup := by
  induction h with
  | nil x => simp
  | cons _ _ hn ih => exact List.nodup_cons.2 ⟨hn, ih⟩
theorem Sway.nodes {N : Int} {es : List EdgeV} (r : Rg N es) {x y L : Int} {ps : List Nat} {ns : List Int} (h : Sway es x ps y L ns) (hx : 0 ≤ x ∧ x < N) : ∀ n ∈ ns, 0 ≤ n ∧ n < N := by
  induction h with
  | nil x => intro n hn; simp at hn; subst hn; exact hx
  | cons s _ _ ih =>
    intro n hn
    rcases List.mem_cons.1 hn with rfl | hn
    · exact hx
    · exact ih (s.ends r).2.1 n hn
theorem Sway.tail {N : Int} {es : List EdgeV} (r : Rg N es) {x y L : Int} {ps : List Nat} {ns : List Int} (h : Sway es x ps y L ns) {v : Int} (hv : v ∈ ns) : ∃ qs M ms, Sway es v qs y M ms ∧ M ≤ L ∧ qs.length ≤ ps.length := by
  induction h with
  | nil x => simp at hv; subst hv; exact ⟨[], 0, _, .nil _, Int.le_refl _, Nat.le_refl _⟩
  | cons s g hn ih =>
    rcases List.mem_cons.1 hv with rfl | hv
    · exact ⟨_, _, _, .cons s g hn, Int.le_refl _, Nat.le_refl _⟩
    · obtain ⟨qs, M, ms, h1, h2, h3⟩ := ih hv
      have := s.pos r
      exact ⟨qs, M, ms, h1, by omega, by simp; omega⟩
theorem Way.simple {N : Int} {es : List EdgeV} (r : Rg N es) {x y L : Int} {ps : List Nat} (h : Way es x ps y L) : ∃ qs M ms, Sway es x qs y M ms ∧ M ≤ L ∧ qs.length ≤ ps.length := by
  induction h with
  | nil x => exact ⟨[], 0, _, .nil x, Int.le_refl _, Nat.le_refl _⟩
  | @cons x y z l L p ps s _ ih =>
    obtain ⟨qs, M, ms, h1, h2, h3⟩ := ih
    have := s.pos r
    by_cases hm : x ∈ ms
    · obtain ⟨qs', M', ms', g1, g2, g3⟩ := h1.tail r hm
      exact ⟨qs', M', ms', g1, by omega, by simp; omega⟩
    · exact ⟨p :: qs, l + M, x :: ms, .cons s h1 hm, by omega, by simp; omega⟩
theorem pigeon : ∀ (N : Nat) (l : List Int), l.Nodup → (∀ n ∈ l, 0 ≤ n ∧ n < (N : Int)) → l.length ≤ N
  | 0, l, _, h => by
    cases l with
    | nil => simp
    | cons a l => have := h a List.mem_cons_self; omega
  | N + 1, l, hn, h => by
    have h1 := pigeon N (l.erase (N : Int)) (hn.erase _) (fun n hm => by
      have h2 := h n (List.mem_of_mem_erase hm)
      have h3 : n ≠ (N : Int) := fun e => by subst e; exact absurd hm (by rw [hn.mem_erase_iff]; simp)
      omega)
    have h2 := List.length_erase (a := (N : Int)) (l := l)
    split at h2 <;> omega
/-- Every way has one that is no longer, of no more edges and of fewer edges than there are nodes. -/
theorem Way.short {N : Nat} {es : List EdgeV} (r : Rg N es) {x y L : Int} {ps : List Nat} (h : Way es x ps y L) (hx : 0 ≤ x ∧ x < (N : Int)) : ∃ qs M, Way es x qs y M ∧ M ≤ L ∧ qs.length ≤ ps.length ∧ qs.length + 1 ≤ N := by
  obtain ⟨qs, M, ms, h1, h2, h3⟩ := h.simple r
  have h4 := pigeon N ms h1.nodup (h1.nodes r hx)
  have h5 := h1.len
  exact ⟨qs, M, h1.way, h2, h3, by omega⟩
/-- (L, m) is no greater than (M, k): first the length, then the number of edges. -/
def Lex (L : Int) (m : Int) (M : Int) (k : Int) : Prop := L < M ∨ (L = M ∧ m ≤ k)
theorem Lex.refl (L m : Int) : Lex L m L m := .inr ⟨rfl, Int.le_refl _⟩
theorem Lex.trans {L m M k K q : Int} (h : Lex L m M k) (g : Lex M k K q) : Lex L m K q := by unfold Lex at *; omega
theorem Lex.of_le {L m M k : Int} (h : L ≤ M) (g : m ≤ k) : Lex L m M k := by unfold Lex; omega
theorem Lex.add {L m M k : Int} (h : Lex L m M k) (l : Int) : Lex (L + l) (m + 1) (M + l) (k + 1) := by unfold Lex at *; omega
theorem Lex.anti {L m M k : Int} (h : Lex L m M k) (g : Lex M k L m) : L = M ∧ m = k := by unfold Lex at *; omega
end Go.Proofs.Ytdjambejppanoaa
