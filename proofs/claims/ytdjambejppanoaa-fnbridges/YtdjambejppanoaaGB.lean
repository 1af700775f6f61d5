/- The model's least lengths: mathematics. -/
import Derived.Test.YtdjambejppanoaaGW
namespace Go.Proofs.Ytdjambejppanoaa
open Go.RowKit
/-- What a list of numbers holds at a node. -/
def lAt (zs : List Int) (x : Int) : Int := zs.getD x.toNat 0
theorem lAt_set {zs : List Int} {N : Nat} {x y v : Int} (hl : zs.length = N) (hx : 0 ≤ x ∧ x < (N : Int)) (hy : 0 ≤ y) : lAt (zs.set x.toNat v) y = if y = x then v else lAt zs y := by
  unfold lAt
  by_cases h : y = x
  · subst h; rw [if_pos rfl]
    have : y.toNat < zs.length := by omega
    simp [List.getD, this]
  · rw [if_neg h]
    have : x.toNat ≠ y.toNat := by omega
    simp [List.getD, this]
/-- One edge from a to b tried: is a nearer over b? -/
def rel1 (ls cs : List Int) (a b l : Int) : Bool := decide (0 ≤ lAt ls b) && (decide (lAt ls a < 0) || (decide (lAt ls b + l < lAt ls a) || (decide (lAt ls b + l = lAt ls a) && decide (lAt cs b + 1 < lAt cs a))))
def relL (ls cs : List Int) (a b l : Int) : List Int × List Int := if rel1 ls cs a b l = true then (ls.set a.toNat (lAt ls b + l), cs.set a.toNat (lAt cs b + 1)) else (ls, cs)
/-- A way is not below what stands at its beginning. -/
def Nr (ls cs : List Int) (x L m : Int) : Prop := 0 ≤ lAt ls x ∧ Lex (lAt ls x) (lAt cs x) L m
/-- What stands behind r rounds, S steps of the next round, and T steps in all. -/
structure BFI (N : Nat) (es : List EdgeV) (to : Int) (r S T : Nat) (ls cs : List Int) : Prop where
  len : ls.length = N
  len2 : cs.length = N
  sound : ∀ x, 0 ≤ x ∧ x < (N : Int) → 0 ≤ lAt ls x → ∃ ps, Way es x ps to (lAt ls x) ∧ (ps.length : Int) = lAt cs x
  bound : ∀ x, 0 ≤ x ∧ x < (N : Int) → -1 ≤ lAt ls x ∧ lAt ls x ≤ 100000 * T ∧ 0 ≤ lAt cs x ∧ lAt cs x ≤ T
  done : ∀ x ps L, 0 ≤ x ∧ x < (N : Int) → Way es x ps to L → ps.length ≤ r → Nr ls cs x L ps.length
  cur : ∀ x p ps y l L, St es x p y l → Way es y ps to L → ps.length ≤ r → (2 * p + 1 < S ∨ (2 * p < S ∧ (es.getD p EdgeV.zero).a = x)) → Nr ls cs x (l + L) (ps.length + 1)
theorem BFI.new {N : Nat} {es : List EdgeV} {to : Int} (ht : 0 ≤ to ∧ to < (N : Int)) : BFI N es to 0 0 0 ((List.replicate N (-1)).set to.toNat 0) (List.replicate N 0) := by
  have hc : ∀ x, lAt (List.replicate N 0) x = 0 := fun x => by
    unfold lAt; by_cases h : x.toNat < N <;> simp [List.getD, h]
  have hs : ∀ x, 0 ≤ x ∧ x < (N : Int) → lAt ((List.replicate N (-1)).set to.toNat 0) x = if x = to then 0 else -1 := fun x hx => by
    rw [lAt_set (by simp) ht hx.1]
    split
    · rfl
    · unfold lAt; have : x.toNat < N := by omega
      simp [List.getD, this]
  refine ⟨by simp, by simp, fun x hx h => ?_, fun x hx => ?_, fun x ps L hx h h0 => ?_, fun x p ps y l L s h _ hS => by omega⟩
  · rw [hs x hx] at h ⊢
    rw [hc]
    split at h
    · subst_vars; rw [if_pos rfl]; exact ⟨[], .nil _, rfl⟩
    · omega
  · rw [hs x hx, hc]; split <;> omega
  · cases h with
    | nil => unfold Nr; rw [hs _ hx, if_pos rfl, hc]; exact ⟨Int.le_refl _, Lex.refl _ _⟩
    | cons _ _ => simp at h0
theorem Nr.mono {ls cs ls' cs' : List Int} {x L m : Int} (h : Nr ls cs x L m) (g : 0 ≤ lAt ls x → Nr ls' cs' x (lAt ls x) (lAt cs x)) : Nr ls' cs' x L m :=
  ⟨(g h.1).1, (g h.1).2.trans h.2⟩
/-- What one step makes. -/
theorem rel_at {N : Nat} {ls cs : List Int} {a b l : Int} (hl : ls.length = N) (hc : cs.length = N) (ha : 0 ≤ a ∧ a < (N : Int)) : ∀ x, 0 ≤ x →
    lAt (relL ls cs a b l).1 x = (if rel1 ls cs a b l = true ∧ x = a then lAt ls b + l else lAt ls x) ∧ lAt (relL ls cs a b l).2 x = (if rel1 ls cs a b l = true ∧ x = a then lAt cs b + 1 else lAt cs x) := by
  intro x hx
  unfold relL
  split
  · rename_i h
    simp only [lAt_set hl ha hx, lAt_set hc ha hx, h, true_and]
  · rename_i h
    rw [if_neg (fun g => h g.1), if_neg (fun g => h g.1)]; exact ⟨rfl, rfl⟩
theorem BFI.step {N : Nat} {es : List EdgeV} {to : Int} {r S T p : Nat} {ls cs : List Int} {a b l : Int} (R : Rg N es) (h : BFI N es to r S T ls cs) (s : St es a p b l) (hS : (S = 2 * p ∧ (es.getD p EdgeV.zero).a = a) ∨ S = 2 * p + 1 ∧ (es.getD p EdgeV.zero).b = a) :
    BFI N es to r (S + 1) (T + 1) (relL ls cs a b l).1 (relL ls cs a b l).2 := by
  obtain ⟨ha, hb, hab⟩ := s.ends R
  have hp := s.pos R
  have A := rel_at h.len h.len2 ha (b := b) (l := l)
  have hB := h.bound b hb
  have hA := h.bound a ha
  have mono : ∀ x, 0 ≤ x ∧ x < (N : Int) → 0 ≤ lAt ls x → Nr (relL ls cs a b l).1 (relL ls cs a b l).2 x (lAt ls x) (lAt cs x) := fun x hx h0 => by
    unfold Nr
    rw [(A x hx.1).1, (A x hx.1).2]
    split
    · rename_i g
      obtain ⟨g, rfl⟩ := g
      simp only [rel1, Bool.and_eq_true, Bool.or_eq_true, decide_eq_true_eq] at g
      refine ⟨by omega, ?_⟩
      unfold Lex; omega
    · exact ⟨h0, Lex.refl _ _⟩
  have near : 0 ≤ lAt ls b → Nr (relL ls cs a b l).1 (relL ls cs a b l).2 a (lAt ls b + l) (lAt cs b + 1) := fun h0 => by
    unfold Nr
    rw [(A a ha.1).1, (A a ha.1).2]
    split
    · exact ⟨by omega, Lex.refl _ _⟩
    · rename_i g
      have g : ¬ (rel1 ls cs a b l = true) := fun g2 => g ⟨g2, rfl⟩
      simp only [rel1, Bool.and_eq_true, Bool.or_eq_true, decide_eq_true_eq] at g
      refine ⟨by omega, ?_⟩
      unfold Lex; omega
  have hlen : (relL ls cs a b l).1.length = N ∧ (relL ls cs a b l).2.length = N := by
    unfold relL; split <;> simp [h.len, h.len2]
  refine ⟨hlen.1, hlen.2, fun x hx h0 => ?_, fun x hx => ?_, fun x ps L hx hw hl => (h.done x ps L hx hw hl).mono (mono x hx), fun x q ps y m L s2 hw hl hq => ?_⟩
  · rw [(A x hx.1).1] at h0 ⊢
    rw [(A x hx.1).2]
    split at h0
    · rename_i g
      rw [if_pos g, if_pos g]
      obtain ⟨g, rfl⟩ := g
      simp only [rel1, Bool.and_eq_true, Bool.or_eq_true, decide_eq_true_eq] at g
      obtain ⟨ps, h1, h2⟩ := h.sound b hb g.1
      exact ⟨p :: ps, by rw [Int.add_comm]; exact .cons s h1, by simp; omega⟩
    · rename_i g
      rw [if_neg g, if_neg g]
      exact h.sound x hx h0
  · rw [(A x hx.1).1, (A x hx.1).2]
    have := h.bound x hx
    split
    · rename_i g
      obtain ⟨g, rfl⟩ := g
      simp only [rel1, Bool.and_eq_true, Bool.or_eq_true, decide_eq_true_eq] at g
      omega
    · omega
  · have hx := (s2.ends R).1
    by_cases hold : 2 * q + 1 < S ∨ (2 * q < S ∧ (es.getD q EdgeV.zero).a = x)
    · exact (h.cur x q ps y m L s2 hw hl hold).mono (mono x hx)
    · have e : q = p ∧ x = a := by
        obtain ⟨hq1, hx2, -⟩ := s2
        have e0 : es.getD q EdgeV.zero = es[q] := by simp [List.getD, hq1]
        have h3 := (R.nd q hq1).2.2.1
        rw [e0] at hold hq
        rcases hS with ⟨h1, h2⟩ | ⟨h1, h2⟩
        · have : q = p := by
            rcases hq with g | ⟨g, -⟩ <;> omega
          subst this
          rw [e0] at h2
          refine ⟨rfl, ?_⟩
          rcases hq with g | ⟨g, g2⟩
          · omega
          · exact g2.symm.trans h2
        · have : q = p := by
            rcases hq with g | ⟨g, g2⟩
            · omega
            · by_cases e : q = p
              · exact e
              · exact absurd (.inr ⟨by omega, g2⟩) hold
          subst this
          rw [e0] at h2
          refine ⟨rfl, ?_⟩
          have : ¬ es[q].a = x := fun g => hold (.inr ⟨by omega, g⟩)
          rcases hx2 with ⟨g, -⟩ | ⟨g, -⟩
          · exact absurd g this
          · exact g.symm.trans h2
      obtain ⟨rfl, rfl⟩ := e
      obtain ⟨rfl, rfl⟩ := s.same R s2
      have hd := h.done b ps L hb hw hl
      have h2 := near hd.1
      refine ⟨h2.1, h2.2.trans ?_⟩
      have := hd.2.add l
      rw [Int.add_comm L l] at this
      exact this
theorem BFI.round {N : Nat} {es : List EdgeV} {to : Int} {r T : Nat} {ls cs : List Int} (h : BFI N es to r (2 * es.length) T ls cs) : BFI N es to (r + 1) 0 T ls cs :=
  ⟨h.len, h.len2, h.sound, h.bound, fun x ps L hx hw hl => by
    cases hw with
    | nil => exact h.done _ [] 0 hx (.nil _) (Nat.zero_le _)
    | @cons x y z l L p ps s g =>
      have := h.cur x p ps y l L s g (by simpa using hl) (.inl (by have := s.1; omega))
      simpa using this, fun x p ps y l L s hw hl hq => by omega⟩
/-- What stands at the end: the least lengths to a node, and of these the fewest edges. -/
structure Bst (N : Nat) (es : List EdgeV) (to : Int) (ls cs : List Int) : Prop where
  len : ls.length = N
  len2 : cs.length = N
  sound : ∀ x, 0 ≤ x ∧ x < (N : Int) → 0 ≤ lAt ls x → ∃ ps, Way es x ps to (lAt ls x) ∧ (ps.length : Int) = lAt cs x
  least : ∀ x ps L, 0 ≤ x ∧ x < (N : Int) → Way es x ps to L → Nr ls cs x L ps.length
  low : ∀ x, 0 ≤ x ∧ x < (N : Int) → -1 ≤ lAt ls x
theorem BFI.best {N : Nat} {es : List EdgeV} {to : Int} {T : Nat} {ls cs : List Int} (R : Rg N es) (h : BFI N es to N 0 T ls cs) : Bst N es to ls cs :=
  ⟨h.len, h.len2, h.sound, fun x ps L hx hw => by
    obtain ⟨qs, M, h1, h2, h3, h4⟩ := hw.short R hx
    have := h.done x qs M hx h1 (by omega)
    exact ⟨this.1, this.2.trans (Lex.of_le h2 (by omega))⟩, fun x hx => (h.bound x hx).1⟩
theorem Bst.reach {N : Nat} {es : List EdgeV} {to : Int} {ls cs : List Int} (h : Bst N es to ls cs) {x : Int} (hx : 0 ≤ x ∧ x < (N : Int)) : 0 ≤ lAt ls x ↔ ∃ ps L, Way es x ps to L :=
  ⟨fun h0 => let ⟨ps, h1, _⟩ := h.sound x hx h0; ⟨ps, _, h1⟩, fun ⟨ps, L, hw⟩ => (h.least x ps L hx hw).1⟩
theorem Bst.small {N : Nat} {es : List EdgeV} {to : Int} {ls cs : List Int} (R : Rg N es) (h : Bst N es to ls cs) {x : Int} (hx : 0 ≤ x ∧ x < (N : Int)) (h0 : 0 ≤ lAt ls x) : lAt cs x < N ∧ 0 ≤ lAt cs x ∧ lAt ls x ≤ 100000 * N := by
  obtain ⟨ps, h1, h2⟩ := h.sound x hx h0
  obtain ⟨qs, M, g1, g2, g3, g4⟩ := h1.short R hx
  have g5 := (h.least x qs M hx g1).2
  have g6 := g1.low R
  have g7 := h1.low R
  unfold Lex at g5
  have : (100000 : Int) * qs.length ≤ 100000 * N := Int.mul_le_mul_of_nonneg_left (by omega) (by omega)
  omega
end Go.Proofs.Ytdjambejppanoaa
