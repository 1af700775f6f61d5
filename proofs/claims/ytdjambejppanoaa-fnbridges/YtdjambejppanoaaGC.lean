/- The best way: least length, then fewest edges, then the least list; the model's choice of it: mathematics. -/
import Derived.Test.YtdjambejppanoaaGB
namespace Go.Proofs.Ytdjambejppanoaa
open Go.RowKit
/-- Of two lists the first is no greater. -/
def LL : List Nat → List Nat → Prop
  | [], _ => True
  | _ :: _, [] => False
  | p :: ps, q :: qs => p < q ∨ (p = q ∧ LL ps qs)
theorem LL.refl : ∀ ps, LL ps ps
  | [] => trivial
  | _ :: ps => .inr ⟨rfl, LL.refl ps⟩
theorem LL.trans : ∀ {ps qs rs}, LL ps qs → LL qs rs → LL ps rs
  | [], _, _, _, _ => trivial
  | _ :: _, [], _, h, _ => h.elim
  | _ :: _, _ :: _, [], _, g => g.elim
  | p :: ps, q :: qs, r :: rs, h, g => by
    rcases h with h | ⟨rfl, h⟩ <;> rcases g with g | ⟨rfl, g⟩
    · exact .inl (by omega)
    · exact .inl h
    · exact .inl g
    · exact .inr ⟨rfl, h.trans g⟩
theorem LL.anti : ∀ {ps qs}, LL ps qs → LL qs ps → ps = qs
  | [], [], _, _ => rfl
  | [], _ :: _, _, g => g.elim
  | _ :: _, [], h, _ => h.elim
  | p :: ps, q :: qs, h, g => by
    rcases h with h | ⟨rfl, h⟩ <;> rcases g with g | ⟨g0, g⟩
    · omega
    · omega
    · omega
    · rw [h.anti g]
theorem LL.total : ∀ ps qs, LL ps qs ∨ LL qs ps
  | [], _ => .inl trivial
  | _ :: _, [] => .inr trivial
  | p :: ps, q :: qs => by
    by_cases h : p < q
    · exact .inl (.inl h)
    · by_cases g : q < p
      · exact .inr (.inl g)
      · obtain rfl : p = q := by omega
        exact (LL.total ps qs).elim (fun h => .inl (.inr ⟨rfl, h⟩)) (fun h => .inr (.inr ⟨rfl, h⟩))
theorem LL.app : ∀ {ps qs}, ps.length = qs.length → LL ps qs → ∀ rs, LL (ps ++ rs) (qs ++ rs)
  | [], [], _, _, rs => LL.refl rs
  | [], _ :: _, h, _, _ => by simp at h
  | _ :: _, [], h, _, _ => by simp at h
  | p :: ps, q :: qs, hl, h, rs => by
    rcases h with h | ⟨rfl, h⟩
    · exact .inl h
    · exact .inr ⟨rfl, h.app (by simpa using hl) rs⟩
/-- The order of ways: length, number of edges, list. -/
def Kle (L : Int) (ps : List Nat) (M : Int) (qs : List Nat) : Prop := L < M ∨ (L = M ∧ (ps.length < qs.length ∨ (ps.length = qs.length ∧ LL ps qs)))
theorem Kle.refl (L : Int) (ps : List Nat) : Kle L ps L ps := .inr ⟨rfl, .inr ⟨rfl, LL.refl ps⟩⟩
theorem Kle.trans {L M K : Int} {ps qs rs : List Nat} (h : Kle L ps M qs) (g : Kle M qs K rs) : Kle L ps K rs := by
  rcases h with h | ⟨rfl, h⟩
  · exact .inl (by rcases g with g | ⟨rfl, g⟩ <;> omega)
  · rcases g with g | ⟨rfl, g⟩
    · exact .inl g
    · refine .inr ⟨rfl, ?_⟩
      rcases h with h | ⟨h1, h⟩ <;> rcases g with g | ⟨g1, g⟩
      · exact .inl (by omega)
      · exact .inl (by omega)
      · exact .inl (by omega)
      · exact .inr ⟨by omega, h.trans g⟩
theorem Kle.anti {L M : Int} {ps qs : List Nat} (h : Kle L ps M qs) (g : Kle M qs L ps) : L = M ∧ ps = qs := by
  rcases h with h | ⟨rfl, h⟩
  · rcases g with g | ⟨rfl, g⟩ <;> omega
  · rcases g with g | ⟨-, g⟩
    · omega
    · rcases h with h | ⟨h1, h⟩ <;> rcases g with g | ⟨g1, g⟩
      · omega
      · omega
      · omega
      · exact ⟨rfl, h.anti g⟩
theorem Kle.total (L : Int) (ps : List Nat) (M : Int) (qs : List Nat) : Kle L ps M qs ∨ Kle M qs L ps := by
  by_cases h : L < M
  · exact .inl (.inl h)
  · by_cases g : M < L
    · exact .inr (.inl g)
    · obtain rfl : L = M := by omega
      by_cases h : ps.length < qs.length
      · exact .inl (.inr ⟨rfl, .inl h⟩)
      · by_cases g : qs.length < ps.length
        · exact .inr (.inr ⟨rfl, .inl g⟩)
        · exact (LL.total ps qs).elim (fun e => .inl (.inr ⟨rfl, .inr ⟨by omega, e⟩⟩)) (fun e => .inr (.inr ⟨rfl, .inr ⟨by omega, e⟩⟩))
theorem Kle.snoc {L M : Int} {ps qs : List Nat} (h : Kle L ps M qs) (l : Int) (p : Nat) : Kle (L + l) (ps ++ [p]) (M + l) (qs ++ [p]) := by
  rcases h with h | ⟨rfl, h⟩
  · exact .inl (by omega)
  · refine .inr ⟨rfl, ?_⟩
    rcases h with h | ⟨h1, h⟩
    · exact .inl (by simp; omega)
    · exact .inr ⟨by simp [h1], h.app h1 _⟩
theorem Kle.more {L K : Int} {ps rs : List Nat} (h : (rs.length : Int) ≤ K) : Kle L ps (L + K) (ps ++ rs) := by
  cases rs with
  | nil => 
    simp at h
    by_cases h0 : K = 0
    · subst h0; rw [List.append_nil, Int.add_zero]; exact Kle.refl _ _
    · exact .inl (by omega)
  | cons r rs => exact .inl (by simp at h; omega)
/-- The best way from x to z. -/
def Best (es : List EdgeV) (x z : Int) (ps : List Nat) (L : Int) : Prop := Way es x ps z L ∧ ∀ qs M, Way es x qs z M → Kle L ps M qs
theorem Best.one {es : List EdgeV} {x z L M : Int} {ps qs : List Nat} (h : Best es x z ps L) (g : Best es x z qs M) : L = M ∧ ps = qs := (h.2 _ _ g.1).anti (g.2 _ _ h.1)
def otherF (e : EdgeV) (x : Int) : Int := if e.a = x then e.b else if e.b = x then e.a else -1
theorem other_st {N : Int} {es : List EdgeV} (R : Rg N es) {x y l : Int} {p : Nat} (h : St es x p y l) : otherF (es.getD p EdgeV.zero) x = y ∧ (es.getD p EdgeV.zero).l = l ∧ p < es.length := by
  obtain ⟨hp, hx, rfl⟩ := h
  have e0 : es.getD p EdgeV.zero = es[p] := by simp [List.getD, hp]
  have h3 := (R.nd p hp).2.2.1
  rw [e0]
  refine ⟨?_, rfl, hp⟩
  unfold otherF
  rcases hx with ⟨g, g2⟩ | ⟨g, g2⟩
  · rw [if_pos g]; exact g2
  · rw [if_neg (fun e => h3 (e.trans g.symm)), if_pos g]; exact g2
theorem st_other {es : List EdgeV} {x : Int} {p : Nat} (hp : p < es.length) (h : 0 ≤ otherF (es.getD p EdgeV.zero) x) : St es x p (otherF (es.getD p EdgeV.zero) x) (es.getD p EdgeV.zero).l := by
  have e0 : es.getD p EdgeV.zero = es[p] := by simp [List.getD, hp]
  rw [e0] at h ⊢
  refine ⟨hp, ?_, rfl⟩
  unfold otherF at h ⊢
  by_cases g : es[p].a = x
  · rw [if_pos g]; exact .inl ⟨g, rfl⟩
  · rw [if_neg g] at h ⊢
    by_cases g2 : es[p].b = x
    · rw [if_pos g2]; exact .inr ⟨g2, rfl⟩
    · rw [if_neg g2] at h; omega
/-- Does the model go on from x over the edge at place i? -/
def nextB (es : List EdgeV) (ls cs : List Int) (x : Int) (i : Nat) : Bool :=
  decide (0 ≤ otherF (es.getD i EdgeV.zero) x) && (decide (0 ≤ lAt ls (otherF (es.getD i EdgeV.zero) x)) && (decide (lAt ls (otherF (es.getD i EdgeV.zero) x) + (es.getD i EdgeV.zero).l = lAt ls x) && decide (lAt cs (otherF (es.getD i EdgeV.zero) x) + 1 = lAt cs x)))
/-- The first place that does. -/
def nextP (es : List EdgeV) (ls cs : List Int) (x : Int) : Option Nat := (List.range es.length).find? (nextB es ls cs x)
def chooseW (es : List EdgeV) (ls cs : List Int) (to : Int) : Nat → Int → List Nat
  | 0, _ => []
  | f + 1, x => if x = to then [] else match nextP es ls cs x with
    | none => []
    | some i => i :: chooseW es ls cs to f (otherF (es.getD i EdgeV.zero) x)
theorem next_first {es : List EdgeV} {ls cs : List Int} {x : Int} {i : Nat} (hi : i < es.length) (h : nextB es ls cs x i = true) (hn : ∀ j, j < i → nextB es ls cs x j = false) : nextP es ls cs x = some i := by
  unfold nextP
  rw [List.find?_range_eq_some]
  exact ⟨h, List.mem_range.2 hi, fun j hj => by rw [hn j hj]; rfl⟩
theorem next_is {es : List EdgeV} {ls cs : List Int} {x : Int} {i : Nat} (h : nextP es ls cs x = some i) : i < es.length ∧ nextB es ls cs x i = true ∧ ∀ j, j < i → nextB es ls cs x j = false := by
  unfold nextP at h
  rw [List.find?_range_eq_some] at h
  exact ⟨List.mem_range.1 h.2.1, h.1, fun j hj => by have := h.2.2 j hj; simpa using this⟩
theorem nextB_true {es : List EdgeV} {ls cs : List Int} {x : Int} {i : Nat} (hi : i < es.length) (h : nextB es ls cs x i = true) : ∃ y l, y = otherF (es.getD i EdgeV.zero) x ∧ St es x i y l ∧ 0 ≤ lAt ls y ∧ lAt ls y + l = lAt ls x ∧ lAt cs y + 1 = lAt cs x := by
  simp only [nextB, Bool.and_eq_true, decide_eq_true_eq] at h
  exact ⟨_, _, rfl, st_other hi h.1, h.2⟩
/-- An edge on a best way is one that the model may take. -/
theorem Bst.onway {N : Nat} {es : List EdgeV} {to : Int} {ls cs : List Int} (R : Rg N es) (h : Bst N es to ls cs) {x y l L : Int} {p : Nat} {ps : List Nat} (s : St es x p y l) (hw : Way es y ps to L) (h1 : l + L = lAt ls x) (h2 : (ps.length : Int) + 1 = lAt cs x) :
    nextB es ls cs x p = true ∧ L = lAt ls y ∧ (ps.length : Int) = lAt cs y ∧ 0 ≤ lAt ls y := by
  obtain ⟨hx, hy, -⟩ := s.ends R
  obtain ⟨e1, e2, e3⟩ := other_st R s
  have g1 := h.least y ps L hy hw
  obtain ⟨qs, q1, q2⟩ := h.sound y hy g1.1
  have g2 := (h.least x (p :: qs) _ hx (.cons s q1)).2
  have g3 := g1.2
  have g0 := g1.1
  unfold Lex at g2 g3
  simp only [List.length_cons] at g2
  have e : L = lAt ls y ∧ (ps.length : Int) = lAt cs y := by omega
  refine ⟨?_, e.1, e.2, g0⟩
  simp only [nextB, Bool.and_eq_true, decide_eq_true_eq, e1, e2]
  omega
theorem Bst.next {N : Nat} {es : List EdgeV} {to : Int} {ls cs : List Int} (R : Rg N es) (h : Bst N es to ls cs) {x : Int} (hx : 0 ≤ x ∧ x < (N : Int)) (h0 : 0 ≤ lAt ls x) (hne : x ≠ to) : ∃ i, nextP es ls cs x = some i := by
  obtain ⟨ps, h1, h2⟩ := h.sound x hx h0
  generalize hL : lAt ls x = L at h1
  cases h1 with
  | nil => exact absurd rfl hne
  | @cons _ y _ l L p ps s g =>
    have := (h.onway R s g hL.symm (by simpa using h2)).1
    cases e : nextP es ls cs x with
    | some i => exact ⟨i, rfl⟩
    | none =>
      unfold nextP at e
      rw [List.find?_range_eq_none] at e
      have := e p s.1
      simp_all
/-- What the model chooses is the best way. -/
theorem Bst.choose {N : Nat} {es : List EdgeV} {to : Int} {ls cs : List Int} (R : Rg N es) (h : Bst N es to ls cs) (ht : 0 ≤ to ∧ to < (N : Int)) : ∀ (f : Nat) (x : Int), 0 ≤ x ∧ x < (N : Int) → 0 ≤ lAt ls x → lAt cs x ≤ (f : Int) →
    Best es x to (chooseW es ls cs to f x) (lAt ls x) ∧ ((chooseW es ls cs to f x).length : Int) = lAt cs x := by
  have zero : lAt ls to = 0 ∧ lAt cs to = 0 := by
    have h1 := (h.least to [] 0 ht (.nil to))
    obtain ⟨ps, q1, q2⟩ := h.sound to ht h1.1
    have h2 := h1.2
    have h3 := h1.1
    unfold Lex at h2
    simp at h2
    omega
  have bestTo : Best es to to [] (lAt ls to) := by
    rw [zero.1]
    refine ⟨.nil to, fun qs M g => ?_⟩
    have := g.low R
    have k := Kle.more (L := 0) (ps := []) this.1
    simpa using k
  intro f
  induction f with
  | zero =>
    intro x hx h0 hf
    obtain ⟨ps, h1, h2⟩ := h.sound x hx h0
    have : ps = [] := List.length_eq_zero_iff.1 (by omega)
    subst this
    generalize hL : lAt ls x = L at h1
    cases h1 with
    | nil => rw [← hL]; exact ⟨bestTo, by simp [chooseW, zero.2]⟩
  | succ f ih =>
    intro x hx h0 hf
    unfold chooseW
    by_cases hxt : x = to
    · subst hxt
      rw [if_pos rfl]
      exact ⟨bestTo, by simp [zero.2]⟩
    · rw [if_neg hxt]
      obtain ⟨i, hi⟩ := h.next R hx h0 hxt
      obtain ⟨i1, i2, i3⟩ := next_is hi
      obtain ⟨y, l, hy, s, y0, y1, y2⟩ := nextB_true i1 i2
      rw [hi]
      dsimp only
      rw [← hy]
      have hyr := (s.ends R).2.1
      obtain ⟨b1, b2⟩ := ih y hyr y0 (by omega)
      refine ⟨⟨by rw [show lAt ls x = l + lAt ls y by omega]; exact .cons s b1.1, fun qs M g => ?_⟩, by simp; omega⟩
      have k := (h.least x qs M hx g).2
      unfold Lex at k
      rcases k with k | ⟨k1, k2⟩
      · exact .inl k
      refine .inr ⟨k1, ?_⟩
      by_cases hlt : (i :: chooseW es ls cs to f y).length < qs.length
      · exact .inl hlt
      have hle : (i :: chooseW es ls cs to f y).length = qs.length := by simp at hlt ⊢; omega
      refine .inr ⟨hle, ?_⟩
      cases g with
      | nil => exact absurd rfl hxt
      | @cons _ z _ m M q qs s2 g2 =>
        have hq : ((qs.length : Nat) : Int) + 1 = lAt cs x := by simp at hle; omega
        obtain ⟨n1, n2, n3, n4⟩ := h.onway R s2 g2 k1.symm hq
        by_cases hiq : i < q
        · exact .inl hiq
        · have : i = q := by
            by_cases hqi : q < i
            · rw [i3 q hqi] at n1; cases n1
            · omega
          subst this
          obtain ⟨rfl, rfl⟩ := s.same R s2
          have := b1.2 qs M g2
          rcases this with t | ⟨t1, t⟩
          · omega
          rcases t with t | ⟨_, t⟩
          · omega
          · exact .inr ⟨rfl, t⟩
end Go.Proofs.Ytdjambejppanoaa
