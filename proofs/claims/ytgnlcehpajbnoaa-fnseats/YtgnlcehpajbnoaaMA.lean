/- The mathematics of seats: right trains, who holds what, free seats, holes, what is booked and given back, spreads, sales. -/
import Derived.Test.YtgnlcehpajbnoaaS
import Derived.Test.YtgnlcehpajbnoaaSL
namespace Go.Proofs.Ytgnlcehpajbnoaa
open Go.RowKit

/-- Somebody holds seat s on piece p. -/
def heldB (hs : List BkV) (s p : Int) : Bool := hs.any fun b => decide (b.s = s ∧ b.n ≤ p ∧ p < b.f)
theorem heldB_app (xs ys : List BkV) (s p : Int) : heldB (xs ++ ys) s p = (heldB xs s p || heldB ys s p) := by simp [heldB]
theorem heldB_iff {hs : List BkV} {s p : Int} : heldB hs s p = true ↔ ∃ b ∈ hs, b.s = s ∧ b.n ≤ p ∧ p < b.f := by simp [heldB]
theorem heldB_no {hs : List BkV} {s p : Int} : heldB hs s p = false ↔ ∀ b ∈ hs, ¬ (b.s = s ∧ b.n ≤ p ∧ p < b.f) := by
  rw [← Bool.not_eq_true, heldB_iff]
  constructor
  · intro h b hb hc; exact h ⟨b, hb, hc⟩
  · rintro h ⟨b, hb, hc⟩; exact h b hb hc
/-- Nobody holds seat s on any of the pieces on .. off - 1. -/
def freeB (hs : List BkV) (s on off : Int) : Bool := (List.range (off - on).toNat).all fun j => !heldB hs s (on + (j : Int))
theorem freeB_iff {hs : List BkV} {s on off : Int} : freeB hs s on off = true ↔ ∀ p, on ≤ p → p < off → heldB hs s p = false := by
  simp only [freeB, List.all_eq_true, List.mem_range, Bool.not_eq_true']
  constructor
  · intro h p h1 h2
    have := h (p - on).toNat (by omega)
    rwa [show on + ((p - on).toNat : Int) = p by omega] at this
  · intro h j hj; exact h _ (by omega) (by omega)
theorem freeB_no {hs : List BkV} {s on off : Int} : freeB hs s on off = false ↔ ∃ p, on ≤ p ∧ p < off ∧ heldB hs s p = true := by
  rw [← Bool.not_eq_true, freeB_iff]
  constructor
  · intro h
    apply Classical.byContradiction
    intro hn
    apply h
    intro p h1 h2
    cases hp : heldB hs s p
    · rfl
    · exact absurd ⟨p, h1, h2, hp⟩ hn
  · rintro ⟨p, h1, h2, hp⟩ h
    rw [h p h1 h2] at hp; cases hp
/-- A right booking of a train with S seats and P pieces. -/
def bkB (S P : Int) (b : BkV) : Bool := decide (0 < b.i ∧ 0 ≤ b.s ∧ b.s ≤ S - 1 ∧ 0 ≤ b.n ∧ b.n < b.f ∧ b.f ≤ P)
theorem bkB_iff {S P : Int} {b : BkV} : bkB S P b = true ↔ 0 < b.i ∧ 0 ≤ b.s ∧ b.s ≤ S - 1 ∧ 0 ≤ b.n ∧ b.n < b.f ∧ b.f ≤ P := by simp [bkB]
def lastI (l : List BkV) : Int := l.foldl (fun _ b => b.i) 0
theorem lastI_app (l : List BkV) (b : BkV) : lastI (l ++ [b]) = b.i := by simp [lastI]
/-- A booking that may come behind others. -/
def nextB (S P : Int) (l : List BkV) (b : BkV) : Bool := bkB S P b && decide (lastI l < b.i) && freeB l b.s b.n b.f
/-- Right bookings. -/
structure Rt (S P : Int) (hs : List BkV) : Prop where
  ok : ∀ b ∈ hs, bkB S P b = true
  asc : hs.Pairwise fun a b => a.i < b.i
  far : hs.Pairwise fun a b => ¬ (a.s = b.s ∧ a.n < b.f ∧ b.n < a.f)
theorem Rt.nil (S P : Int) : Rt S P [] := ⟨by simp, List.Pairwise.nil, List.Pairwise.nil⟩
theorem Rt.sub {S P : Int} {hs xs : List BkV} (h : Rt S P hs) (g : xs.Sublist hs) : Rt S P xs := ⟨fun b hb => h.ok b (g.subset hb), h.asc.sublist g, h.far.sublist g⟩
theorem Rt.last {S P : Int} {hs : List BkV} (h : Rt S P hs) : ∀ b ∈ hs, b.i ≤ lastI hs := by
  intro b hb
  rcases List.eq_nil_or_concat hs with rfl | ⟨l, c, rfl⟩
  · simp at hb
  · rw [List.concat_eq_append] at *
    rw [lastI_app]
    rcases List.mem_append.1 hb with hb | hb
    · have := List.pairwise_append.1 h.asc
      exact Int.le_of_lt (this.2.2 b hb c (by simp))
    · simp at hb; rw [hb]; exact Int.le_refl _
theorem over_iff {S P : Int} {l : List BkV} {b : BkV} (hl : ∀ a ∈ l, bkB S P a = true) (hb : b.n < b.f) : freeB l b.s b.n b.f = true ↔ ∀ a ∈ l, ¬ (a.s = b.s ∧ a.n < b.f ∧ b.n < a.f) := by
  rw [freeB_iff]
  constructor
  · rintro h a ha ⟨h1, h2, h3⟩
    have ho := bkB_iff.1 (hl a ha)
    by_cases hc : a.n ≤ b.n
    · exact heldB_no.1 (h b.n (Int.le_refl _) hb) a ha ⟨h1, hc, h3⟩
    · exact heldB_no.1 (h a.n (by omega) h2) a ha ⟨h1, Int.le_refl _, by omega⟩
  · intro h p h1 h2
    refine heldB_no.2 fun a ha hc => h a ha ⟨hc.1, by omega, by omega⟩
theorem Rt.snoc {S P : Int} {l : List BkV} {b : BkV} (h : Rt S P l) (g : nextB S P l b = true) : Rt S P (l ++ [b]) := by
  simp only [nextB, Bool.and_eq_true, decide_eq_true_eq] at g
  obtain ⟨⟨g1, g2⟩, g3⟩ := g
  have g4 := (over_iff h.ok (bkB_iff.1 g1).2.2.2.2.1).1 g3
  refine ⟨fun x hx => ?_, List.pairwise_append.2 ⟨h.asc, by simp, fun a ha c hc => ?_⟩, List.pairwise_append.2 ⟨h.far, by simp, fun a ha c hc => ?_⟩⟩
  · rcases List.mem_append.1 hx with hx | hx
    · exact h.ok x hx
    · simp at hx; rw [hx]; exact g1
  · simp at hc; subst hc; have := h.last a ha; omega
  · simp at hc; subst hc; exact g4 a ha
theorem Rt.unsnoc {S P : Int} {l : List BkV} {b : BkV} (h : Rt S P (l ++ [b])) : Rt S P l ∧ nextB S P l b = true := by
  have hl : Rt S P l := h.sub (List.sublist_append_left _ _)
  have hb : bkB S P b = true := h.ok b (by simp)
  refine ⟨hl, ?_⟩
  have h1 := (List.pairwise_append.1 h.asc).2.2
  have h2 := (List.pairwise_append.1 h.far).2.2
  simp only [nextB, Bool.and_eq_true, decide_eq_true_eq]
  refine ⟨⟨hb, ?_⟩, (over_iff hl.ok (bkB_iff.1 hb).2.2.2.2.1).2 fun a ha => h2 a ha b (by simp)⟩
  rcases List.eq_nil_or_concat l with rfl | ⟨l', c, rfl⟩
  · have := bkB_iff.1 hb; simpa [lastI] using this.1
  · rw [List.concat_eq_append, lastI_app]; exact h1 c (by simp) b (by simp)
/-- Right bookings, told by place. -/
def rtB (S P : Int) (hs : List BkV) : Bool := (List.range hs.length).all fun j => nextB S P (hs.take j) (hs.getD j BkV.zero)
def upTo (S P : Int) (hs : List BkV) (k : Nat) : Prop := ∀ j, j < k → nextB S P (hs.take j) (hs.getD j BkV.zero) = true
theorem upTo.rt {S P : Int} {hs : List BkV} : ∀ {k : Nat}, k ≤ hs.length → upTo S P hs k → Rt S P (hs.take k)
  | 0, _, _ => by simpa using Rt.nil S P
  | k + 1, hk, h => by
    have := upTo.rt (k := k) (by omega) (fun j hj => h j (by omega))
    rw [List.take_succ_eq_append_getElem (by omega)]
    have g := h k (by omega)
    simp only [List.getD, show k < hs.length from hk, List.getElem?_eq_getElem, Option.getD_some] at g
    exact this.snoc g
theorem upTo.of_rt {S P : Int} {hs : List BkV} : ∀ {k : Nat}, k ≤ hs.length → Rt S P (hs.take k) → upTo S P hs k
  | 0, _, _ => fun j hj => by omega
  | k + 1, hk, h => by
    rw [List.take_succ_eq_append_getElem (by omega)] at h
    obtain ⟨h1, h2⟩ := h.unsnoc
    intro j hj
    by_cases hjk : j = k
    · subst hjk
      simpa only [List.getD, show j < hs.length from hk, List.getElem?_eq_getElem, Option.getD_some] using h2
    · exact upTo.of_rt (k := k) (by omega) h1 j (by omega)
theorem rtB_upTo {S P : Int} {hs : List BkV} : rtB S P hs = true ↔ upTo S P hs hs.length := by
  simp only [rtB, List.all_eq_true, List.mem_range]; exact Iff.rfl
theorem rtB_iff {S P : Int} {hs : List BkV} : rtB S P hs = true ↔ Rt S P hs := by
  rw [rtB_upTo]
  constructor
  · intro h; have := upTo.rt (Nat.le_refl _) h; rwa [List.take_length] at this
  · intro h; exact upTo.of_rt (Nat.le_refl _) (by rwa [List.take_length])
theorem rtB_bad {S P : Int} {hs : List BkV} {k : Nat} (hk : k < hs.length) (h : nextB S P (hs.take k) (hs.getD k BkV.zero) = false) : rtB S P hs = false := by
  cases hq : rtB S P hs
  · rfl
  · rw [rtB_upTo.1 hq k hk] at h; cases h
theorem upTo.step {S P : Int} {hs : List BkV} {k : Nat} (h : upTo S P hs k) (g : nextB S P (hs.take k) (hs.getD k BkV.zero) = true) : upTo S P hs (k + 1) := by
  intro j hj
  by_cases hjk : j = k
  · subst hjk; exact g
  · exact h j (by omega)
/-- A right train. -/
def trainB (S P : Int) (hs : List BkV) : Bool := inB S 1 60 && inB P 1 11 && decide (hs.length ≤ 200) && rtB S P hs
structure Tr (S P : Int) (hs : List BkV) : Prop where
  s1 : 1 ≤ S
  s2 : S ≤ 60
  p1 : 1 ≤ P
  p2 : P ≤ 11
  len : hs.length ≤ 200
  rt : Rt S P hs
theorem trainB_iff {S P : Int} {hs : List BkV} : trainB S P hs = true ↔ Tr S P hs := by
  simp only [trainB, Bool.and_eq_true, decide_eq_true_eq, rtB_iff, inB]
  constructor
  · rintro ⟨⟨⟨⟨h1, h2⟩, h3, h4⟩, h5⟩, h6⟩; exact ⟨h1, h2, h3, h4, h5, h6⟩
  · rintro ⟨h1, h2, h3, h4, h5, h6⟩; exact ⟨⟨⟨⟨h1, h2⟩, h3, h4⟩, h5⟩, h6⟩
/-- The pieces that are asked for are so. -/
def askB (P on off : Int) : Bool := decide (0 ≤ on ∧ on < off ∧ off ≤ P)
theorem askB_iff {P on off : Int} : askB P on off = true ↔ 0 ≤ on ∧ on < off ∧ off ≤ P := by simp [askB]

/-- The free seats among the first k. -/
def freeK (hs : List BkV) (on off : Int) (k : Nat) : List Int := ((List.range k).filter fun (s : Nat) => freeB hs (s : Int) on off).map fun (s : Nat) => (s : Int)
theorem freeK_zero (hs : List BkV) (on off : Int) : freeK hs on off 0 = [] := rfl
theorem freeK_yes {hs : List BkV} {on off : Int} {k : Nat} (h : freeB hs (k : Int) on off = true) : freeK hs on off (k + 1) = freeK hs on off k ++ [(k : Int)] := by
  simp [freeK, List.range_succ, List.filter_append, h]
theorem freeK_no {hs : List BkV} {on off : Int} {k : Nat} (h : freeB hs (k : Int) on off = false) : freeK hs on off (k + 1) = freeK hs on off k := by
  simp [freeK, List.range_succ, List.filter_append, h]
theorem freeK_len (hs : List BkV) (on off : Int) (k : Nat) : (freeK hs on off k).length ≤ k := by
  simp only [freeK, List.length_map]
  exact Nat.le_trans (List.length_filter_le _ _) (by simp)
theorem freeK_mem {hs : List BkV} {on off : Int} {k : Nat} {x : Int} : x ∈ freeK hs on off k ↔ 0 ≤ x ∧ x < k ∧ freeB hs x on off = true := by
  simp only [freeK, List.mem_map, List.mem_filter, List.mem_range]
  constructor
  · rintro ⟨s, ⟨h1, h2⟩, rfl⟩; exact ⟨by omega, by omega, h2⟩
  · rintro ⟨h1, h2, h3⟩
    exact ⟨x.toNat, ⟨by omega, by rwa [show ((x.toNat : Nat) : Int) = x by omega]⟩, by omega⟩
def freeL (S P : Int) (hs : List BkV) (on off : Int) : List Int := if trainB S P hs && askB P on off then freeK hs on off S.toNat else []

/-- From where on all pieces up to a call are free. -/
def sinceN (hs : List BkV) (s : Int) : Nat → Nat
  | 0 => 0
  | k + 1 => if heldB hs s (k : Int) then k + 1 else sinceN hs s k
theorem sinceN_le (hs : List BkV) (s : Int) : ∀ k, sinceN hs s k ≤ k
  | 0 => Nat.le_refl _
  | k + 1 => by
    unfold sinceN; split
    · exact Nat.le_refl _
    · have := sinceN_le hs s k; omega
/-- Up to where all pieces from a call on are free, with so many pieces left. -/
def untilN (hs : List BkV) (s : Int) : Nat → Nat → Nat
  | 0, a => a
  | m + 1, a => if heldB hs s (a : Int) then a else untilN hs s m (a + 1)
def untilE (hs : List BkV) (s : Int) (a e : Nat) : Nat := untilN hs s (e - a) a
theorem untilE_stop {hs : List BkV} {s : Int} {a e : Nat} (h : heldB hs s (a : Int) = true) : untilE hs s a e = a := by
  unfold untilE; cases e - a with
  | zero => rfl
  | succ m => simp [untilN, h]
theorem untilE_end {hs : List BkV} {s : Int} {a e : Nat} (h : e ≤ a) : untilE hs s a e = a := by
  unfold untilE; rw [show e - a = 0 by omega]; rfl
theorem untilE_go {hs : List BkV} {s : Int} {a e : Nat} (h : a < e) (g : heldB hs s (a : Int) = false) : untilE hs s a e = untilE hs s (a + 1) e := by
  unfold untilE; rw [show e - a = (e - (a + 1)) + 1 by omega]; simp [untilN, g]
theorem untilN_ge (hs : List BkV) (s : Int) : ∀ m a, a ≤ untilN hs s m a
  | 0, _ => Nat.le_refl _
  | m + 1, a => by
    unfold untilN; split
    · exact Nat.le_refl _
    · have := untilN_ge hs s m (a + 1); omega
theorem untilN_le (hs : List BkV) (s : Int) : ∀ m a, untilN hs s m a ≤ a + m
  | 0, _ => Nat.le_refl _
  | m + 1, a => by
    unfold untilN; split
    · omega
    · have := untilN_le hs s m (a + 1); omega
theorem untilE_ge (hs : List BkV) (s : Int) (a e : Nat) : a ≤ untilE hs s a e := untilN_ge _ _ _ _
theorem untilE_le {hs : List BkV} {s : Int} {a e : Nat} (h : a ≤ e) : untilE hs s a e ≤ e := by
  have := untilN_le hs s (e - a) a; unfold untilE; omega
theorem untilN_free (hs : List BkV) (s : Int) : ∀ m a p, a ≤ p → p < untilN hs s m a → heldB hs s (p : Int) = false
  | 0, a, p, h1, h2 => by simp [untilN] at h2; omega
  | m + 1, a, p, h1, h2 => by
    unfold untilN at h2
    split at h2
    · omega
    · by_cases hp : p = a
      · subst hp; simp_all
      · exact untilN_free hs s m (a + 1) p (by omega) h2
theorem untilE_free {hs : List BkV} {s : Int} {a e p : Nat} (h1 : a ≤ p) (h2 : p < untilE hs s a e) : heldB hs s (p : Int) = false := untilN_free hs s _ a p h1 h2
theorem untilN_held (hs : List BkV) (s : Int) : ∀ m a, untilN hs s m a < a + m → heldB hs s ((untilN hs s m a : Nat) : Int) = true
  | 0, a, h => by simp [untilN] at h
  | m + 1, a, h => by
    unfold untilN at h ⊢
    split
    · assumption
    · rename_i hc
      rw [if_neg hc] at h
      exact untilN_held hs s m (a + 1) (by omega)
theorem untilE_held {hs : List BkV} {s : Int} {a e : Nat} (h : untilE hs s a e < e) : heldB hs s ((untilE hs s a e : Nat) : Int) = true := by
  have := untilE_ge hs s a e
  exact untilN_held hs s (e - a) a (by unfold untilE at *; omega)
/-- The hole around free pieces. -/
def holeV (hs : List BkV) (P : Int) (on off : Int) (s : Int) : Int := (untilE hs s off.toNat P.toNat : Int) - (sinceN hs s on.toNat : Int)
theorem holeV_le {hs : List BkV} {P on off s : Int} (h0 : 0 ≤ P) (h : off ≤ P) : holeV hs P on off s ≤ P := by
  have := untilE_le (hs := hs) (s := s) (a := off.toNat) (e := P.toNat) (by omega)
  unfold holeV; omega
def holeF (S P : Int) (hs : List BkV) (s on off : Int) : Int := if trainB S P hs && askB P on off && (freeK hs on off S.toNat).contains s then holeV hs P on off s else 0

/-- The best of seats: the least hole, of these the first. -/
def bestS (h : Int → Int) (b s : Int) : Int := if b < 0 ∨ h s < h b then s else b
def bestL (h : Int → Int) (l : List Int) : Int := l.foldl (bestS h) (-1)
theorem bestL_snoc (h : Int → Int) (l : List Int) (s : Int) : bestL h (l ++ [s]) = bestS h (bestL h l) s := by simp [bestL]
theorem snoc_ind {α : Type} {p : List α → Prop} (h0 : p []) (h1 : ∀ l a, p l → p (l ++ [a])) (l : List α) : p l := by
  have : ∀ r : List α, p r.reverse := by
    intro r
    induction r with
    | nil => exact h0
    | cons a r ih => rw [List.reverse_cons]; exact h1 _ _ ih
  rw [← List.reverse_reverse l]; exact this _
theorem bestL_in (h : Int → Int) (l : List Int) : bestL h l = -1 ∨ bestL h l ∈ l := by
  refine snoc_ind (p := fun l => bestL h l = -1 ∨ bestL h l ∈ l) (.inl rfl) (fun l s ih => ?_) l
  rw [bestL_snoc]
  unfold bestS
  split
  · right; simp
  · rcases ih with ih | ih
    · exact .inl ih
    · right; simp [ih]
theorem bestL_least (h : Int → Int) (l : List Int) : (∀ x ∈ l, 0 ≤ x) → ∀ x ∈ l, 0 ≤ bestL h l ∧ h (bestL h l) ≤ h x := by
  refine snoc_ind (p := fun l => (∀ x ∈ l, 0 ≤ x) → ∀ x ∈ l, 0 ≤ bestL h l ∧ h (bestL h l) ≤ h x) (fun _ x hx => by simp at hx) (fun l s ih hp x hx => ?_) l
  have h0 : 0 ≤ s := hp s (by simp)
  have ih' := ih (fun y hy => hp y (by simp [hy]))
  rw [bestL_snoc]
  unfold bestS
  rcases List.mem_append.1 hx with hx | hx
  · have := ih' x hx
    split
    · rename_i hc
      rcases hc with hc | hc
      · omega
      · exact ⟨h0, by omega⟩
    · exact this
  · simp at hx; subst hx
    split
    · exact ⟨h0, Int.le_refl _⟩
    · rename_i hc
      exact ⟨by omega, by omega⟩
end Go.Proofs.Ytgnlcehpajbnoaa
