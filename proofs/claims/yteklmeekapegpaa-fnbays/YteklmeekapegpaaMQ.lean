/- The mathematics of the peak. -/
import Derived.Test.YteklmeekapegpaaPA
namespace Go.Proofs.Yteklmeekapegpaa
open Go.RowKit

def fA (ss : List StayV) (i : Nat) : Int := (ss.getD i StayV.zero).f
def tA (ss : List StayV) (i : Nat) : Int := (ss.getD i StayV.zero).t
def lenA (ss : List StayV) (i : Nat) : Int := (ss.getD i StayV.zero).l
/-- es is, in another order, what comes and what leaves. -/
theorem IsPass.perm {ss : List StayV} {g : Int} {k : Nat} {es : List PassV} (h : IsPass ss g k es) : es.Perm ((List.range k).map (comeP ss) ++ (List.range k).map (leaveP ss g)) := by
  have hn1 : es.Nodup := h.sorted.imp (fun {a b} hab e => by subst e; exact ltP_irrefl a hab)
  have hn2 : ((List.range k).map (comeP ss) ++ (List.range k).map (leaveP ss g)).Nodup := by
    rw [List.nodup_append]
    refine ⟨?_, ?_, ?_⟩
    · refine List.Pairwise.map _ (fun i j hij e => hij ?_) List.nodup_range
      have := congrArg PassV.p e; simp [comeP] at this; omega
    · refine List.Pairwise.map _ (fun i j hij e => hij ?_) List.nodup_range
      have := congrArg PassV.p e; simp [leaveP] at this; omega
    · intro a ha b hb e
      simp only [List.mem_map] at ha hb
      obtain ⟨i, _, rfl⟩ := ha
      obtain ⟨j, _, rfl⟩ := hb
      have := congrArg PassV.k e; simp [comeP, leaveP] at this
  refine (List.perm_ext_iff_of_nodup hn1 hn2).2 (fun x => ?_)
  rw [h.mem, List.mem_append, List.mem_map, List.mem_map]
  constructor
  · rintro ⟨i, hi, rfl | rfl⟩
    · exact .inl ⟨i, List.mem_range.2 hi, rfl⟩
    · exact .inr ⟨i, List.mem_range.2 hi, rfl⟩
  · rintro (⟨i, hi, rfl⟩ | ⟨i, hi, rfl⟩)
    · exact ⟨i, List.mem_range.1 hi, .inl rfl⟩
    · exact ⟨i, List.mem_range.1 hi, .inr rfl⟩
/-- What is counted up to a place is what is not behind what stands there. -/
theorem count_take {es : List PassV} (hs : es.Pairwise ltP) {j : Nat} (hj : j < es.length) (P : PassV → Bool) :
    (es.take (j + 1)).countP P = es.countP (fun x => P x && !decide (ltP es[j] x)) := by
  obtain ⟨t, ht⟩ : ∃ t, t = es[j] := ⟨_, rfl⟩
  rw [← ht]
  conv => rhs; rw [← List.take_append_drop (j + 1) es, List.countP_append]
  have h1 : (es.drop (j + 1)).countP (fun x => P x && !decide (ltP t x)) = 0 := by
    rw [List.countP_eq_zero]
    intro x hx
    obtain ⟨i, hi, rfl⟩ := List.mem_iff_getElem.1 hx
    rw [List.length_drop] at hi
    rw [List.getElem_drop]
    have := List.pairwise_iff_getElem.1 hs j (j + 1 + i) hj (by omega) (by omega)
    rw [ht]; simp [this]
  rw [h1, Nat.add_zero]
  apply List.countP_congr
  intro x hx
  obtain ⟨i, hi, rfl⟩ := List.mem_iff_getElem.1 hx
  rw [List.length_take] at hi
  rw [List.getElem_take]
  have : ¬ ltP es[j] es[i] := by
    by_cases e : i = j
    · subst e; exact ltP_irrefl _
    · intro h
      exact ltP_irrefl _ (ltP_trans h (List.pairwise_iff_getElem.1 hs i j (by omega) hj (by omega)))
  rw [ht]; simp [this]
def isC (x : PassV) : Bool := decide (x.k = 1)
def isL (x : PassV) : Bool := decide (x.k = 0)
/-- How many have come and not left. -/
def nowJ (es : List PassV) (j : Nat) : Int := ((es.take j).countP isC : Int) - ((es.take j).countP isL : Int)
/-- Stay k comes no later than stay i, and holds its bay when that one comes. -/
def thereB (ss : List StayV) (g : Int) (i k : Nat) : Bool := decide ((fA ss k < fA ss i ∨ (fA ss k = fA ss i ∧ k ≤ i)) ∧ fA ss i < tA ss k + g)
def nowI (ss : List StayV) (g : Int) (n i : Nat) : Nat := (List.range n).countP (thereB ss g i)
def cntI (ss : List StayV) (g : Int) (n : Nat) (m : Int) : Nat := (List.range n).countP (fun k => decide (fA ss k ≤ m ∧ m < tA ss k + g))
/-- Stays as they should be. -/
def Fine (ss : List StayV) (n : Nat) : Prop := ∀ k, k < n → fA ss k ≤ tA ss k
theorem countP_split {α : Type} (l : List α) (P Q R : α → Bool) (h : ∀ x ∈ l, P x = (Q x || R x) ∧ (Q x && R x) = false) : l.countP P = l.countP Q + l.countP R := by
  induction l with
  | nil => rfl
  | cons a l ih =>
    have ha := h a (List.mem_cons_self ..)
    rw [List.countP_cons, List.countP_cons, List.countP_cons, ih (fun x hx => h x (List.mem_cons_of_mem _ hx)), ha.1]
    cases hq : Q a <;> cases hr : R a <;> simp [hq, hr] at ha ⊢ <;> omega
theorem nowJ_come {ss : List StayV} {g : Int} {n : Nat} {es : List PassV} (hg : 1 ≤ g) (hF : Fine ss n) (h : IsPass ss g n es) {j i : Nat} (hj : j < es.length) (he : es[j] = comeP ss i) : nowJ es (j + 1) = (nowI ss g n i : Int) := by
  unfold nowJ
  rw [count_take h.sorted hj, count_take h.sorted hj, h.perm.countP_eq, h.perm.countP_eq, List.countP_append, List.countP_append, List.countP_map, List.countP_map, List.countP_map, List.countP_map, he]
  have e1 : (List.range n).countP ((fun x => isC x && !decide (ltP (comeP ss i) x)) ∘ leaveP ss g) = 0 := by
    rw [List.countP_eq_zero]; intro x _; simp [isC, leaveP]
  have e2 : (List.range n).countP ((fun x => isL x && !decide (ltP (comeP ss i) x)) ∘ comeP ss) = 0 := by
    rw [List.countP_eq_zero]; intro x _; simp [isL, comeP]
  rw [e1, e2, Nat.add_zero, Nat.zero_add]
  have e3 : (List.range n).countP ((fun x => isC x && !decide (ltP (comeP ss i) x)) ∘ comeP ss) = nowI ss g n i + (List.range n).countP ((fun x => isL x && !decide (ltP (comeP ss i) x)) ∘ leaveP ss g) := by
    unfold nowI
    apply countP_split
    intro k hk
    have hf := hF k (List.mem_range.1 hk)
    have a1 : ((fun x => isC x && !decide (ltP (comeP ss i) x)) ∘ comeP ss) k = decide (fA ss k < fA ss i ∨ (fA ss k = fA ss i ∧ k ≤ i)) := by
      rw [Bool.eq_iff_iff]
      simp only [Function.comp, isC, Bool.and_eq_true, decide_eq_true_eq, Bool.not_eq_true', decide_eq_false_iff_not]
      simp only [comeP, ltP, fA, true_and]
      omega
    have a2 : ((fun x => isL x && !decide (ltP (comeP ss i) x)) ∘ leaveP ss g) k = decide (tA ss k + g ≤ fA ss i) := by
      rw [Bool.eq_iff_iff]
      simp only [Function.comp, isL, Bool.and_eq_true, decide_eq_true_eq, Bool.not_eq_true', decide_eq_false_iff_not]
      simp only [comeP, leaveP, ltP, fA, tA, true_and]
      omega
    rw [a1, a2]
    constructor
    · rw [Bool.eq_iff_iff]; simp only [thereB, Bool.or_eq_true, decide_eq_true_eq]; omega
    · rw [Bool.and_eq_false_iff]; simp only [thereB, decide_eq_false_iff_not]; omega
  rw [e3]; omega
theorem nowI_le (ss : List StayV) (g : Int) (n i : Nat) : nowI ss g n i ≤ cntI ss g n (fA ss i) := by
  unfold nowI cntI
  apply List.countP_mono_left
  intro k _ h
  simp only [thereB, decide_eq_true_eq] at h ⊢
  omega
/-- The last of those that come in one minute. -/
theorem last_one (ss : List StayV) (n : Nat) : ∀ d i, i < n → n - i ≤ d → ∃ l, l < n ∧ fA ss l = fA ss i ∧ ∀ k, k < n → fA ss k = fA ss i → k ≤ l
  | 0, i, hi, hd => by omega
  | d + 1, i, hi, hd => by
    by_cases h : ∃ k, k < n ∧ fA ss k = fA ss i ∧ i < k
    · obtain ⟨k, hk, e, hik⟩ := h
      obtain ⟨l, hl, el, hm⟩ := last_one ss n d k hk (by omega)
      exact ⟨l, hl, el.trans e, fun k' hk' e' => hm k' hk' (by rw [e', e])⟩
    · exact ⟨i, hi, rfl, fun k hk e => by
        rcases Nat.lt_or_ge i k with h' | h'
        · exact absurd ⟨k, hk, e, h'⟩ h
        · exact h'⟩
theorem nowI_last {ss : List StayV} {g : Int} {n l : Nat} (h : ∀ k, k < n → fA ss k = fA ss l → k ≤ l) : nowI ss g n l = cntI ss g n (fA ss l) := by
  unfold nowI cntI
  apply List.countP_congr
  intro k hk
  have := h k (List.mem_range.1 hk)
  simp only [thereB, decide_eq_true_eq]
  constructor
  · intro h; omega
  · intro h
    refine ⟨?_, h.2⟩
    by_cases e : fA ss k = fA ss l
    · exact .inr ⟨e, this e⟩
    · exact .inl (by omega)
/-- The model's peak, stay by stay. -/
def peakTo (ss : List StayV) (g : Int) (n : Nat) : Nat → Nat
  | 0 => 0
  | k + 1 => if peakTo ss g n k < cntI ss g n (fA ss k) then cntI ss g n (fA ss k) else peakTo ss g n k
theorem peakTo_spec (ss : List StayV) (g : Int) (n : Nat) : ∀ k, (∀ i, i < k → cntI ss g n (fA ss i) ≤ peakTo ss g n k) ∧ (peakTo ss g n k = 0 ∨ ∃ i, i < k ∧ peakTo ss g n k = cntI ss g n (fA ss i))
  | 0 => ⟨fun i h => by omega, .inl rfl⟩
  | k + 1 => by
    obtain ⟨h1, h2⟩ := peakTo_spec ss g n k
    unfold peakTo
    split
    · rename_i hlt
      refine ⟨fun i hi => ?_, .inr ⟨k, by omega, rfl⟩⟩
      by_cases e : i = k
      · subst e; exact Nat.le_refl _
      · have := h1 i (by omega); omega
    · rename_i hlt
      refine ⟨fun i hi => ?_, ?_⟩
      · by_cases e : i = k
        · subst e; omega
        · exact h1 i (by omega)
      · rcases h2 with h2 | ⟨i, hi, e⟩
        · exact .inl h2
        · exact .inr ⟨i, by omega, e⟩
/-- What the program has found up to a place. -/
def Found (es : List PassV) (j : Nat) (r : Int) : Prop := (∀ i, i < j → (es.getD i PassV.zero).k = 1 → nowJ es (i + 1) ≤ r) ∧ (r = 0 ∨ ∃ i, i < j ∧ (es.getD i PassV.zero).k = 1 ∧ r = nowJ es (i + 1)) ∧ 0 ≤ r
theorem Found.peak {ss : List StayV} {g : Int} {n : Nat} {es : List PassV} {r : Int} (hg : 1 ≤ g) (hF : Fine ss n) (h : IsPass ss g n es) (hf : Found es es.length r) : r = (peakTo ss g n n : Int) := by
  obtain ⟨h1, h2, h3⟩ := hf
  obtain ⟨p1, p2⟩ := peakTo_spec ss g n n
  have key : ∀ j, j < es.length → (es.getD j PassV.zero).k = 1 → ∃ i, i < n ∧ nowJ es (j + 1) = (nowI ss g n i : Int) := by
    intro j hj hk
    have e0 : es.getD j PassV.zero = es[j] := by simp [List.getD, hj]
    rw [e0] at hk
    obtain ⟨i, hi, e | e⟩ := (h.mem es[j]).1 (List.getElem_mem hj)
    · exact ⟨i, hi, nowJ_come hg hF h hj e⟩
    · rw [e] at hk; simp [leaveP] at hk
  have at' : ∀ i, i < n → (nowI ss g n i : Int) ≤ r := by
    intro i hi
    obtain ⟨j, hj, e⟩ := List.mem_iff_getElem.1 ((h.mem (comeP ss i)).2 ⟨i, hi, .inl rfl⟩)
    rw [← nowJ_come hg hF h hj e]
    apply h1 j hj
    have e0 : es.getD j PassV.zero = es[j] := by simp [List.getD, hj]
    rw [e0, e]; rfl
  apply Int.le_antisymm
  · rcases h2 with h2 | ⟨j, hj, hk, e⟩
    · omega
    · obtain ⟨i, hi, e2⟩ := key j hj hk
      have := p1 i hi
      have := nowI_le ss g n i
      omega
  · rcases p2 with p2 | ⟨i, hi, e⟩
    · omega
    · obtain ⟨l, hl, el, hm⟩ := last_one ss n n i hi (by omega)
      have := at' l hl
      rw [nowI_last (fun k hk ek => hm k hk (ek.trans el)), el, ← e] at this
      exact this
end Go.Proofs.Yteklmeekapegpaa
