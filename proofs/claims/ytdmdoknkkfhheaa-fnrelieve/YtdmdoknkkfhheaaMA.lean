/- Tasks: which are right, which follow, their order, and the units that run them. -/
import Derived.Test.YtdmdoknkkfhheaaS
namespace Go.Proofs.Ytdmdoknkkfhheaa
open Go.RowKit

def taskB (x : TaskV) : Bool := inB x.e 0 29 && (inB x.d 0 29 && (decide (0 ≤ x.f) && (decide (x.f < x.t) && (decide (x.t ≤ 100000) && inB x.p 0 2000))))
def tasksB (ts : List TaskV) : Bool := decide (ts.length ≤ 40) && ts.all taskB
def turnB (n : Int) : Bool := inB n 0 120
def folB (a b : TaskV) (n : Int) : Bool := taskB a && (taskB b && (turnB n && (decide (a.d = b.e) && decide (a.t + n ≤ b.f))))
theorem taskB_iff {x : TaskV} : taskB x = true ↔ 0 ≤ x.e ∧ x.e ≤ 29 ∧ 0 ≤ x.d ∧ x.d ≤ 29 ∧ 0 ≤ x.f ∧ x.f < x.t ∧ x.t ≤ 100000 ∧ 0 ≤ x.p ∧ x.p ≤ 2000 := by
  simp only [taskB, inB, Bool.and_eq_true, decide_eq_true_eq]; omega
theorem folB_iff {a b : TaskV} {n : Int} : folB a b n = true ↔ taskB a = true ∧ taskB b = true ∧ turnB n = true ∧ a.d = b.e ∧ a.t + n ≤ b.f := by
  simp only [folB, Bool.and_eq_true, decide_eq_true_eq]
def tkA (ts : List TaskV) (i : Nat) : TaskV := ts.getD i TaskV.zero
theorem tkA_ok {ts : List TaskV} (h : ts.all taskB = true) {i : Nat} (hi : i < ts.length) : taskB (tkA ts i) = true := by
  unfold tkA
  rw [List.all_eq_true] at h
  have : ts.getD i TaskV.zero = ts[i] := by simp [List.getD, hi]
  rw [this]
  exact h _ (List.getElem_mem hi)

/-! The order of the tasks. -/
def before (ts : List TaskV) (i j : Nat) : Prop := (tkA ts i).f < (tkA ts j).f ∨ ((tkA ts i).f = (tkA ts j).f ∧ i < j)
theorem before_trans {ts : List TaskV} {a b c : Nat} (h : before ts a b) (g : before ts b c) : before ts a c := by unfold before at *; omega
theorem before_irrefl {ts : List TaskV} (a : Nat) : ¬ before ts a a := by unfold before; omega
theorem before_asymm {ts : List TaskV} {a b : Nat} (h : before ts a b) : ¬ before ts b a := by unfold before at *; omega
theorem before_total {ts : List TaskV} {a b : Nat} (h : a ≠ b) : before ts a b ∨ before ts b a := by unfold before; omega
theorem sub_len : ∀ {l1 l2 : List Nat}, l1.Nodup → (∀ x ∈ l1, x ∈ l2) → l1.length ≤ l2.length
  | [], _, _, _ => Nat.zero_le _
  | a :: t, l2, hn, hs => by
    have ha : a ∈ l2 := hs a (List.mem_cons_self ..)
    have hn' := List.nodup_cons.1 hn
    have := sub_len (l1 := t) (l2 := l2.erase a) hn'.2 (fun x hx => (List.mem_erase_of_ne (fun e => hn'.1 (by rw [← e]; exact hx))).2 (hs x (List.mem_cons_of_mem _ hx)))
    rw [List.length_erase_of_mem ha] at this
    have := List.length_pos_of_mem ha
    simp only [List.length_cons]; omega
/-- The first of the tasks, in their order. -/
structure IsOrder (ts : List TaskV) (os : List Nat) : Prop where
  low : ∀ o ∈ os, o < ts.length
  nodup : os.Nodup
  sorted : os.Pairwise (before ts)
  rest : ∀ i, i < ts.length → i ∉ os → ∀ o ∈ os, before ts o i
theorem IsOrder.len {ts : List TaskV} {os : List Nat} (h : IsOrder ts os) : os.length ≤ ts.length := by
  have := sub_len h.nodup (l2 := List.range ts.length) (fun o ho => List.mem_range.2 (h.low o ho))
  simpa using this
theorem IsOrder.nil (ts : List TaskV) : IsOrder ts [] := ⟨fun o h => by simp at h, List.nodup_nil, List.Pairwise.nil, fun i _ _ o h => by simp at h⟩
/-- What the search for the next one has found among the first k. -/
def NextTo (ts : List TaskV) (os : List Nat) (k : Nat) (b : Int) : Prop :=
  (b = -1 ∧ ∀ i, i < k → i ∈ os) ∨ ∃ m : Nat, b = m ∧ m < k ∧ m ∉ os ∧ ∀ i, i < k → i ∉ os → i = m ∨ before ts m i
theorem NextTo.skip {ts : List TaskV} {os : List Nat} {k : Nat} {b : Int} (h : NextTo ts os k b) (hk : k ∈ os) : NextTo ts os (k + 1) b := by
  rcases h with ⟨h1, h2⟩ | ⟨m, h1, h2, h3, h4⟩
  · refine .inl ⟨h1, fun i hi => ?_⟩
    by_cases e : i = k
    · subst e; exact hk
    · exact h2 i (by omega)
  · refine .inr ⟨m, h1, by omega, h3, fun i hi hn => ?_⟩
    by_cases e : i = k
    · subst e; exact absurd hk hn
    · exact h4 i (by omega) hn
theorem NextTo.first {ts : List TaskV} {os : List Nat} {k : Nat} (h : NextTo ts os k (-1)) (hk : k ∉ os) : NextTo ts os (k + 1) k := by
  rcases h with ⟨_, h2⟩ | ⟨m, h1, _⟩
  · refine .inr ⟨k, rfl, by omega, hk, fun i hi hn => ?_⟩
    by_cases e : i = k
    · exact .inl e
    · exact absurd (h2 i (by omega)) hn
  · omega
theorem NextTo.less {ts : List TaskV} {os : List Nat} {k m : Nat} (h : NextTo ts os k (m : Int)) (hk : k ∉ os) (hf : (tkA ts k).f < (tkA ts m).f) : NextTo ts os (k + 1) k := by
  rcases h with ⟨h1, _⟩ | ⟨m', h1, h2, h3, h4⟩
  · omega
  · obtain rfl : m = m' := by omega
    refine .inr ⟨k, rfl, by omega, hk, fun i hi hn => ?_⟩
    by_cases e : i = k
    · exact .inl e
    · refine .inr ?_
      rcases h4 i (by omega) hn with rfl | hb
      · exact .inl hf
      · exact before_trans (.inl hf) hb
theorem NextTo.more {ts : List TaskV} {os : List Nat} {k m : Nat} (h : NextTo ts os k (m : Int)) (hf : ¬ (tkA ts k).f < (tkA ts m).f) : NextTo ts os (k + 1) m := by
  rcases h with ⟨h1, _⟩ | ⟨m', h1, h2, h3, h4⟩
  · omega
  · obtain rfl : m = m' := by omega
    refine .inr ⟨m, rfl, by omega, h3, fun i hi hn => ?_⟩
    by_cases e : i = k
    · subst e; refine .inr ?_; unfold before; omega
    · exact h4 i (by omega) hn
theorem IsOrder.push {ts : List TaskV} {os : List Nat} {b : Int} (h : IsOrder ts os) (hl : os.length < ts.length) (hn : NextTo ts os ts.length b) : ∃ m : Nat, b = m ∧ m < ts.length ∧ IsOrder ts (os ++ [m]) := by
  rcases hn with ⟨_, h2⟩ | ⟨m, h1, h2, h3, h4⟩
  · exfalso
    have := sub_len (List.nodup_range (n := ts.length)) (l2 := os) (fun i hi => h2 i (List.mem_range.1 hi))
    simp at this; omega
  · refine ⟨m, h1, h2, ?_, ?_, ?_, ?_⟩
    · intro o ho
      rcases List.mem_append.1 ho with ho | ho
      · exact h.low o ho
      · simp at ho; omega
    · rw [List.nodup_append]
      refine ⟨h.nodup, by simp, fun a ha b hb e => ?_⟩
      simp at hb; subst hb; subst e; exact h3 ha
    · rw [List.pairwise_append]
      refine ⟨h.sorted, by simp, fun a ha b hb => ?_⟩
      simp at hb; subst hb
      exact h.rest b h2 h3 a ha
    · intro i hi hni o ho
      have hni' : i ∉ os := fun hx => hni (List.mem_append.2 (.inl hx))
      have him : i ≠ m := fun e => hni (List.mem_append.2 (.inr (by simp [e])))
      rcases List.mem_append.1 ho with ho | ho
      · exact h.rest i hi hni' o ho
      · simp at ho; subst ho
        exact (h4 i hi hni').resolve_left him
/-- All tasks in their order. -/
def Ord (ts : List TaskV) (os : List Nat) : Prop := os.Pairwise (before ts) ∧ ∀ i, i ∈ os ↔ i < ts.length
theorem pairwise_uniq {R : Nat → Nat → Prop} (hR : ∀ a b, R a b → ¬ R b a) : ∀ {l1 l2 : List Nat}, l1.Pairwise R → l2.Pairwise R → (∀ x, x ∈ l1 ↔ x ∈ l2) → l1 = l2
  | [], [], _, _, _ => rfl
  | [], b :: t, _, _, h => by have := (h b).2 (by simp); simp at this
  | a :: t, [], _, _, h => by have := (h a).1 (by simp); simp at this
  | a :: t1, b :: t2, h1, h2, h => by
    rw [List.pairwise_cons] at h1 h2
    have irr : ∀ x, ¬ R x x := fun x hx => hR x x hx hx
    have hab : a = b := by
      by_cases e : a = b
      · exact e
      · exfalso
        have ha : a ∈ t2 := by have := (h a).1 (by simp); simpa [e] using this
        have hb : b ∈ t1 := by have := (h b).2 (by simp); simpa [Ne.symm e] using this
        exact hR _ _ (h1.1 b hb) (h2.1 a ha)
    subst hab
    rw [pairwise_uniq hR h1.2 h2.2 (fun x => ?_)]
    constructor
    · intro hx
      have hne : x ≠ a := fun e => irr a (by have := h1.1 x hx; rwa [e] at this)
      have := (h x).1 (by simp [hx]); simpa [hne] using this
    · intro hx
      have hne : x ≠ a := fun e => irr a (by have := h2.1 x hx; rwa [e] at this)
      have := (h x).2 (by simp [hx]); simpa [hne] using this
theorem Ord.uniq {ts : List TaskV} {a b : List Nat} (h : Ord ts a) (g : Ord ts b) : a = b :=
  pairwise_uniq (fun _ _ => before_asymm) h.1 g.1 (fun x => (h.2 x).trans (g.2 x).symm)
theorem IsOrder.ord {ts : List TaskV} {os : List Nat} (h : IsOrder ts os) (hl : os.length = ts.length) : Ord ts os := by
  refine ⟨h.sorted, fun i => ⟨h.low i, fun hi => ?_⟩⟩
  by_cases hm : i ∈ os
  · exact hm
  · exfalso
    have := sub_len (l1 := i :: os) (l2 := List.range ts.length) (List.nodup_cons.2 ⟨hm, h.nodup⟩) (fun x hx => by
      rcases List.mem_cons.1 hx with rfl | hx
      · exact List.mem_range.2 hi
      · exact List.mem_range.2 (h.low x hx))
    simp at this; omega
theorem Ord.nodup {ts : List TaskV} {os : List Nat} (h : Ord ts os) : os.Nodup := by
  refine h.1.imp (fun {a b} hab e => ?_)
  subst e; exact before_irrefl _ hab
theorem Ord.len {ts : List TaskV} {os : List Nat} (h : Ord ts os) : os.length = ts.length := by
  have h1 := sub_len h.nodup (l2 := List.range ts.length) (fun o ho => List.mem_range.2 ((h.2 o).1 ho))
  have h2 := sub_len (List.nodup_range (n := ts.length)) (l2 := os) (fun i hi => (h.2 i).2 (List.mem_range.1 hi))
  simp at h1 h2; omega

theorem snoc_ind {α : Type} {P : List α → Prop} (h0 : P []) (h1 : ∀ l x, P l → P (l ++ [x])) (l : List α) : P l := by
  have : ∀ m : List α, P m.reverse := by
    intro m
    induction m with
    | nil => exact h0
    | cons x m ih => rw [List.reverse_cons]; exact h1 _ _ ih
  have h := this l.reverse
  rwa [List.reverse_reverse] at h

/-! What was dealt so far: places and their units, in the order in which they came. -/
abbrev Hist := List (Nat × Nat)
def runU (h : Hist) (u : Nat) : List Nat := (h.filter (fun x => x.2 == u)).map (·.1)
def nU (h : Hist) : Nat := h.foldl (fun n x => max n (x.2 + 1)) 0
theorem nU_snoc (h : Hist) (t u : Nat) : nU (h ++ [(t, u)]) = max (nU h) (u + 1) := by simp [nU]
theorem runU_snoc (h : Hist) (t u v : Nat) : runU (h ++ [(t, u)]) v = if u = v then runU h v ++ [t] else runU h v := by
  unfold runU
  rw [List.filter_append, List.map_append]
  by_cases e : u = v
  · simp [e]
  · simp [e]
theorem runU_beyond {h : Hist} {u : Nat} (hu : nU h ≤ u) : runU h u = [] := by
  induction h using snoc_ind with
  | h0 => rfl
  | h1 h x ih =>
    obtain ⟨t, v⟩ := x
    rw [nU_snoc] at hu
    rw [runU_snoc, if_neg (by omega), ih (by omega)]
def unitD (h : Hist) (d : Int) (t : Nat) : Int := ((h.find? (fun x => x.1 == t)).map (fun x => (x.2 : Int))).getD d
def uL (h : Hist) (d : Int) (n : Nat) : List Int := (List.range n).map (unitD h d)
theorem uL_len (h : Hist) (d : Int) (n : Nat) : (uL h d n).length = n := by simp [uL]
theorem uL_get (h : Hist) (d : Int) {n t : Nat} (ht : t < n) : (uL h d n).getD t 0 = unitD h d t := by simp [uL, List.getD, ht]
theorem uL_nil (d : Int) (n : Nat) : uL [] d n = List.replicate n d := by
  apply List.ext_getElem
  · simp [uL]
  · intro i h1 h2; simp [uL, unitD]
theorem unitD_snoc (h : Hist) (d : Int) (t u s : Nat) (ht : t ∉ h.map (·.1)) : unitD (h ++ [(t, u)]) d s = if t = s then (u : Int) else unitD h d s := by
  unfold unitD
  rw [List.find?_append]
  by_cases e : t = s
  · subst e
    have : h.find? (fun x => x.1 == t) = none := by
      rw [List.find?_eq_none]
      intro x hx hxt
      exact ht (List.mem_map.2 ⟨x, hx, by simpa using hxt⟩)
    simp [this]
  · cases h.find? (fun x => x.1 == s) <;> simp [e]
theorem uL_set (h : Hist) (d : Int) (n t u : Nat) (ht : t ∉ h.map (·.1)) : (uL h d n).set t (u : Int) = uL (h ++ [(t, u)]) d n := by
  apply List.ext_getElem
  · simp [uL]
  · intro i h1 h2
    have hi : i < n := by simpa [uL] using h2
    rw [List.getElem_set]
    simp only [uL, List.getElem_map, List.getElem_range]
    rw [unitD_snoc h d t u i ht]
theorem unitD_mem {h : Hist} {t u : Nat} (hn : (h.map (·.1)).Nodup) (hm : (t, u) ∈ h) (d : Int) : unitD h d t = u := by
  induction h using snoc_ind with
  | h0 => simp at hm
  | h1 h x ih =>
    obtain ⟨t', u'⟩ := x
    rw [List.map_append, List.nodup_append] at hn
    obtain ⟨n1, _, n3⟩ := hn
    have ht' : t' ∉ h.map (·.1) := fun hx => n3 t' hx t' (by simp) rfl
    rw [unitD_snoc h d t' u' t ht']
    rcases List.mem_append.1 hm with hm | hm
    · rw [if_neg (fun e => ht' (List.mem_map.2 ⟨_, hm, e.symm⟩)), ih n1 hm]
    · simp at hm; rw [if_pos hm.1.symm, hm.2]
theorem uL_same {h : Hist} {n : Nat} (ha : ∀ t, t < n → t ∈ h.map (·.1)) (d d' : Int) : uL h d n = uL h d' n := by
  apply List.ext_getElem
  · simp [uL]
  · intro i h1 h2
    have hi : i < n := by simpa [uL] using h2
    simp only [uL, List.getElem_map, List.getElem_range]
    unfold unitD
    have := ha i hi
    rw [List.mem_map] at this
    obtain ⟨x, hx, e⟩ := this
    cases hf : h.find? (fun x => x.1 == i) with
    | none => rw [List.find?_eq_none] at hf; exact absurd (by simp [e]) (hf x hx)
    | some y => rfl
theorem runU_mem {h : Hist} {t u : Nat} : t ∈ runU h u ↔ (t, u) ∈ h := by
  unfold runU
  rw [List.mem_map]
  constructor
  · rintro ⟨⟨a, b⟩, hx, rfl⟩
    rw [List.mem_filter] at hx
    have : b = u := by simpa using hx.2
    rw [← this]; exact hx.1
  · intro hx
    exact ⟨(t, u), List.mem_filter.2 ⟨hx, by simp⟩, rfl⟩
theorem unit_lt {h : Hist} {t u : Nat} (hm : (t, u) ∈ h) : u < nU h := by
  by_cases hu : nU h ≤ u
  · have := runU_beyond hu
    have hx := runU_mem.2 hm
    rw [this] at hx; simp at hx
  · omega

/-! The units of Chains. -/
def lastU (h : Hist) (u : Nat) : Nat := (runU h u).getLastD 0
def Cand (ts : List TaskV) (n : Int) (h : Hist) (t u : Nat) : Prop := u < nU h ∧ folB (tkA ts (lastU h u)) (tkA ts t) n = true
def arrU (ts : List TaskV) (h : Hist) (u : Nat) : Int := (tkA ts (lastU h u)).t
def IsMatch (ts : List TaskV) (n : Int) (h : Hist) (t u : Nat) : Prop :=
  (Cand ts n h t u ∧ ∀ v, Cand ts n h t v → arrU ts h u < arrU ts h v ∨ (arrU ts h u = arrU ts h v ∧ u ≤ v)) ∨ (u = nU h ∧ ∀ v, ¬ Cand ts n h t v)
theorem IsMatch.uniq {ts : List TaskV} {n : Int} {h : Hist} {t u v : Nat} (a : IsMatch ts n h t u) (b : IsMatch ts n h t v) : u = v := by
  rcases a with ⟨a1, a2⟩ | ⟨a1, a2⟩ <;> rcases b with ⟨b1, b2⟩ | ⟨b1, b2⟩
  · have := a2 v b1; have := b2 u a1; omega
  · exact absurd a1 (b2 u)
  · exact absurd b1 (a2 v)
  · omega
theorem IsMatch.le {ts : List TaskV} {n : Int} {h : Hist} {t u : Nat} (a : IsMatch ts n h t u) : u ≤ nU h := by
  rcases a with ⟨a1, _⟩ | ⟨a1, _⟩
  · exact Nat.le_of_lt a1.1
  · omega
inductive Chn (ts : List TaskV) (n : Int) : List Nat → Hist → Prop
  | nil : Chn ts n [] []
  | snoc {os : List Nat} {h : Hist} {t u : Nat} : Chn ts n os h → IsMatch ts n h t u → Chn ts n (os ++ [t]) (h ++ [(t, u)])
theorem Chn.places {ts : List TaskV} {n : Int} {os : List Nat} {h : Hist} (c : Chn ts n os h) : h.map (·.1) = os := by
  induction c with
  | nil => rfl
  | snoc _ _ ih => simp [ih]
theorem Chn.uniq {ts : List TaskV} {n : Int} {os : List Nat} {h h' : Hist} (c : Chn ts n os h) (c' : Chn ts n os h') : h = h' := by
  induction c generalizing h' with
  | nil =>
    have := c'.places
    cases h' with
    | nil => rfl
    | cons => simp at this
  | @snoc os h t u c m ih =>
    generalize ho : os ++ [t] = ot at c'
    cases c' with
    | nil => simp at ho
    | @snoc os' h'' t' u' c2 m2 =>
      have := List.append_inj' ho rfl
      obtain ⟨rfl, h1⟩ := this
      simp at h1
      subst h1
      rw [ih c2] at m ⊢
      rw [m.uniq m2]
theorem Chn.full {ts : List TaskV} {n : Int} {os : List Nat} {h : Hist} (c : Chn ts n os h) : ∀ u, u < nU h → runU h u ≠ [] := by
  induction c with
  | nil => intro u hu; simp [nU] at hu
  | @snoc os h t u c m ih =>
    intro v hv
    rw [nU_snoc] at hv
    rw [runU_snoc]
    by_cases e : u = v
    · simp [e]
    · rw [if_neg e]
      have := m.le
      exact ih v (by omega)
/-- What Chains answers. -/
def ChA (ts : List TaskV) (n : Int) (zs : List Int) : Prop :=
  ((tasksB ts && turnB n) = false ∧ zs = []) ∨ ((tasksB ts && turnB n) = true ∧ ∃ os h, Ord ts os ∧ Chn ts n os h ∧ zs = uL h 0 ts.length)
theorem ChA.uniq {ts : List TaskV} {n : Int} {a b : List Int} (h : ChA ts n a) (g : ChA ts n b) : a = b := by
  rcases h with ⟨h1, h2⟩ | ⟨h1, os, hh, h2, h3, h4⟩ <;> rcases g with ⟨g1, g2⟩ | ⟨g1, os', hh', g2, g3, g4⟩
  · rw [h2, g2]
  · rw [h1] at g1; cases g1
  · rw [h1] at g1; cases g1
  · have e := h2.uniq g2
    subst e
    rw [h4, g4, h3.uniq g3]
end Go.Proofs.Ytdmdoknkkfhheaa
