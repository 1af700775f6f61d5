/- What is told of the units: kilometres, who is due, nights, links; how the next unit is found. -/
import Derived.Test.YtbnhkkaiohmllaaMA
namespace Go.Proofs.Ytbnhkkaiohmllaa
open Go.RowKit

/-! The search for a unit. -/
theorem cand_arr {ts : List TaskV} {n : Int} {h : Hist} {t u : Nat} (c : Cand ts n h t u) : arrU ts h u ≤ 100000 := (taskB_iff.1 (folB_iff.1 c.2).1).2.2.2.2.2.2.1
/-- What the program's search holds behind the first k units. -/
def MatchI (ts : List TaskV) (n : Int) (h : Hist) (t k : Nat) (b s : Int) : Prop :=
  (b = nU h ∧ s = 100001 ∧ ∀ v, v < k → ¬ Cand ts n h t v) ∨ ∃ m : Nat, b = m ∧ m < k ∧ Cand ts n h t m ∧ s = arrU ts h m ∧ ∀ v, v < k → Cand ts n h t v → arrU ts h m < arrU ts h v ∨ (arrU ts h m = arrU ts h v ∧ m ≤ v)
theorem MatchI.start (ts : List TaskV) (n : Int) (h : Hist) (t : Nat) : MatchI ts n h t 0 (nU h) 100001 := .inl ⟨rfl, rfl, fun v hv => by omega⟩
theorem MatchI.take {ts : List TaskV} {n : Int} {h : Hist} {t k : Nat} {b s : Int} (a : MatchI ts n h t k b s) (hc : Cand ts n h t k) (hs : arrU ts h k < s) : MatchI ts n h t (k + 1) k (arrU ts h k) := by
  refine .inr ⟨k, rfl, by omega, hc, rfl, fun v hv cv => ?_⟩
  by_cases e : v = k
  · subst e; exact .inr ⟨rfl, Nat.le_refl _⟩
  · rcases a with ⟨_, _, a3⟩ | ⟨m, a1, a2, a3, a4, a5⟩
    · exact absurd cv (a3 v (by omega))
    · have := a5 v (by omega) cv
      left; omega
theorem MatchI.keep {ts : List TaskV} {n : Int} {h : Hist} {t k : Nat} {b s : Int} (a : MatchI ts n h t k b s) (hc : ¬ (arrU ts h k < s ∧ Cand ts n h t k)) : MatchI ts n h t (k + 1) b s := by
  rcases a with ⟨a1, a2, a3⟩ | ⟨m, a1, a2, a3, a4, a5⟩
  · refine .inl ⟨a1, a2, fun v hv cv => ?_⟩
    by_cases e : v = k
    · subst e; exact hc ⟨by have := cand_arr cv; omega, cv⟩
    · exact a3 v (by omega) cv
  · refine .inr ⟨m, a1, by omega, a3, a4, fun v hv cv => ?_⟩
    by_cases e : v = k
    · subst e
      have : ¬ arrU ts h v < s := fun hx => hc ⟨hx, cv⟩
      by_cases e2 : arrU ts h m = arrU ts h v
      · right; exact ⟨e2, by omega⟩
      · left; omega
    · exact a5 v (by omega) cv
theorem MatchI.done {ts : List TaskV} {n : Int} {h : Hist} {t : Nat} {b s : Int} (a : MatchI ts n h t (nU h) b s) : ∃ u : Nat, b = u ∧ IsMatch ts n h t u := by
  rcases a with ⟨a1, _, a3⟩ | ⟨m, a1, a2, a3, _, a5⟩
  · exact ⟨nU h, a1, .inr ⟨rfl, fun v cv => a3 v cv.1 cv⟩⟩
  · exact ⟨m, a1, .inl ⟨a3, fun v cv => a5 v cv.1 cv⟩⟩
theorem MatchI.range {ts : List TaskV} {n : Int} {h : Hist} {t k : Nat} {b s : Int} (a : MatchI ts n h t k b s) (hk : k ≤ nU h) : 0 ≤ b ∧ b ≤ nU h ∧ s ≤ 100001 := by
  rcases a with ⟨a1, a2, _⟩ | ⟨m, a1, a2, a3, a4, _⟩
  · omega
  · have := cand_arr a3; omega
/-- What the model's search holds behind the first k units. -/
def MatchS (ts : List TaskV) (n : Int) (h : Hist) (t k : Nat) (b : Int) : Prop :=
  (b = -1 ∧ ∀ v, v < k → ¬ Cand ts n h t v) ∨ ∃ m : Nat, b = m ∧ m < k ∧ Cand ts n h t m ∧ ∀ v, v < k → Cand ts n h t v → arrU ts h m < arrU ts h v ∨ (arrU ts h m = arrU ts h v ∧ m ≤ v)
theorem MatchS.start (ts : List TaskV) (n : Int) (h : Hist) (t : Nat) : MatchS ts n h t 0 (-1) := .inl ⟨rfl, fun v hv => by omega⟩
theorem MatchS.skip {ts : List TaskV} {n : Int} {h : Hist} {t k : Nat} {b : Int} (a : MatchS ts n h t k b) (hc : ¬ Cand ts n h t k) : MatchS ts n h t (k + 1) b := by
  rcases a with ⟨a1, a3⟩ | ⟨m, a1, a2, a3, a5⟩
  · refine .inl ⟨a1, fun v hv cv => ?_⟩
    by_cases e : v = k
    · subst e; exact hc cv
    · exact a3 v (by omega) cv
  · refine .inr ⟨m, a1, by omega, a3, fun v hv cv => ?_⟩
    by_cases e : v = k
    · subst e; exact absurd cv hc
    · exact a5 v (by omega) cv
theorem MatchS.first {ts : List TaskV} {n : Int} {h : Hist} {t k : Nat} (a : MatchS ts n h t k (-1)) (hc : Cand ts n h t k) : MatchS ts n h t (k + 1) k := by
  rcases a with ⟨_, a3⟩ | ⟨m, a1, _⟩
  · refine .inr ⟨k, rfl, by omega, hc, fun v hv cv => ?_⟩
    by_cases e : v = k
    · subst e; exact .inr ⟨rfl, Nat.le_refl _⟩
    · exact absurd cv (a3 v (by omega))
  · omega
theorem MatchS.less {ts : List TaskV} {n : Int} {h : Hist} {t k m : Nat} (a : MatchS ts n h t k (m : Int)) (hc : Cand ts n h t k) (hl : arrU ts h k < arrU ts h m) : MatchS ts n h t (k + 1) k := by
  rcases a with ⟨a1, _⟩ | ⟨m', a1, a2, a3, a5⟩
  · omega
  · obtain rfl : m = m' := by omega
    refine .inr ⟨k, rfl, by omega, hc, fun v hv cv => ?_⟩
    by_cases e : v = k
    · subst e; exact .inr ⟨rfl, Nat.le_refl _⟩
    · have := a5 v (by omega) cv; omega
theorem MatchS.more {ts : List TaskV} {n : Int} {h : Hist} {t k m : Nat} (a : MatchS ts n h t k (m : Int)) (hl : ¬ arrU ts h k < arrU ts h m) : MatchS ts n h t (k + 1) m := by
  rcases a with ⟨a1, _⟩ | ⟨m', a1, a2, a3, a5⟩
  · omega
  · obtain rfl : m = m' := by omega
    refine .inr ⟨m, rfl, by omega, a3, fun v hv cv => ?_⟩
    by_cases e : v = k
    · subst e; omega
    · exact a5 v (by omega) cv
theorem MatchS.done {ts : List TaskV} {n : Int} {h : Hist} {t : Nat} {b : Int} (a : MatchS ts n h t (nU h) b) : (b = -1 ∧ IsMatch ts n h t (nU h)) ∨ ∃ u : Nat, b = u ∧ u < nU h ∧ IsMatch ts n h t u := by
  rcases a with ⟨a1, a3⟩ | ⟨m, a1, a2, a3, a5⟩
  · exact .inl ⟨a1, .inr ⟨rfl, fun v cv => a3 v cv.1 cv⟩⟩
  · exact .inr ⟨m, a1, a2, .inl ⟨a3, fun v cv => a5 v cv.1 cv⟩⟩
theorem MatchS.range {ts : List TaskV} {n : Int} {h : Hist} {t k : Nat} {b : Int} (a : MatchS ts n h t k b) : -1 ≤ b ∧ b < k := by
  rcases a with ⟨a1, _⟩ | ⟨m, a1, a2, _⟩ <;> omega
/-- The last task of each unit. -/
def lastsL (h : Hist) : List Int := (List.range (nU h)).map (fun u => (lastU h u : Int))
theorem lastsL_len (h : Hist) : (lastsL h).length = nU h := by simp [lastsL]
theorem lastsL_get (h : Hist) {u : Nat} (hu : u < nU h) : (lastsL h).getD u 0 = (lastU h u : Int) := by simp [lastsL, List.getD, hu]
theorem lastU_snoc (h : Hist) (t u v : Nat) : lastU (h ++ [(t, u)]) v = if u = v then t else lastU h v := by
  unfold lastU
  rw [runU_snoc]
  by_cases e : u = v
  · simp [e, List.getLastD_eq_getLast?]
  · simp [e]
theorem lastsL_old (h : Hist) (t u : Nat) (hu : u < nU h) : (lastsL h).set u (t : Int) = lastsL (h ++ [(t, u)]) := by
  apply List.ext_getElem
  · simp [lastsL, nU_snoc]; omega
  · intro i h1 h2
    rw [List.getElem_set]
    simp only [lastsL, List.getElem_map, List.getElem_range]
    rw [lastU_snoc]
    by_cases e : u = i <;> simp [e]
theorem lastsL_new (h : Hist) (t : Nat) : lastsL h ++ [(t : Int)] = lastsL (h ++ [(t, nU h)]) := by
  apply List.ext_getElem
  · simp only [lastsL, nU_snoc, List.length_append, List.length_map, List.length_range, List.length_singleton]; omega
  · intro i h1 h2
    have hi : i < nU h + 1 := by simpa [lastsL] using h1
    rw [List.getElem_append]
    simp only [lastsL, List.getElem_map, List.getElem_range, List.length_map, List.length_range]
    rw [lastU_snoc]
    by_cases e : i < nU h
    · simp [e, show ¬ nU h = i by omega]
    · simp [show i = nU h by omega]

/-! What is told of a unit's tasks. -/
def kmOf (ts : List TaskV) (ps : List Nat) : Int := (ps.map (fun p => (tkA ts p).p)).sum
theorem kmOf_snoc (ts : List TaskV) (ps : List Nat) (p : Nat) : kmOf ts (ps ++ [p]) = kmOf ts ps + (tkA ts p).p := by simp [kmOf]
theorem kmOf_cons (ts : List TaskV) (ps : List Nat) (p : Nat) : kmOf ts (p :: ps) = (tkA ts p).p + kmOf ts ps := by simp [kmOf]
theorem kmOf_bound {ts : List TaskV} {ps : List Nat} (h : ∀ p ∈ ps, taskB (tkA ts p) = true) : 0 ≤ kmOf ts ps ∧ kmOf ts ps ≤ 2000 * ps.length := by
  induction ps with
  | nil => simp [kmOf]
  | cons p ps ih =>
    have h1 := taskB_iff.1 (h p (by simp))
    have h2 := ih (fun q hq => h q (by simp [hq]))
    rw [kmOf_cons, List.length_cons]
    omega
def dueOf (ts : List TaskV) (lim : Int) : Int → List Nat → Int
  | _, [] => -1
  | s, p :: ps => if lim < s + (tkA ts p).p then (p : Int) else dueOf ts lim (s + (tkA ts p).p) ps
theorem dueOf_range (ts : List TaskV) (lim : Int) (ps : List Nat) : ∀ s, -1 ≤ dueOf ts lim s ps ∧ (dueOf ts lim s ps = -1 ∨ ∃ p ∈ ps, dueOf ts lim s ps = p) := by
  induction ps with
  | nil => intro s; exact ⟨by simp [dueOf], .inl rfl⟩
  | cons p ps ih =>
    intro s
    rw [dueOf]
    split
    · exact ⟨by omega, .inr ⟨p, by simp, rfl⟩⟩
    · obtain ⟨h1, h2⟩ := ih (s + (tkA ts p).p)
      refine ⟨h1, ?_⟩
      rcases h2 with h2 | ⟨q, hq, h2⟩
      · exact .inl h2
      · exact .inr ⟨q, by simp [hq], h2⟩
theorem dueOf_snoc (ts : List TaskV) (lim : Int) (ps : List Nat) (p : Nat) : ∀ s, dueOf ts lim s (ps ++ [p]) = if dueOf ts lim s ps < 0 then (if lim < s + kmOf ts ps + (tkA ts p).p then (p : Int) else -1) else dueOf ts lim s ps := by
  induction ps with
  | nil => intro s; simp [dueOf, kmOf]
  | cons q ps ih =>
    intro s
    rw [List.cons_append, dueOf, dueOf]
    split
    · rw [if_neg (by omega)]
    · rw [ih, kmOf_cons]
      have : s + (tkA ts q).p + kmOf ts ps + (tkA ts p).p = s + ((tkA ts q).p + kmOf ts ps) + (tkA ts p).p := by omega
      rw [this]
def nightOf (ts : List TaskV) (ps : List Nat) : Int := (tkA ts (ps.getLastD 0)).d
theorem nightOf_snoc (ts : List TaskV) (ps : List Nat) (p : Nat) : nightOf ts (ps ++ [p]) = (tkA ts p).d := by simp [nightOf, List.getLastD_eq_getLast?]
/-- What is told of each unit of Chains. -/
def UnA (ts : List TaskV) (n : Int) (tell : List Nat → Int) (zs : List Int) : Prop :=
  ((tasksB ts && turnB n) = false ∧ zs = []) ∨ ((tasksB ts && turnB n) = true ∧ ∃ os h, Ord ts os ∧ Chn ts n os h ∧ zs = (List.range (nU h)).map (fun u => tell (runU h u)))
theorem UnA.uniq {ts : List TaskV} {n : Int} {tell : List Nat → Int} {a b : List Int} (h : UnA ts n tell a) (g : UnA ts n tell b) : a = b := by
  rcases h with ⟨h1, h2⟩ | ⟨h1, os, hh, h2, h3, h4⟩ <;> rcases g with ⟨g1, g2⟩ | ⟨g1, os', hh', g2, g3, g4⟩
  · rw [h2, g2]
  · rw [h1] at g1; cases g1
  · rw [h1] at g1; cases g1
  · have e := h2.uniq g2
    subst e
    rw [h4, g4, h3.uniq g3]

/-! The model reads the units off the answer of Chains. -/
theorem nU_last {h : Hist} (h0 : nU h ≠ 0) : ∃ t, (t, nU h - 1) ∈ h := by
  induction h using snoc_ind with
  | h0 => simp [nU] at h0
  | h1 h x ih =>
    obtain ⟨t, u⟩ := x
    rw [nU_snoc] at h0 ⊢
    by_cases hu : nU h ≤ u + 1
    · exact ⟨t, by rw [show max (nU h) (u + 1) - 1 = u by omega]; simp⟩
    · obtain ⟨t', ht'⟩ := ih (by omega)
      exact ⟨t', by rw [show max (nU h) (u + 1) = nU h by omega]; exact List.mem_append.2 (.inl ht')⟩
def cntU (zs : List Int) : Int := zs.foldl (fun n z => if n ≤ z then z + 1 else n) 0
theorem cntU_snoc (zs : List Int) (z : Int) : cntU (zs ++ [z]) = if cntU zs ≤ z then z + 1 else cntU zs := by
  unfold cntU
  rw [List.foldl_append]; rfl
theorem cntU_props (zs : List Int) : 0 ≤ cntU zs ∧ (∀ z ∈ zs, z < cntU zs) ∧ (cntU zs = 0 ∨ cntU zs - 1 ∈ zs) := by
  induction zs using snoc_ind with
  | h0 => simp [cntU]
  | h1 zs z ih =>
    obtain ⟨a, b, c⟩ := ih
    rw [cntU_snoc]
    split
    · refine ⟨by omega, fun y hy => ?_, .inr ?_⟩
      · rcases List.mem_append.1 hy with hy | hy
        · have := b y hy; omega
        · simp at hy; omega
      · rw [show z + 1 - 1 = z by omega]; simp
    · refine ⟨a, fun y hy => ?_, ?_⟩
      · rcases List.mem_append.1 hy with hy | hy
        · exact b y hy
        · simp at hy; omega
      · rcases c with c | c
        · exact .inl c
        · exact .inr (List.mem_append.2 (.inl c))
/-- All is dealt: the places of h are just those below n, each once. -/
structure Dealt (h : Hist) (n : Nat) : Prop where
  nodup : (h.map (·.1)).Nodup
  all : ∀ t, t ∈ h.map (·.1) ↔ t < n
theorem Dealt.of {ts : List TaskV} {n : Int} {os : List Nat} {h : Hist} (o : Ord ts os) (c : Chn ts n os h) : Dealt h ts.length := by
  refine ⟨?_, fun t => ?_⟩
  · rw [c.places]; exact o.nodup
  · rw [c.places]; exact o.2 t
theorem Dealt.get {h : Hist} {n : Nat} (D : Dealt h n) {t : Nat} (ht : t < n) : ∃ u, (t, u) ∈ h ∧ ∀ d, unitD h d t = u := by
  have := (D.all t).2 ht
  rw [List.mem_map] at this
  obtain ⟨⟨t', u⟩, hx, rfl⟩ := this
  exact ⟨u, hx, fun d => unitD_mem D.nodup hx d⟩
theorem Dealt.cnt {h : Hist} {n : Nat} (D : Dealt h n) : cntU (uL h 0 n) = nU h := by
  obtain ⟨a, b, c⟩ := cntU_props (uL h 0 n)
  have mem : ∀ z, z ∈ uL h 0 n ↔ ∃ t u, (t, u) ∈ h ∧ z = (u : Int) := by
    intro z
    unfold uL
    rw [List.mem_map]
    constructor
    · rintro ⟨t, ht, rfl⟩
      obtain ⟨u, hu, e⟩ := D.get (List.mem_range.1 ht)
      exact ⟨t, u, hu, e 0⟩
    · rintro ⟨t, u, hu, rfl⟩
      exact ⟨t, List.mem_range.2 ((D.all t).1 (List.mem_map.2 ⟨_, hu, rfl⟩)), unitD_mem D.nodup hu 0⟩
  have h1 : (nU h : Int) ≤ cntU (uL h 0 n) := by
    by_cases h0 : nU h = 0
    · omega
    · obtain ⟨t, ht⟩ := nU_last h0
      have := b _ ((mem _).2 ⟨t, _, ht, rfl⟩)
      omega
  rcases c with c | c
  · omega
  · obtain ⟨t, u, hu, e⟩ := (mem _).1 c
    have := unit_lt hu
    omega
def sumTo (f : Nat → Int) : Nat → Int
  | 0 => 0
  | k + 1 => sumTo f k + f k
theorem sumTo_congr {f g : Nat → Int} {n : Nat} (h : ∀ i, i < n → f i = g i) : sumTo f n = sumTo g n := by
  induction n with
  | zero => rfl
  | succ n ih => rw [sumTo, sumTo, ih (fun i hi => h i (by omega)), h n (by omega)]
theorem sumTo_one {f g : Nat → Int} {n t : Nat} (ht : t < n) (h : ∀ i, i ≠ t → f i = g i) : sumTo f n = sumTo g n + (f t - g t) := by
  induction n with
  | zero => omega
  | succ n ih =>
    rw [sumTo, sumTo]
    by_cases e : t = n
    · subst e
      rw [sumTo_congr (fun i hi => h i (by omega))]; omega
    · rw [ih (by omega), h n (by omega)]; omega
theorem sumTo_zero {f : Nat → Int} {n : Nat} (h : ∀ i, i < n → f i = 0) : sumTo f n = 0 := by
  induction n with
  | zero => rfl
  | succ n ih => rw [sumTo, ih (fun i hi => h i (by omega)), h n (by omega)]; rfl
def kmIf (ts : List TaskV) (h : Hist) (d : Int) (u : Nat) (i : Nat) : Int := if unitD h d i = u then (tkA ts i).p else 0
theorem sum_run (ts : List TaskV) (n u : Nat) : ∀ h : Hist, (h.map (·.1)).Nodup → (∀ t ∈ h.map (·.1), t < n) → sumTo (kmIf ts h (-1) u) n = kmOf ts (runU h u) := by
  intro h
  induction h using snoc_ind with
  | h0 => intro _ _; rw [sumTo_zero (fun i _ => by unfold kmIf; rw [if_neg (by show ¬ (-1 : Int) = u; omega)])]; rfl
  | h1 h x ih =>
    obtain ⟨t, v⟩ := x
    intro hn hb
    rw [List.map_append, List.nodup_append] at hn
    obtain ⟨n1, _, n3⟩ := hn
    have ht : t ∉ h.map (·.1) := fun hx => n3 t hx t (by simp) rfl
    have htn : t < n := hb t (by simp)
    have ih := ih n1 (fun s hs => hb s (by rw [List.map_append]; exact List.mem_append.2 (.inl hs)))
    have ho : unitD h (-1) t = -1 := by
      unfold unitD
      have : h.find? (fun x => x.1 == t) = none := by
        rw [List.find?_eq_none]
        intro x hx hxt
        exact ht (List.mem_map.2 ⟨x, hx, by simpa using hxt⟩)
      simp [this]
    rw [sumTo_one (f := kmIf ts (h ++ [(t, v)]) (-1) u) (g := kmIf ts h (-1) u) htn (fun i hi => by unfold kmIf; rw [unitD_snoc h _ t v i ht, if_neg (Ne.symm hi)]), ih, runU_snoc]
    unfold kmIf
    rw [unitD_snoc h _ t v t ht, if_pos rfl, ho]
    by_cases e : v = u
    · subst e
      rw [if_pos rfl, if_pos rfl, if_neg (by omega), kmOf_snoc]; omega
    · rw [if_neg e, if_neg (by omega), if_neg (by omega)]; omega
theorem Dealt.sum {h : Hist} {n : Nat} (D : Dealt h n) (ts : List TaskV) (u : Nat) : sumTo (kmIf ts h 0 u) n = kmOf ts (runU h u) := by
  rw [← sum_run ts n u h D.nodup (fun t ht => (D.all t).1 ht)]
  refine sumTo_congr (fun i hi => ?_)
  obtain ⟨v, _, e⟩ := D.get hi
  unfold kmIf
  rw [e 0, e (-1)]
/-- The tasks of a unit, picked out of the order by the units told. -/
def pick (zs : List Int) (u : Nat) (os : List Nat) : List Nat := os.filter (fun o => zs.getD o 0 == (u : Int))
theorem pick_snoc (zs : List Int) (u : Nat) (os : List Nat) (o : Nat) : pick zs u (os ++ [o]) = if zs.getD o 0 = (u : Int) then pick zs u os ++ [o] else pick zs u os := by
  unfold pick
  rw [List.filter_append]
  by_cases e : zs.getD o 0 = (u : Int)
  · rw [if_pos e, List.filter_cons_of_pos (by simpa using e)]; rfl
  · rw [if_neg e, List.filter_cons_of_neg (by simpa using e)]; simp
theorem Dealt.pick {h : Hist} {n : Nat} (D : Dealt h n) (u : Nat) : pick (uL h 0 n) u (h.map (·.1)) = runU h u := by
  unfold Go.Proofs.Ytbnhkkaiohmllaa.pick runU
  rw [List.filter_map]
  congr 1
  refine List.filter_congr (fun x hx => ?_)
  obtain ⟨t, v⟩ := x
  have ht : t < n := (D.all t).1 (List.mem_map.2 ⟨_, hx, rfl⟩)
  simp only [Function.comp]
  rw [uL_get h 0 ht, unitD_mem D.nodup hx 0, Bool.eq_iff_iff]
  simp
  omega

/-! Links. -/
def linkB (ts : List TaskV) (n : Int) : List Nat → Bool
  | [] => true
  | [_] => true
  | a :: b :: r => folB (tkA ts a) (tkA ts b) n && linkB ts n (b :: r)
theorem linkB_snoc (ts : List TaskV) (n : Int) (t : Nat) : ∀ ps : List Nat, linkB ts n (ps ++ [t]) = (linkB ts n ps && (ps.isEmpty || folB (tkA ts (ps.getLastD 0)) (tkA ts t) n))
  | [] => by simp [linkB]
  | [a] => by simp [linkB]
  | a :: b :: r => by
    have ih := linkB_snoc ts n t (b :: r)
    simp only [List.cons_append] at ih ⊢
    rw [linkB, ih, linkB]
    simp [Bool.and_assoc]
/-- The units told, as what was dealt. -/
def hOf (us : List Int) (os : List Nat) : Hist := os.map (fun p => (p, (us.getD p 0).toNat))
theorem hOf_snoc (us : List Int) (os : List Nat) (p : Nat) : hOf us (os ++ [p]) = hOf us os ++ [(p, (us.getD p 0).toNat)] := by simp [hOf]
def AllLink (ts : List TaskV) (n : Int) (h : Hist) : Prop := ∀ u, linkB ts n (runU h u) = true
theorem AllLink.snoc {ts : List TaskV} {n : Int} {h : Hist} {t u : Nat} : AllLink ts n (h ++ [(t, u)]) ↔ AllLink ts n h ∧ (runU h u = [] ∨ folB (tkA ts (lastU h u)) (tkA ts t) n = true) := by
  unfold AllLink
  constructor
  · intro a
    have hu := a u
    rw [runU_snoc, if_pos rfl, linkB_snoc, Bool.and_eq_true] at hu
    refine ⟨fun v => ?_, ?_⟩
    · by_cases e : u = v
      · subst e; exact hu.1
      · have := a v; rwa [runU_snoc, if_neg e] at this
    · rcases Bool.or_eq_true _ _ ▸ hu.2 with h2 | h2
      · exact .inl (by simpa using h2)
      · exact .inr h2
  · rintro ⟨a, b⟩ v
    rw [runU_snoc]
    by_cases e : u = v
    · subst e
      rw [if_pos rfl, linkB_snoc, a u, Bool.true_and]
      rcases b with b | b
      · simp [b]
      · unfold lastU at b; rw [b]; simp
    · rw [if_neg e]; exact a v
theorem AllLink.nil (ts : List TaskV) (n : Int) : AllLink ts n [] := fun _ => rfl
/-- What ChainOk says. -/
def ChOk (ts : List TaskV) (n : Int) (us : List Int) : Prop := (tasksB ts && turnB n) = true ∧ us.length = ts.length ∧ (us.all (fun z => inB z 0 39)) = true ∧ ∃ os, Ord ts os ∧ AllLink ts n (hOf us os)
end Go.Proofs.Ytbnhkkaiohmllaa
