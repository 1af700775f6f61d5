/- Journeys: what leads where, and the least minute at each node; the rounds of the model. -/
import Derived.Test.YtajeiiebddnchaaGreatDoorR
namespace Go.Proofs.YtajeiiebddnchaaGreatDoor
open Go.RowKit
theorem trip_partsJ {t : TripV} (h : tripB t = true) : nameB t.name = true ∧ 2 ≤ t.calls.length ∧ t.calls.length ≤ 12 ∧ t.calls.all callB = true ∧ chainB t.calls = true := by
  simp only [tripB, Bool.and_eq_true] at h
  obtain ⟨⟨⟨h1, h2⟩, h3⟩, h4⟩ := h
  have := inB_true h2
  exact ⟨h1, by omega, by omega, h3, h4⟩
theorem call_atJ {cs : List HaltV} (h : cs.all callB = true) {k : Nat} (hk : k < cs.length) : callB (cs.getD k HaltV.zero) = true := by
  have e : cs.getD k HaltV.zero = cs[k] := by simp [List.getD, hk]
  rw [e]; exact List.all_eq_true.1 h _ (List.getElem_mem hk)
theorem call_partsJ {c : HaltV} (h : callB c = true) : (0 ≤ c.n ∧ c.n ≤ 29) ∧ (0 ≤ c.a ∧ c.a ≤ c.d) ∧ c.d ≤ 100000 := by
  simp only [callB, Bool.and_eq_true] at h
  have h1 := inB_true h.1.1
  have h2 := inB_true h.1.2
  have h3 := inB_true h.2
  exact ⟨h1, h3, h2.2⟩
theorem chain_atJ : ∀ (cs : List HaltV), chainB cs = true → ∀ i, i + 1 < cs.length → stepB (cs.getD i HaltV.zero) (cs.getD (i + 1) HaltV.zero) = true
  | [], _, i, hi => by simp at hi
  | [_], _, i, hi => by simp at hi
  | p :: q :: r, h, i, hi => by
    simp only [chainB, Bool.and_eq_true] at h
    cases i with
    | zero => exact h.1
    | succ i => exact chain_atJ (q :: r) h.2 i (by simpa using hi)
theorem chain_upJ {cs : List HaltV} (hall : cs.all callB = true) (hch : chainB cs = true) (k : Nat) : ∀ j, k + 1 + j < cs.length → (cs.getD k HaltV.zero).d < (cs.getD (k + 1 + j) HaltV.zero).a := by
  intro j
  have hst : ∀ i, i + 1 < cs.length → (cs.getD i HaltV.zero).d < (cs.getD (i + 1) HaltV.zero).a := fun i hi => by
    have := chain_atJ cs hch i hi
    simp only [stepB, Bool.and_eq_true, decide_eq_true_eq] at this
    exact this.1
  induction j with
  | zero => intro hj; exact hst k hj
  | succ j ih =>
    intro hj
    have h1 := ih (by omega)
    have h2 := (call_partsJ (call_atJ hall (k := k + 1 + j) (by omega))).2.1.2
    have h3 := hst (k + 1 + j) (by omega)
    have e : k + 1 + (j + 1) = k + 1 + j + 1 := by omega
    rw [e]
    omega
/-- A node and a minute. -/
structure Qn where
  n : Int
  m : Int
  deriving DecidableEq
def hcA (ts : List TripV) (i k : Nat) : HaltV := (ts.getD i TripV.zero).calls.getD k HaltV.zero
def ncA (ts : List TripV) (i : Nat) : Nat := (ts.getD i TripV.zero).calls.length
/-- A leg: a trip, a call of it, and a later one. -/
def LegIn (ts : List TripV) (i k l : Nat) : Prop := i < ts.length ∧ k < l ∧ l < ncA ts i
/-- What a timetable gives: times rise along a trip, and lie in their bounds. -/
structure Gd (ts : List TripV) : Prop where
  few : ts.length ≤ 24
  len : ∀ i, i < ts.length → 2 ≤ ncA ts i ∧ ncA ts i ≤ 12
  rise : ∀ i k l, LegIn ts i k l → (hcA ts i k).d < (hcA ts i l).a
  rng : ∀ i k, i < ts.length → k < ncA ts i → (0 ≤ (hcA ts i k).n ∧ (hcA ts i k).n ≤ 29) ∧ 0 ≤ (hcA ts i k).a ∧ (hcA ts i k).a ≤ (hcA ts i k).d ∧ (hcA ts i k).d ≤ 100000
/-- One leg leads from a node, left at r or later, to q. -/
def Nxt (ts : List TripV) (r n : Int) (q : Qn) : Prop := ∃ i k l, LegIn ts i k l ∧ (hcA ts i k).n = n ∧ r ≤ (hcA ts i k).d ∧ (hcA ts i l).n = q.n ∧ (hcA ts i l).a = q.m
/-- From when on one can go on. -/
def rdy (s : Qn) (ch : Int) (q : Qn) : Int := if q = s then q.m else q.m + ch
/-- A journey of at most h legs leads from s to q. -/
def Jr (ts : List TripV) (s : Qn) (ch : Int) : Nat → Qn → Prop
  | 0, q => q = s
  | h + 1, q => Jr ts s ch h q ∨ ∃ p, Jr ts s ch h p ∧ Nxt ts (rdy s ch p) p.n q
theorem Jr.more {ts : List TripV} {s : Qn} {ch : Int} {h h' : Nat} {q : Qn} (hj : Jr ts s ch h q) (hh : h ≤ h') : Jr ts s ch h' q := by
  induction hh with
  | refl => exact hj
  | step _ ih => exact .inl ih
theorem Jr.start {ts : List TripV} {s : Qn} {ch : Int} (h : Nat) : Jr ts s ch h s := Jr.more (h := 0) rfl (Nat.zero_le _)
theorem rdy_ge {s : Qn} {ch : Int} (hc : 0 ≤ ch) (q : Qn) : q.m ≤ rdy s ch q := by
  unfold rdy; split <;> omega
theorem Jr.late {ts : List TripV} {s : Qn} {ch : Int} (hg : Gd ts) (hc : 0 ≤ ch) {h : Nat} : ∀ {q : Qn}, Jr ts s ch h q → q = s ∨ s.m < q.m := by
  induction h with
  | zero => intro q hq; exact .inl hq
  | succ h ih =>
    intro q hq
    rcases hq with hq | ⟨p, hp, i, k, l, hl, h1, h2, h3, h4⟩
    · exact ih hq
    · have hr := hg.rise i k l hl
      have hy := rdy_ge (s := s) hc p
      rcases ih hp with rfl | hp
      · exact .inr (by omega)
      · exact .inr (by omega)
theorem Jr.ge {ts : List TripV} {s : Qn} {ch : Int} (hg : Gd ts) (hc : 0 ≤ ch) {h : Nat} {q : Qn} (hq : Jr ts s ch h q) : s.m ≤ q.m := by
  rcases hq.late hg hc with rfl | h <;> omega
theorem Jr.most {ts : List TripV} {s : Qn} {ch : Int} (hg : Gd ts) {h : Nat} : ∀ {q : Qn}, Jr ts s ch h q → q = s ∨ (0 ≤ q.n ∧ q.n ≤ 29 ∧ 0 ≤ q.m ∧ q.m ≤ 100000) := by
  induction h with
  | zero => intro q hq; exact .inl hq
  | succ h ih =>
    intro q hq
    rcases hq with hq | ⟨p, hp, i, k, l, hl, h1, h2, h3, h4⟩
    · exact ih hq
    · have := hg.rng i l hl.1 hl.2.2
      exact .inr (by omega)
/-- The least of those for which P holds; -1 where there is none. -/
def IsMin (P : Int → Prop) (r : Int) : Prop := (r = -1 ∧ ∀ m, ¬ P m) ∨ (P r ∧ ∀ m, P m → r ≤ m)
theorem IsMin.uniq {P : Int → Prop} {r r' : Int} (h : IsMin P r) (h' : IsMin P r') : r = r' := by
  rcases h with ⟨h1, h2⟩ | ⟨h1, h2⟩ <;> rcases h' with ⟨g1, g2⟩ | ⟨g1, g2⟩
  · omega
  · exact absurd g1 (h2 _)
  · exact absurd h1 (g2 _)
  · have := h2 _ g1; have := g2 _ h1; omega
theorem IsMin.congr {P P' : Int → Prop} {r : Int} (h : IsMin P r) (hp : ∀ m, P m ↔ P' m) : IsMin P' r := by
  rcases h with ⟨h1, h2⟩ | ⟨h1, h2⟩
  · exact .inl ⟨h1, fun m hm => h2 m ((hp m).2 hm)⟩
  · exact .inr ⟨(hp r).1 h1, fun m hm => h2 m ((hp m).2 hm)⟩
theorem IsMin.add {P : Int → Prop} {r x : Int} (h : IsMin P r) (h0 : ∀ m, P m → 0 ≤ m) : IsMin (fun m => P m ∨ m = x) (if r < 0 ∨ x < r then x else r) := by
  rcases h with ⟨h1, h2⟩ | ⟨h1, h2⟩
  · rw [if_pos (.inl (by omega))]
    refine .inr ⟨.inr rfl, fun m hm => ?_⟩
    rcases hm with hm | rfl
    · exact absurd hm (h2 m)
    · omega
  · have := h0 _ h1
    split
    · refine .inr ⟨.inr rfl, fun m hm => ?_⟩
      rcases hm with hm | rfl
      · have := h2 m hm; omega
      · omega
    · refine .inr ⟨.inl h1, fun m hm => ?_⟩
      rcases hm with hm | rfl
      · exact h2 m hm
      · omega
/-- Thirty nodes, each with its least. -/
def Mins (P : Int → Int → Prop) (L : List Int) : Prop := L.length = 30 ∧ ∀ n : Nat, n < 30 → IsMin (P n) (L.getD n 0)
theorem Mins.congr {P P' : Int → Int → Prop} {L : List Int} (h : Mins P L) (hp : ∀ n m, P n m ↔ P' n m) : Mins P' L := ⟨h.1, fun n hn => (h.2 n hn).congr (hp n)⟩
theorem getD_set_same {α : Type} {L : List α} {j : Nat} {x d : α} (h : j < L.length) : (L.set j x).getD j d = x := by simp [List.getD, h]
theorem getD_set_other {α : Type} {L : List α} {j k : Nat} {x d : α} (h : j ≠ k) : (L.set j x).getD k d = L.getD k d := by simp [List.getD, List.getElem?_set_ne h]
theorem Mins.set {P : Int → Int → Prop} {L : List Int} {j : Nat} {x : Int} (h : Mins P L) (h0 : ∀ n m, P n m → 0 ≤ m) (hj : j < 30) (hx : L.getD j 0 < 0 ∨ x < L.getD j 0) : Mins (fun n m => P n m ∨ (n = j ∧ m = x)) (L.set j x) := by
  refine ⟨by simp [h.1], fun n hn => ?_⟩
  by_cases e : j = n
  · subst e
    have g := (h.2 j hj).add (x := x) (h0 j)
    rw [if_pos hx] at g
    rw [getD_set_same (by rw [h.1]; exact hj)]
    exact g.congr (fun m => by simp)
  · rw [getD_set_other e]
    exact (h.2 n hn).congr (fun m => Iff.intro .inl (fun g => g.elim id (fun g => absurd g.1 (by omega))))
theorem Mins.keep {P : Int → Int → Prop} {L : List Int} {j : Nat} {x : Int} (h : Mins P L) (h0 : ∀ n m, P n m → 0 ≤ m) (hj : j < 30) (hx : ¬ (L.getD j 0 < 0 ∨ x < L.getD j 0)) : Mins (fun n m => P n m ∨ (n = j ∧ m = x)) L := by
  refine ⟨h.1, fun n hn => ?_⟩
  by_cases e : j = n
  · subst e
    have g := (h.2 j hj).add (x := x) (h0 j)
    rw [if_neg hx] at g
    exact g.congr (fun m => by simp)
  · exact (h.2 n hn).congr (fun m => Iff.intro .inl (fun g => g.elim id (fun g => absurd g.1 (by omega))))
def reachP (ts : List TripV) (s : Qn) (ch : Int) (h : Nat) : Int → Int → Prop := fun n m => Jr ts s ch h ⟨n, m⟩
def atA (L : List Int) (n : Int) : Int := L.getD n.toNat 0
def waitA (s : Qn) (ch n : Int) : Int := if n = s.n then 0 else ch
/-- A leg that can be taken from where one is at the soonest. -/
def Can (ts : List TripV) (s : Qn) (ch : Int) (A : List Int) (i k : Nat) : Prop := 0 ≤ atA A (hcA ts i k).n ∧ atA A (hcA ts i k).n + waitA s ch (hcA ts i k).n ≤ (hcA ts i k).d
theorem jr_step {ts : List TripV} {s : Qn} {ch : Int} {h : Nat} {A : List Int} (hg : Gd ts) (hc : 0 ≤ ch) (hs : 0 ≤ s.m) (hA : Mins (reachP ts s ch h) A) (n m : Int) :
    reachP ts s ch (h + 1) n m ↔ (reachP ts s ch h n m ∨ ∃ i k l, LegIn ts i k l ∧ Can ts s ch A i k ∧ (hcA ts i l).n = n ∧ (hcA ts i l).a = m) := by
  have hmin : ∀ i k l, LegIn ts i k l → IsMin (reachP ts s ch h (hcA ts i k).n) (atA A (hcA ts i k).n) := fun i k l hl => by
    obtain ⟨⟨r1, r2⟩, _⟩ := hg.rng i k hl.1 (Nat.lt_trans hl.2.1 hl.2.2)
    have g := hA.2 (hcA ts i k).n.toNat (by omega)
    have e : (((hcA ts i k).n.toNat : Nat) : Int) = (hcA ts i k).n := by omega
    rw [e] at g
    exact g
  constructor
  · rintro (hj | ⟨p, hp, i, k, l, hl, h1, h2, h3, h4⟩)
    · exact .inl hj
    · refine .inr ⟨i, k, l, hl, ?_, h3, h4⟩
      have g := hmin i k l hl
      rw [h1] at g
      have hp' : reachP ts s ch h p.n p.m := hp
      rcases g with ⟨_, g⟩ | ⟨g1, g2⟩
      · exact absurd hp' (g _)
      · have g3 := g2 _ hp'
        have g4 : s.m ≤ atA A p.n := Jr.ge hg hc g1
        unfold Can
        rw [h1]
        refine ⟨by omega, ?_⟩
        unfold waitA
        by_cases e : p.n = s.n
        · rw [if_pos e]
          have hst : reachP ts s ch h p.n s.m := by
            have : (⟨p.n, s.m⟩ : Qn) = s := by cases s; simp_all
            show Jr ts s ch h ⟨p.n, s.m⟩
            rw [this]; exact Jr.start h
          have := g2 _ hst
          have := rdy_ge (s := s) hc p
          omega
        · rw [if_neg e]
          have : rdy s ch p = p.m + ch := by unfold rdy; rw [if_neg (fun e2 => e (by rw [e2]))]
          omega
  · rintro (hj | ⟨i, k, l, hl, ⟨c1, c2⟩, h3, h4⟩)
    · exact .inl hj
    · rcases hmin i k l hl with ⟨g, _⟩ | ⟨g1, _⟩
      · omega
      · refine .inr ⟨⟨(hcA ts i k).n, atA A (hcA ts i k).n⟩, g1, i, k, l, hl, rfl, ?_, h3, h4⟩
        unfold rdy
        split
        · next e =>
          have : (hcA ts i k).n = s.n := by rw [← e]
          unfold waitA at c2; rw [if_pos this] at c2
          show atA A (hcA ts i k).n ≤ _
          omega
        · next e =>
          unfold waitA at c2
          split at c2
          · next e2 =>
            have : atA A (hcA ts i k).n ≤ (hcA ts i k).d := by omega
            rcases Jr.late hg hc g1 with e3 | h5
            · exact absurd e3 e
            · have hst : reachP ts s ch h (hcA ts i k).n s.m := by
                have : (⟨(hcA ts i k).n, s.m⟩ : Qn) = s := by cases s; simp_all
                show Jr ts s ch h ⟨(hcA ts i k).n, s.m⟩
                rw [this]; exact Jr.start h
              rcases hmin i k l hl with ⟨_, g⟩ | ⟨_, g⟩
              · exact absurd hst (g _)
              · have := g _ hst
                have h6 : s.m < atA A (hcA ts i k).n := h5
                omega
          · show atA A (hcA ts i k).n + ch ≤ _
            omega
/-- What the model has seen of a round: all legs of the trips ahead of i, of the calls ahead of k, to those ahead of l. -/
def Seen (ts : List TripV) (s : Qn) (ch : Int) (h : Nat) (A : List Int) (i k l : Nat) : Int → Int → Prop := fun n m =>
  reachP ts s ch h n m ∨ ∃ i' k' l', LegIn ts i' k' l' ∧ Can ts s ch A i' k' ∧ ((hcA ts i' l').n = n ∧ (hcA ts i' l').a = m) ∧ (i' < i ∨ (i' = i ∧ (k' < k ∨ (k' = k ∧ l' < l))))
theorem Seen.pos {ts : List TripV} {s : Qn} {ch : Int} {h : Nat} {A : List Int} (hg : Gd ts) (hc : 0 ≤ ch) (hs : 0 ≤ s.m) (i k l : Nat) (n m : Int) (hn : Seen ts s ch h A i k l n m) : 0 ≤ m := by
  rcases hn with h1 | ⟨i', k', l', hl, _, ⟨_, h4⟩, _⟩
  · have := Jr.ge hg hc h1; simp only at this; omega
  · have := hg.rng i' l' hl.1 hl.2.2; omega
theorem seen_start {ts : List TripV} {s : Qn} {ch : Int} {h : Nat} {A : List Int} (n m : Int) : reachP ts s ch h n m ↔ Seen ts s ch h A 0 0 1 n m := by
  refine Iff.intro .inl (fun g => ?_)
  rcases g with g | ⟨i', k', l', hl, _, _, h5⟩
  · exact g
  · have := hl.2.1; omega
theorem seen_leg {ts : List TripV} {s : Qn} {ch : Int} {h : Nat} {A : List Int} {i k l : Nat} (hl : LegIn ts i k l) (hc : Can ts s ch A i k) {j : Nat} (hj : (hcA ts i l).n = j) (n m : Int) :
    (Seen ts s ch h A i k l n m ∨ (n = j ∧ m = (hcA ts i l).a)) ↔ Seen ts s ch h A i k (l + 1) n m := by
  constructor
  · rintro ((g | ⟨i', k', l', hl', c, e, h5⟩) | ⟨rfl, rfl⟩)
    · exact .inl g
    · exact .inr ⟨i', k', l', hl', c, e, by omega⟩
    · exact .inr ⟨i, k, l, hl, hc, ⟨hj, rfl⟩, by omega⟩
  · rintro (g | ⟨i', k', l', hl', c, e, h5⟩)
    · exact .inl (.inl g)
    · by_cases e2 : i' = i ∧ k' = k ∧ l' = l
      · obtain ⟨rfl, rfl, rfl⟩ := e2
        exact .inr ⟨by rw [← hj]; exact e.1.symm, e.2.symm⟩
      · exact .inl (.inr ⟨i', k', l', hl', c, e, by omega⟩)
theorem seen_call {ts : List TripV} {s : Qn} {ch : Int} {h : Nat} {A : List Int} {i k : Nat} (n m : Int) :
    Seen ts s ch h A i k (ncA ts i) n m ↔ Seen ts s ch h A i (k + 1) (k + 2) n m := by
  constructor
  · rintro (g | ⟨i', k', l', hl', c, e, h5⟩)
    · exact .inl g
    · exact .inr ⟨i', k', l', hl', c, e, by omega⟩
  · rintro (g | ⟨i', k', l', hl', c, e, h5⟩)
    · exact .inl g
    · refine .inr ⟨i', k', l', hl', c, e, ?_⟩
      have h6 := hl'.2.1
      have h7 := hl'.2.2
      rcases h5 with h5 | ⟨rfl, h5⟩
      · exact .inl h5
      · exact .inr ⟨rfl, by omega⟩
theorem seen_skip {ts : List TripV} {s : Qn} {ch : Int} {h : Nat} {A : List Int} {i k : Nat} (hc : ¬ Can ts s ch A i k) (n m : Int) :
    Seen ts s ch h A i k (k + 1) n m ↔ Seen ts s ch h A i (k + 1) (k + 2) n m := by
  constructor
  · rintro (g | ⟨i', k', l', hl', c, e, h5⟩)
    · exact .inl g
    · exact .inr ⟨i', k', l', hl', c, e, by omega⟩
  · rintro (g | ⟨i', k', l', hl', c, e, h5⟩)
    · exact .inl g
    · have h6 := hl'.2.1
      by_cases e2 : i' = i ∧ k' = k
      · obtain ⟨rfl, rfl⟩ := e2; exact absurd c hc
      · exact .inr ⟨i', k', l', hl', c, e, by omega⟩
theorem seen_trip {ts : List TripV} {s : Qn} {ch : Int} {h : Nat} {A : List Int} {i : Nat} (n m : Int) :
    Seen ts s ch h A i (ncA ts i) (ncA ts i + 1) n m ↔ Seen ts s ch h A (i + 1) 0 1 n m := by
  constructor
  · rintro (g | ⟨i', k', l', hl', c, e, h5⟩)
    · exact .inl g
    · exact .inr ⟨i', k', l', hl', c, e, by omega⟩
  · rintro (g | ⟨i', k', l', hl', c, e, h5⟩)
    · exact .inl g
    · refine .inr ⟨i', k', l', hl', c, e, ?_⟩
      have h6 := hl'.2.1
      have h7 := hl'.2.2
      by_cases e2 : i' = i
      · subst e2; omega
      · omega
theorem seen_all {ts : List TripV} {s : Qn} {ch : Int} {h : Nat} {A : List Int} (hg : Gd ts) (hc : 0 ≤ ch) (hs : 0 ≤ s.m) (hA : Mins (reachP ts s ch h) A) (n m : Int) :
    Seen ts s ch h A ts.length 0 1 n m ↔ reachP ts s ch (h + 1) n m := by
  rw [jr_step hg hc hs hA]
  constructor
  · rintro (g | ⟨i', k', l', hl', c, e, h5⟩)
    · exact .inl g
    · exact .inr ⟨i', k', l', hl', c, e.1, e.2⟩
  · rintro (g | ⟨i', k', l', hl', c, e1, e2⟩)
    · exact .inl g
    · exact .inr ⟨i', k', l', hl', c, ⟨e1, e2⟩, .inl hl'.1⟩
theorem mins_start (ts : List TripV) (s : Qn) (ch : Int) (h0 : 0 ≤ s.n) (h1 : s.n ≤ 29) : Mins (reachP ts s ch 0) ((List.replicate 30 (-1)).set s.n.toNat s.m) := by
  refine ⟨by simp, fun n hn => ?_⟩
  by_cases e : s.n.toNat = n
  · subst e
    rw [getD_set_same (by simp; omega)]
    refine .inr ⟨?_, fun m hm => ?_⟩
    · show (⟨_, _⟩ : Qn) = s
      have : ((s.n.toNat : Nat) : Int) = s.n := by omega
      rw [this]
    · have hm' : (⟨_, m⟩ : Qn) = s := hm
      rw [← hm']; exact Int.le_refl _
  · rw [getD_set_other e]
    refine .inl ⟨by rw [List.getD_eq_getElem?_getD, List.getElem?_replicate, if_pos hn]; rfl, fun m hm => ?_⟩
    have hm' : (⟨n, m⟩ : Qn) = s := hm
    rw [← hm'] at e; simp at e
theorem table_gd {ts : List TripV} (h : Table ts) : Gd ts where
  few := h.1
  len := fun i hi => by obtain ⟨_, h1, h2, _⟩ := trip_partsJ (h.2.1 i hi); exact ⟨h1, h2⟩
  rise := fun i k l hl => by
    obtain ⟨_, _, _, h3, h4⟩ := trip_partsJ (h.2.1 i hl.1)
    obtain ⟨j, rfl⟩ : ∃ j, l = k + 1 + j := ⟨l - (k + 1), by have := hl.2.1; omega⟩
    exact chain_upJ h3 h4 k j hl.2.2
  rng := fun i k hi hk => by
    obtain ⟨_, _, _, h3, _⟩ := trip_partsJ (h.2.1 i hi)
    have := call_partsJ (call_atJ h3 hk)
    exact ⟨this.1, this.2.1.1, this.2.1.2, this.2.2⟩
end Go.Proofs.YtajeiiebddnchaaGreatDoor
