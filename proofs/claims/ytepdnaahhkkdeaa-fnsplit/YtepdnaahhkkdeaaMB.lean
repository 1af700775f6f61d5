/- The mathematics of a split into tickets. -/
import Derived.Test.YtepdnaahhkkdeaaMA
namespace Go.Proofs.Ytepdnaahhkkdeaa
open Go.RowKit
/-- The best first ticket from i among those that end ahead of j: it costs c with what follows, in k tickets, and ends at n. -/
def Fd (p : Nat → Nat → Int) (C K : Nat → Int) (i j : Nat) (c k : Int) (n : Nat) : Prop :=
  i < n ∧ n < j ∧ c = p i n + C n ∧ k = 1 + K n ∧ ∀ m, i < m → m < j → (c < p i m + C m ∨ (c = p i m + C m ∧ (k < 1 + K m ∨ (k = 1 + K m ∧ n ≤ m))))
theorem Fd.first {p : Nat → Nat → Int} {C K : Nat → Int} {i : Nat} : Fd p C K i (i + 1 + 1) (p i (i + 1) + C (i + 1)) (1 + K (i + 1)) (i + 1) := by
  refine ⟨by omega, by omega, rfl, rfl, fun m h1 h2 => ?_⟩
  obtain rfl : m = i + 1 := by omega
  exact .inr ⟨rfl, .inr ⟨rfl, Nat.le_refl _⟩⟩
theorem Fd.take {p : Nat → Nat → Int} {C K : Nat → Int} {i j n : Nat} {c k : Int} (h : Fd p C K i j c k n) (g : p i j + C j < c ∨ (p i j + C j = c ∧ 1 + K j < k)) : Fd p C K i (j + 1) (p i j + C j) (1 + K j) j := by
  obtain ⟨h1, h2, h3, h4, h5⟩ := h
  refine ⟨by omega, by omega, rfl, rfl, fun m hm1 hm2 => ?_⟩
  by_cases e : m = j
  · subst e; exact .inr ⟨rfl, .inr ⟨rfl, Nat.le_refl _⟩⟩
  · have := h5 m hm1 (by omega)
    omega
theorem Fd.keep {p : Nat → Nat → Int} {C K : Nat → Int} {i j n : Nat} {c k : Int} (h : Fd p C K i j c k n) (g : ¬ (p i j + C j < c ∨ (p i j + C j = c ∧ 1 + K j < k))) : Fd p C K i (j + 1) c k n := by
  obtain ⟨h1, h2, h3, h4, h5⟩ := h
  refine ⟨h1, by omega, h3, h4, fun m hm1 hm2 => ?_⟩
  by_cases e : m = j
  · subst e; omega
  · exact h5 m hm1 (by omega)
theorem Fd.congr {p : Nat → Nat → Int} {C K C' K' : Nat → Int} {i j n : Nat} {c k : Int} (h : Fd p C K i j c k n) (g : ∀ m, i < m → m < j → C m = C' m ∧ K m = K' m) : Fd p C' K' i j c k n := by
  obtain ⟨h1, h2, h3, h4, h5⟩ := h
  refine ⟨h1, h2, by rw [h3, (g n h1 h2).1], by rw [h4, (g n h1 h2).2], fun m hm1 hm2 => ?_⟩
  have := h5 m hm1 hm2
  rw [(g m hm1 hm2).1, (g m hm1 hm2).2] at this
  exact this
theorem Fd.unique {p : Nat → Nat → Int} {C K : Nat → Int} {i j n n' : Nat} {c k c' k' : Int} (h : Fd p C K i j c k n) (h' : Fd p C K i j c' k' n') : c = c' ∧ k = k' ∧ n = n' := by
  obtain ⟨h1, h2, h3, h4, h5⟩ := h
  obtain ⟨g1, g2, g3, g4, g5⟩ := h'
  have a := h5 n' g1 g2
  have b := g5 n h1 h2
  omega
/-- The tables of the best tickets, from place i0 on. -/
structure Bst (p : Nat → Nat → Int) (e : Nat) (C K : Nat → Int) (N : Nat → Nat) (i0 : Nat) : Prop where
  ce : C e = 0
  ke : K e = 0
  fd : ∀ i, i0 ≤ i → i < e → Fd p C K i (e + 1) (C i) (K i) (N i)
theorem Bst.step {p : Nat → Nat → Int} {e : Nat} {C K C' K' : Nat → Int} {N N' : Nat → Nat} {i0 : Nat} (h : Bst p e C K N (i0 + 1)) (hi : i0 < e) (g : ∀ m, i0 < m → m ≤ e → C' m = C m ∧ K' m = K m ∧ N' m = N m) (f : Fd p C K i0 (e + 1) (C' i0) (K' i0) (N' i0)) : Bst p e C' K' N' i0 := by
  refine ⟨by rw [(g e hi (Nat.le_refl _)).1, h.ce], by rw [(g e hi (Nat.le_refl _)).2.1, h.ke], fun i h1 h2 => ?_⟩
  by_cases e1 : i = i0
  · subst e1
    exact f.congr fun m hm1 hm2 => ⟨((g m hm1 (by omega)).1).symm, ((g m hm1 (by omega)).2.1).symm⟩
  · have := h.fd i (by omega) h2
    rw [(g i (by omega) (by omega)).1, (g i (by omega) (by omega)).2.1, (g i (by omega) (by omega)).2.2]
    exact this.congr fun m hm1 hm2 => ⟨((g m (by omega) (by omega)).1).symm, ((g m (by omega) (by omega)).2.1).symm⟩
/-- What every price keeps to. -/
def Prc (p : Nat → Nat → Int) (e : Nat) : Prop := ∀ i j, i ≤ e → j ≤ e → 0 ≤ p i j ∧ p i j ≤ 4000000
theorem Bst.bounds {p : Nat → Nat → Int} {e : Nat} {C K : Nat → Int} {N : Nat → Nat} {i0 : Nat} (h : Bst p e C K N i0) (hp : Prc p e) : ∀ d i, i + d = e → i0 ≤ i → 0 ≤ C i ∧ C i ≤ 4000000 ∧ 0 ≤ K i ∧ K i ≤ d ∧ (0 < d → 1 ≤ K i) := by
  intro d
  induction d using Nat.strongRecOn with
  | ind d ih =>
    intro i hi h0
    by_cases e1 : d = 0
    · subst e1
      obtain rfl : i = e := by omega
      have := h.ce
      have := h.ke
      omega
    · obtain ⟨g1, g2, g3, g4, g5⟩ := h.fd i h0 (by omega)
      have a := ih (e - N i) (by omega) (N i) (by omega) (by omega)
      have b := g5 e (by omega) (by omega)
      have c1 := hp i (N i) (by omega) (by omega)
      have c2 := hp i e (by omega) (by omega)
      have := h.ce
      have := h.ke
      omega
theorem Bst.unique {p : Nat → Nat → Int} {e : Nat} {C K C' K' : Nat → Int} {N N' : Nat → Nat} {i0 : Nat} (h : Bst p e C K N i0) (h' : Bst p e C' K' N' i0) : ∀ d i, i + d = e → i0 ≤ i → C i = C' i ∧ K i = K' i ∧ (0 < d → N i = N' i) := by
  intro d
  induction d using Nat.strongRecOn with
  | ind d ih =>
    intro i hi h0
    by_cases e1 : d = 0
    · subst e1
      obtain rfl : i = e := by omega
      rw [h.ce, h.ke, h'.ce, h'.ke]
      exact ⟨rfl, rfl, fun h => absurd h (by omega)⟩
    · have f1 := h.fd i h0 (by omega)
      have f2 := (h'.fd i h0 (by omega)).congr (C' := C) (K' := K) (fun m hm1 hm2 => by
        have := ih (e - m) (by omega) m (by omega) (by omega)
        exact ⟨this.1.symm, this.2.1.symm⟩)
      have := f1.unique f2
      exact ⟨this.1, this.2.1, fun _ => this.2.2⟩
/-- The place behind t tickets. -/
def it (N : Nat → Nat) : Nat → Nat
  | 0 => 0
  | t + 1 => N (it N t)
/-- The first places of the cut, as numbers. -/
def pls (N : Nat → Nat) (m : Nat) : List Int := (List.range m).map fun t => ((it N (t + 1) : Nat) : Int)
theorem pls_len (N : Nat → Nat) (m : Nat) : (pls N m).length = m := by simp [pls]
theorem pls_succ (N : Nat → Nat) (m : Nat) : pls N (m + 1) = pls N m ++ [((it N (m + 1) : Nat) : Int)] := by simp [pls, List.range_succ]
theorem pls_get {N : Nat → Nat} {m i : Nat} (h : i < m) : (pls N m).getD i 0 = ((it N (i + 1) : Nat) : Int) := by simp [pls, List.getD, h]
/-- The places of the cut. -/
def IsPl (N : Nat → Nat) (e : Nat) (l : List Int) : Prop := ∃ m, l = pls N m ∧ (∀ t, t ≤ m → it N t < e) ∧ it N (m + 1) = e
theorem it_up {p : Nat → Nat → Int} {e : Nat} {C K : Nat → Int} {N : Nat → Nat} (h : Bst p e C K N 0) : ∀ t, (∀ s, s < t → it N s < e) → t ≤ it N t ∧ it N t ≤ e := by
  intro t
  induction t with
  | zero => intro _; exact ⟨Nat.zero_le _, Nat.zero_le _⟩
  | succ t ih =>
    intro g
    have a := ih fun s hs => g s (by omega)
    have b := h.fd (it N t) (Nat.zero_le _) (g t (by omega))
    have b1 := b.1
    have b2 := b.2.1
    show t + 1 ≤ N (it N t) ∧ N (it N t) ≤ e
    omega
/-- What Split tells where all is right. -/
def SplitA (p : Nat → Nat → Int) (e : Nat) (c : Int) (l : List Int) : Prop := ∃ C K N, Bst p e C K N 0 ∧ c = C 0 ∧ IsPl N e l
theorem SplitA.unique {p : Nat → Nat → Int} {e : Nat} {c c' : Int} {l l' : List Int} (h : SplitA p e c l) (h' : SplitA p e c' l') : c = c' ∧ l = l' := by
  obtain ⟨C, K, N, hB, rfl, m, rfl, hm, hme⟩ := h
  obtain ⟨C', K', N', hB', rfl, m', rfl, hm', hme'⟩ := h'
  have u := hB.unique hB'
  have same : ∀ t, (∀ s, s < t → it N s < e) → it N t = it N' t := by
    intro t
    induction t with
    | zero => intro _; rfl
    | succ t ih =>
      intro g
      have a := ih fun s hs => g s (by omega)
      have b := g t (by omega)
      show N (it N t) = N' (it N' t)
      rw [← a]
      exact (u (e - it N t) (it N t) (by omega) (Nat.zero_le _)).2.2 (by omega)
  have same' : ∀ t, (∀ s, s < t → it N' s < e) → it N t = it N' t := by
    intro t
    induction t with
    | zero => intro _; rfl
    | succ t ih =>
      intro g
      have a := ih fun s hs => g s (by omega)
      have b := g t (by omega)
      show N (it N t) = N' (it N' t)
      rw [a]
      exact (u (e - it N' t) (it N' t) (by omega) (Nat.zero_le _)).2.2 (by omega)
  have e1 : m = m' := by
    rcases Nat.lt_trichotomy m m' with h | h | h
    · have a := same (m + 1) fun s hs => hm s (by omega)
      have b := hm' (m + 1) (by omega)
      omega
    · exact h
    · have a := same' (m' + 1) fun s hs => hm' s (by omega)
      have b := hm (m' + 1) (by omega)
      omega
  subst e1
  refine ⟨(u e 0 (by omega) (Nat.le_refl _)).1, ?_⟩
  unfold pls
  apply List.map_congr_left
  intro t ht
  have ht' := List.mem_range.1 ht
  rw [same (t + 1) fun s hs => hm s (by omega)]
/-- What a ticket from stop i to stop j costs. -/
def prc (b s : Int) (js : List Int) (r : Int) (zs : List Int) (cs : List CardV) (m : Int) (i j : Nat) : Int := cardedV b s js r (fareV b s js r (zs.getD i 0) (zs.getD j 0)) cs m
/-- What Split tells. -/
def SplitAns (b s : Int) (js : List Int) (r : Int) (zs : List Int) (cs : List CardV) (m : Int) (c : Int) (l : List Int) : Prop :=
  (throughV b s js r zs cs m < 0 ∧ c = -1 ∧ l = []) ∨ (0 ≤ throughV b s js r zs cs m ∧ SplitA (prc b s js r zs cs m) (zs.length - 1) c l)
theorem SplitAns.unique {b s r m c c' : Int} {js zs l l' : List Int} {cs : List CardV} (h : SplitAns b s js r zs cs m c l) (h' : SplitAns b s js r zs cs m c' l') : c = c' ∧ l = l' := by
  rcases h with ⟨h1, rfl, rfl⟩ | ⟨h1, h2⟩
  · rcases h' with ⟨_, rfl, rfl⟩ | ⟨g1, _⟩
    · exact ⟨rfl, rfl⟩
    · omega
  · rcases h' with ⟨g1, _, _⟩ | ⟨_, g2⟩
    · omega
    · exact h2.unique g2
theorem through_ok {b s r m : Int} {js zs : List Int} {cs : List CardV} (h : 0 ≤ throughV b s js r zs cs m) : stopsB zs = true ∧ tfB b s js r = true ∧ cardsB cs = true ∧ minB m = true := by
  cases h1 : stopsB zs
  · simp [throughV, h1] at h
  simp only [throughV, h1, if_true] at h
  cases h2 : tfB b s js r
  · rw [cardedV_t h2] at h; omega
  cases h3 : cardsB cs
  · rw [cardedV_c h3] at h; omega
  cases h4 : minB m
  · rw [cardedV_m h4] at h; omega
  exact ⟨rfl, rfl, rfl, rfl⟩
theorem prc_in {b s r m : Int} {js zs : List Int} {cs : List CardV} (h1 : stopsB zs = true) (h2 : tfB b s js r = true) (h3 : cardsB cs = true) (h4 : minB m = true) : Prc (prc b s js r zs cs m) (zs.length - 1) := by
  intro i j hi hj
  have hz : ∀ k, k ≤ zs.length - 1 → zonB (zs.getD k 0) = true := by
    intro k hk
    simp only [stopsB, Bool.and_eq_true, List.all_eq_true] at h1
    have hl := inB_true h1.1
    have hk' : k < zs.length := by omega
    have e0 : zs.getD k 0 = zs[k] := by simp [List.getD, hk']
    rw [e0]
    exact h1.2 _ (List.getElem_mem hk')
  have f := fareV_in h2 (hz i hi) (hz j hj)
  have g := cardedV_in (fare := fareV b s js r (zs.getD i 0) (zs.getD j 0)) h2 h3 (inB_yes (by omega) (by omega)) h4
  unfold prc
  omega
end Go.Proofs.Ytepdnaahhkkdeaa
