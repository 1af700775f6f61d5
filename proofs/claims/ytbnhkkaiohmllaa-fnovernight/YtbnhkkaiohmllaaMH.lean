/- The runs of Chains: in order, linked; who is due. -/
import Derived.Test.YtbnhkkaiohmllaaSD
namespace Go.Proofs.Ytbnhkkaiohmllaa
open Go.RowKit

theorem last_mem {h : Hist} {u : Nat} (hne : runU h u ≠ []) : lastU h u ∈ runU h u := by
  unfold lastU
  rw [List.getLastD_eq_getLast?]
  cases hg : (runU h u).getLast? with
  | none => rw [List.getLast?_eq_none_iff] at hg; exact absurd hg hne
  | some x => exact List.mem_of_getLast? hg
theorem fol_less {ts : List TaskV} {n : Int} {a b : Nat} (h : folB (tkA ts a) (tkA ts b) n = true) : (tkA ts a).f < (tkA ts b).f := by
  obtain ⟨h1, _, h3, _, h5⟩ := folB_iff.1 h
  have := taskB_iff.1 h1
  have := inB_true h3
  omega
/-- In a unit's run every task departs behind those ahead of it. -/
theorem Chn.rising {ts : List TaskV} {n : Int} {os : List Nat} {h : Hist} (c : Chn ts n os h) : ∀ u, (runU h u).Pairwise (fun a b => (tkA ts a).f < (tkA ts b).f) := by
  induction c with
  | nil => intro u; exact List.Pairwise.nil
  | @snoc os h t v c M ih =>
    intro u
    rw [runU_snoc]
    by_cases e : v = u
    · subst e
      rw [if_pos rfl, List.pairwise_append]
      refine ⟨ih v, List.pairwise_singleton _ _, fun a ha b hb => ?_⟩
      simp at hb
      subst hb
      rcases M with ⟨M1, _⟩ | ⟨M1, _⟩
      · have hl := fol_less M1.2
        have hp := ih v
        have hne : runU h v ≠ [] := fun e => by rw [e] at ha; simp at ha
        unfold lastU at hl
        rw [List.getLastD_eq_getLast?] at hl
        rw [← List.dropLast_concat_getLast hne] at ha hp
        rw [List.getLast?_eq_some_getLast hne] at hl
        simp only [Option.getD_some] at hl
        rw [List.pairwise_append] at hp
        rcases List.mem_append.1 ha with ha | ha
        · have := hp.2.2 a ha ((runU h v).getLast hne) (List.mem_singleton.2 rfl); omega
        · simp at ha; subst ha; exact hl
      · rw [runU_beyond (by omega)] at ha; simp at ha
    · rw [if_neg e]; exact ih u
theorem Chn.linked {ts : List TaskV} {n : Int} {os : List Nat} {h : Hist} (c : Chn ts n os h) : AllLink ts n h := by
  induction c with
  | nil => exact AllLink.nil ts n
  | @snoc os h t u c M ih =>
    rw [AllLink.snoc]
    refine ⟨ih, ?_⟩
    rcases M with ⟨M1, _⟩ | ⟨M1, _⟩
    · exact .inr M1.2
    · exact .inl (runU_beyond (by omega))
theorem dueOf_split {ts : List TaskV} {lim : Int} : ∀ (ps : List Nat) (s : Int), (∀ p ∈ ps, 0 ≤ (tkA ts p).p) → s ≤ lim → (dueOf ts lim s ps = -1 ∧ s + kmOf ts ps ≤ lim) ∨ ∃ pre p post, ps = pre ++ p :: post ∧ dueOf ts lim s ps = (p : Nat) ∧ s + kmOf ts pre ≤ lim ∧ lim < s + kmOf ts pre + (tkA ts p).p ∧ lim < s + kmOf ts ps := by
  intro ps
  induction ps with
  | nil => intro s _ hs; exact .inl ⟨rfl, by simpa [kmOf] using hs⟩
  | cons p ps ih =>
    intro s hp hs
    rw [dueOf, kmOf_cons]
    have h0 := hp p (by simp)
    have hrest : 0 ≤ kmOf ts ps := by
      have : ∀ l : List Nat, (∀ q ∈ l, 0 ≤ (tkA ts q).p) → 0 ≤ kmOf ts l := by
        intro l
        induction l with
        | nil => intro _; simp [kmOf]
        | cons a l ihl => intro hq; rw [kmOf_cons]; have := hq a (by simp); have := ihl (fun q hq' => hq q (by simp [hq'])); omega
      exact this ps (fun q hq => hp q (by simp [hq]))
    by_cases hl : lim < s + (tkA ts p).p
    · rw [if_pos hl]
      exact .inr ⟨[], p, ps, rfl, rfl, by simpa [kmOf] using hs, by simpa [kmOf] using hl, by omega⟩
    · rw [if_neg hl]
      rcases ih (s + (tkA ts p).p) (fun q hq => hp q (by simp [hq])) (by omega) with ⟨h1, h2⟩ | ⟨pre, q, post, h1, h2, h3, h4, h5⟩
      · exact .inl ⟨h1, by omega⟩
      · exact .inr ⟨p :: pre, q, post, by rw [h1]; rfl, h2, by rw [kmOf_cons]; omega, by rw [kmOf_cons]; omega, by omega⟩
open Classical in
theorem sum_list (ts : List TaskV) (N : Nat) : ∀ l : List Nat, l.Nodup → (∀ q ∈ l, q < N) → sumTo (fun i => if i ∈ l then (tkA ts i).p else 0) N = kmOf ts l := by
  intro l
  induction l with
  | nil => intro _ _; exact sumTo_zero (fun i _ => by simp)
  | cons p l ih =>
    intro hn hb
    rw [List.nodup_cons] at hn
    rw [sumTo_one (f := fun i => if i ∈ p :: l then (tkA ts i).p else 0) (g := fun i => if i ∈ l then (tkA ts i).p else 0) (hb p (by simp)) (fun i hi => by simp [hi]), ih hn.2 (fun q hq => hb q (by simp [hq])), kmOf_cons]
    simp [hn.1]
    omega
/-- What FnDue sums up: the kilometres of the unit ahead of p. -/
def kmAhead (ts : List TaskV) (zs : List Int) (u p : Nat) (i : Nat) : Int := if zs.getD i 0 = (u : Int) ∧ (tkA ts i).f < (tkA ts p).f then (tkA ts i).p else 0
theorem sum_ahead {ts : List TaskV} {n : Int} {os : List Nat} {h : Hist} (hO : Ord ts os) (c : Chn ts n os h) {u p : Nat} {pre post : List Nat} (e : runU h u = pre ++ p :: post) : sumTo (kmAhead ts (uL h 0 ts.length) u p) ts.length = kmOf ts pre := by
  have Dd := Dealt.of hO c
  have hrun := c.rising u
  rw [e, List.pairwise_append, List.pairwise_cons] at hrun
  have hsub : ∀ q ∈ runU h u, q < ts.length := fun q hq => (Dd.all q).1 (List.mem_map.2 ⟨_, runU_mem.1 hq, rfl⟩)
  have hnd : pre.Nodup := hrun.1.imp (fun {a b} hab e => by subst e; omega)
  rw [← sum_list ts ts.length pre hnd (fun q hq => hsub q (by rw [e]; exact List.mem_append.2 (.inl hq)))]
  refine sumTo_congr (fun i hi => ?_)
  have hmem : (uL h 0 ts.length).getD i 0 = (u : Int) ↔ i ∈ runU h u := by
    rw [uL_get h 0 hi]
    obtain ⟨v, hv, ev⟩ := Dd.get hi
    rw [ev 0, runU_mem]
    constructor
    · intro q
      have : v = u := by omega
      rw [← this]; exact hv
    · intro q
      have := unitD_mem Dd.nodup q 0
      rw [ev 0] at this; exact this
  unfold kmAhead
  by_cases hip : i ∈ pre
  · rw [if_pos hip, if_pos ⟨hmem.2 (by rw [e]; exact List.mem_append.2 (.inl hip)), hrun.2.2 i hip p (by simp)⟩]
  · rw [if_neg hip, if_neg]
    rintro ⟨q1, q2⟩
    have q3 := hmem.1 q1
    rw [e] at q3
    rcases List.mem_append.1 q3 with q | q
    · exact hip q
    · rcases List.mem_cons.1 q with q | q
      · subst q; omega
      · have := hrun.2.1.1 i q; omega
end Go.Proofs.Ytbnhkkaiohmllaa
