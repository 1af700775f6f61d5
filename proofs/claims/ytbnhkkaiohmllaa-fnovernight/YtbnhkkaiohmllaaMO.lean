/- Balanced tasks: as many units end the day at a node as begin it there. -/
import Derived.Test.YtbnhkkaiohmllaaMJ
import Derived.Test.YtbnhkkaiohmllaaBA
import Derived.Test.YtbnhkkaiohmllaaDA
namespace Go.Proofs.Ytbnhkkaiohmllaa
open Go.RowKit

/-- The way back, a day later. -/
def TaskV.back (t : TaskV) : TaskV := ⟨t.d, t.e, t.f + 1440, t.t + 1440, t.p⟩
def prs (l : List TaskV) : List TaskV := l.flatMap (fun t => [t, t.back])
theorem prs_len (l : List TaskV) : (prs l).length = 2 * l.length := by
  induction l with
  | nil => rfl
  | cons a l ih => unfold prs at ih ⊢; rw [List.flatMap_cons, List.length_append, ih]; simp; omega
theorem prs_take {l : List TaskV} {k : Nat} (hk : k < l.length) : prs (l.take (k + 1)) = prs (l.take k) ++ [tkA l k, (tkA l k).back] := by
  unfold prs
  rw [List.take_succ_eq_append_getElem hk, List.flatMap_append]
  simp [tkA, List.getD, hk]
theorem prs_right {l : List TaskV} (h : RightL l) (hl : l.length ≤ 20) : tasksB (prs l) = true := by
  simp only [tasksB, Bool.and_eq_true, decide_eq_true_eq, List.all_eq_true]
  refine ⟨by rw [prs_len]; omega, fun x hx => taskB_iff.2 ?_⟩
  unfold prs at hx
  obtain ⟨t, ht, hx⟩ := List.mem_flatMap.1 hx
  have := h t ht
  unfold RightD at this
  simp only [List.mem_cons, List.not_mem_nil, or_false] at hx
  rcases hx with rfl | rfl
  · omega
  · simp only [TaskV.back]; omega
def sg (x : Int) (t : TaskV) : Int := (if t.e = x then 1 else 0) - (if t.d = x then 1 else 0)
theorem range_tk (g : TaskV → Int) (ts : List TaskV) : (List.range ts.length).map (fun i => g (tkA ts i)) = ts.map g := by
  apply List.ext_getElem
  · simp
  · intro i h1 h2
    simp at h1
    simp [tkA, List.getD, h1]
theorem surp_sum (ts : List TaskV) (x : Int) : surp ts ts.length x = (ts.map (sg x)).sum := by
  rw [← range_tk, sum_range]; rfl
theorem prs_surp (l : List TaskV) (x : Int) : surp (prs l) (prs l).length x = 0 := by
  rw [surp_sum]
  induction l with
  | nil => rfl
  | cons a l ih =>
    unfold prs at ih ⊢
    rw [List.flatMap_cons, List.map_append, List.sum_append, ih]
    simp [sg, TaskV.back]
    omega
theorem prs_bal {l : List TaskV} (h : RightL l) (hl : l.length ≤ 20) : balB (prs l) = true := (bal_iff (prs_right h hl)).2 (prs_surp l)
theorem sum_unitsG (g : Nat → Int) (M : Nat) : ∀ h : Hist, nU h ≤ M → sumTo (fun u => ((runU h u).map g).sum) M = ((h.map (·.1)).map g).sum := by
  intro h
  induction h using snoc_ind with
  | h0 => intro _; rw [sumTo_zero (fun u _ => by simp [runU])]; simp
  | h1 h x ih =>
    obtain ⟨t, v⟩ := x
    intro hM
    rw [nU_snoc] at hM
    rw [sumTo_one (f := fun u => ((runU (h ++ [(t, v)]) u).map g).sum) (g := fun u => ((runU h u).map g).sum) (t := v) (by omega) (fun u hu => by rw [runU_snoc, if_neg (Ne.symm hu)]), ih (by omega), List.map_append]
    rw [runU_snoc, if_pos rfl]
    simp only [List.map_append, List.map_cons, List.map_nil, List.sum_append, List.sum_cons, List.sum_nil]
    omega
open Classical in
theorem sum_listG (g : Nat → Int) (N : Nat) : ∀ l : List Nat, l.Nodup → (∀ q ∈ l, q < N) → sumTo (fun i => if i ∈ l then g i else 0) N = (l.map g).sum := by
  intro l
  induction l with
  | nil => intro _ _; exact sumTo_zero (fun i _ => by simp)
  | cons p l ih =>
    intro hn hb
    rw [List.nodup_cons] at hn
    rw [sumTo_one (f := fun i => if i ∈ p :: l then g i else 0) (g := fun i => if i ∈ l then g i else 0) (hb p (by simp)) (fun i hi => by simp [hi]), ih hn.2 (fun q hq => hb q (by simp [hq])), List.map_cons, List.sum_cons]
    simp [hn.1]
    omega
theorem sum_allG (g : Nat → Int) {ts : List TaskV} {n : Int} {os : List Nat} {h : Hist} (hO : Ord ts os) (hC : Chn ts n os h) : sumTo (fun u => ((runU h u).map g).sum) (nU h) = sumTo g ts.length := by
  rw [sum_unitsG g (nU h) h (Nat.le_refl _), hC.places, ← sum_listG g ts.length os hO.nodup (fun q hq => (hO.2 q).1 hq)]
  exact sumTo_congr (fun i hi => if_pos ((hO.2 i).2 hi))
/-- What a linked run begins with and ends with. -/
theorem tele {ts : List TaskV} {n : Int} (x : Int) : ∀ (r : List Nat) (a : Nat), linkB ts n (a :: r) = true → ((a :: r).map (sgn ts x)).sum = (if (tkA ts a).e = x then 1 else 0) - (if nightOf ts (a :: r) = x then 1 else 0) := by
  intro r
  induction r with
  | nil => intro a _; simp [sgn, nightOf]
  | cons b r ih =>
    intro a h
    rw [linkB, Bool.and_eq_true] at h
    have h1 := ih b h.2
    have h2 := (folB_iff.1 h.1).2.2.2.1
    have h3 : nightOf ts (a :: b :: r) = nightOf ts (b :: r) := by simp [nightOf, List.getLastD_eq_getLast?]
    rw [List.map_cons, List.sum_cons, h1, h3]
    unfold sgn
    rw [h2]
    omega
/-- A unit ends there, less begins there. -/
def flow (ts : List TaskV) (h : Hist) (x : Int) (u : Nat) : Int := (if nightOf ts (runU h u) = x then 1 else 0) - (if (tkA ts ((runU h u).headD 0)).e = x then 1 else 0)
theorem sumTo_neg (f : Nat → Int) (n : Nat) : sumTo (fun i => - f i) n = - sumTo f n := by
  induction n with
  | zero => rfl
  | succ n ih => rw [sumTo, sumTo, ih]; omega
theorem flow_all {ts : List TaskV} {n : Int} {os : List Nat} {h : Hist} (hO : Ord ts os) (hC : Chn ts n os h) (x : Int) (hs : surp ts ts.length x = 0) : sumTo (flow ts h x) (nU h) = 0 := by
  have e : sumTo (flow ts h x) (nU h) = sumTo (fun u => - ((runU h u).map (sgn ts x)).sum) (nU h) := by
    refine sumTo_congr (fun u hu => ?_)
    have hne := hC.full u hu
    have hl := hC.linked u
    cases hr : runU h u with
    | nil => exact absurd hr hne
    | cons a r =>
      rw [hr] at hl
      rw [tele x r a hl]
      unfold flow
      rw [hr, List.headD_cons]
      omega
  rw [e, sumTo_neg, sum_allG (sgn ts x) hO hC]
  show - surp ts ts.length x = 0
  omega
theorem flow_bound (ts : List TaskV) (h : Hist) (x : Int) (k : Nat) : -(k : Int) ≤ sumTo (flow ts h x) k ∧ sumTo (flow ts h x) k ≤ k := by
  induction k with
  | zero => simp [sumTo]
  | succ k ih =>
    rw [sumTo]
    have : -1 ≤ flow ts h x k ∧ flow ts h x k ≤ 1 := by unfold flow; split <;> split <;> omega
    omega
/-- The search for the first task of a unit. -/
def FirstTo (ts : List TaskV) (zs : List Int) (u : Nat) (k : Nat) (f : Int) : Prop :=
  (f = -1 ∧ ∀ i, i < k → zs.getD i 0 ≠ (u : Int)) ∨ ∃ m : Nat, f = m ∧ m < k ∧ zs.getD m 0 = (u : Int) ∧ ∀ i, i < k → zs.getD i 0 = (u : Int) → (tkA ts m).f ≤ (tkA ts i).f
theorem FirstTo.start (ts : List TaskV) (zs : List Int) (u : Nat) : FirstTo ts zs u 0 (-1) := .inl ⟨rfl, fun i h => by omega⟩
theorem FirstTo.skip {ts : List TaskV} {zs : List Int} {u k : Nat} {f : Int} (h : FirstTo ts zs u k f) (hz : zs.getD k 0 ≠ (u : Int)) : FirstTo ts zs u (k + 1) f := by
  rcases h with ⟨h1, h2⟩ | ⟨m, h1, h2, h3, h4⟩
  · refine .inl ⟨h1, fun i hi => ?_⟩
    by_cases e : i = k
    · subst e; exact hz
    · exact h2 i (by omega)
  · refine .inr ⟨m, h1, by omega, h3, fun i hi hu => ?_⟩
    by_cases e : i = k
    · subst e; exact absurd hu hz
    · exact h4 i (by omega) hu
theorem FirstTo.first {ts : List TaskV} {zs : List Int} {u k : Nat} (h : FirstTo ts zs u k (-1)) (hz : zs.getD k 0 = (u : Int)) : FirstTo ts zs u (k + 1) k := by
  rcases h with ⟨h1, h2⟩ | ⟨m, h1, h2, h3, h4⟩
  · refine .inr ⟨k, rfl, by omega, hz, fun i hi hu => ?_⟩
    by_cases e : i = k
    · subst e; omega
    · exact absurd hu (h2 i (by omega))
  · omega
theorem FirstTo.less {ts : List TaskV} {zs : List Int} {u k m : Nat} (h : FirstTo ts zs u k m) (hz : zs.getD k 0 = (u : Int)) (hl : (tkA ts k).f < (tkA ts m).f) : FirstTo ts zs u (k + 1) k := by
  rcases h with ⟨h1, h2⟩ | ⟨m', h1, h2, h3, h4⟩
  · omega
  · obtain rfl : m = m' := by omega
    refine .inr ⟨k, rfl, by omega, hz, fun i hi hu => ?_⟩
    by_cases e : i = k
    · subst e; omega
    · have := h4 i (by omega) hu; omega
theorem FirstTo.more {ts : List TaskV} {zs : List Int} {u k m : Nat} (h : FirstTo ts zs u k m) (hl : ¬ (tkA ts k).f < (tkA ts m).f) : FirstTo ts zs u (k + 1) m := by
  rcases h with ⟨h1, h2⟩ | ⟨m', h1, h2, h3, h4⟩
  · omega
  · obtain rfl : m = m' := by omega
    refine .inr ⟨m, rfl, by omega, h3, fun i hi hu => ?_⟩
    by_cases e : i = k
    · subst e; omega
    · exact h4 i (by omega) hu
theorem FirstTo.range {ts : List TaskV} {zs : List Int} {u k : Nat} {f : Int} (h : FirstTo ts zs u k f) : f = -1 ∨ ∃ m : Nat, f = m ∧ m < k := by
  rcases h with ⟨h1, _⟩ | ⟨m, h1, h2, _⟩
  · exact .inl h1
  · exact .inr ⟨m, h1, h2⟩
theorem first_is {ts : List TaskV} {n : Int} {os : List Nat} {h : Hist} {u : Nat} {f : Int} (hO : Ord ts os) (hC : Chn ts n os h) (hF : FirstTo ts (uL h 0 ts.length) u ts.length f) (hu : u < nU h) : f = ((runU h u).headD 0 : Nat) ∧ (runU h u).headD 0 < ts.length := by
  have Dd := Dealt.of hO hC
  have hsub : ∀ q ∈ runU h u, q < ts.length := fun q hq => (Dd.all q).1 (List.mem_map.2 ⟨_, runU_mem.1 hq, rfl⟩)
  have hmem : ∀ i, i < ts.length → ((uL h 0 ts.length).getD i 0 = (u : Int) ↔ i ∈ runU h u) := by
    intro i hi
    rw [uL_get h 0 hi]
    obtain ⟨v, hv, ev⟩ := Dd.get hi
    rw [ev 0, runU_mem]
    constructor
    · intro q
      have : v = u := by omega
      rw [← this]; exact hv
    · intro q
      have := unitD_mem Dd.nodup q 0
      rw [ev 0] at this; exact this
  have hne := hC.full u hu
  have hri := hC.rising u
  cases hr : runU h u with
  | nil => exact absurd hr hne
  | cons a r =>
    rw [hr] at hmem hsub hri
    rw [List.headD_cons]
    have ha := hsub a (by simp)
    refine ⟨?_, ha⟩
    rcases hF with ⟨h1, h2⟩ | ⟨m, h1, h2, h3, h4⟩
    · exact absurd ((hmem a ha).2 (by simp)) (h2 a ha)
    · have h5 := (hmem m h2).1 h3
      rcases List.mem_cons.1 h5 with q | q
      · rw [h1, q]
      · have h6 := (List.pairwise_cons.1 hri).1 m q
        have h7 := h4 a ha ((hmem a ha).2 (by simp))
        omega
end Go.Proofs.Ytbnhkkaiohmllaa
