/- What Axles tells of telegrams that are sent twice, and of one more. -/
import Derived.Test.YtgnohomplehacaaDT
namespace Go.Proofs.Ytgnohomplehacaa
open Go.RowKit
theorem acc_self {q : Int} (h0 : 0 ≤ q) (h1 : q ≤ 255) : accV q q = 1 := by
  unfold accV
  rw [inB_yes h0 h1, if_pos ⟨rfl, rfl⟩, if_neg (by omega), if_pos rfl]
theorem acc_one {l s : Int} (h : accV l s = 1) : s = l := by
  unfold accV at h
  split at h
  · split at h
    · omega
    · split at h
      · assumption
      · omega
  · omega
theorem acc_next {l : Int} (h0 : 0 ≤ l) (h1 : l ≤ 255) : accV l ((l + 1) % 256) = 0 := by
  unfold accV
  rw [inB_yes h0 h1, inB_yes (by omega) (by omega), if_pos ⟨rfl, rfl⟩, if_pos rfl]
theorem axS_l (s : AxSt) (t : TelV) : (axS s t).l = t.q := by
  unfold axS
  split
  · rename_i h; exact (acc_one h).symm
  · rfl
def twiceL : List TelV → List TelV
  | [] => []
  | t :: ts => t :: t :: twiceL ts
theorem twiceL_app (a b : List TelV) : twiceL (a ++ b) = twiceL a ++ twiceL b := by
  induction a with
  | nil => rfl
  | cons t a ih => simp [twiceL, ih]
theorem twiceL_len (a : List TelV) : (twiceL a).length = 2 * a.length := by
  induction a with
  | nil => rfl
  | cons t a ih => simp [twiceL, ih]; omega
theorem twiceL_mem {a : List TelV} {t : TelV} (h : t ∈ twiceL a) : t ∈ a := by
  induction a with
  | nil => simp [twiceL] at h
  | cons x a ih =>
    simp only [twiceL, List.mem_cons] at h ⊢
    rcases h with h | h | h
    · exact .inl h
    · exact .inl h
    · exact .inr (ih h)
structure Shift (n : Int) (s s' : AxSt) : Prop where
  c : s'.c = s.c
  l : s'.l = s.l
  o : s'.o = s.o + n
theorem axS_shift {n : Int} {s s' : AxSt} (h : Shift n s s') (t : TelV) : Shift n (axS s t) (axS s' t) := by
  obtain ⟨h1, h2, h3⟩ := h
  unfold axS
  rw [h1, h2, h3]
  split
  · exact ⟨rfl, rfl, by show s.o + n + 1 = s.o + 1 + n; omega⟩
  · exact ⟨rfl, rfl, rfl⟩
theorem axS_again {s : AxSt} {t : TelV} (hl : s.l = t.q) (h0 : 0 ≤ t.q) (h1 : t.q ≤ 255) : Shift 1 s (axS s t) := by
  unfold axS
  rw [hl, acc_self h0 h1, if_pos rfl]
  exact ⟨rfl, hl.symm, rfl⟩
theorem axF_twice : ∀ (ts : List TelV) (n : Int) (s s' : AxSt), (∀ t ∈ ts, 0 ≤ t.q ∧ t.q ≤ 255) → Shift n s s' → Shift (n + ts.length) (ts.foldl axS s) ((twiceL ts).foldl axS s') := by
  intro ts
  induction ts with
  | nil => intro n s s' _ h; simpa [twiceL] using h
  | cons t ts ih =>
    intro n s s' hq h
    obtain ⟨q0, q1⟩ := hq t (by simp)
    have h1 := axS_shift h t
    have h2 := axS_again (axS_l s' t) q0 q1
    have h3 : Shift (n + 1) (axS s t) (axS (axS s' t) t) := ⟨h2.c.trans h1.c, h2.l.trans h1.l, by rw [h2.o, h1.o]; omega⟩
    have h4 := ih (n + 1) _ _ (fun x hx => hq x (by simp [hx])) h3
    have e : n + 1 + (ts.length : Int) = n + ((t :: ts).length : Int) := by simp; omega
    rw [← e]
    exact h4
theorem axF_two {ts : List TelV} (h : ∀ t ∈ ts, DTel t) : (axF (twiceL ts)).c = (axF ts).c ∧ (axF (twiceL ts)).o = (axF ts).o + ts.length := by
  have := axF_twice ts 0 ⟨0, 255, 0⟩ ⟨0, 255, 0⟩ (fun t ht => ⟨(h t ht).q0, (h t ht).q1⟩) ⟨rfl, rfl, rfl⟩
  exact ⟨this.c, by have := this.o; rw [Int.zero_add] at this; exact this⟩
def nextQ (ts : List TelV) : Int := if ts.length = 0 then 0 else ((ts.getD (ts.length - 1) TelV.zero).q + 1) % 256
theorem axF_last {ts : List TelV} (h : ∀ t ∈ ts, DTel t) : 0 ≤ (axF ts).l ∧ (axF ts).l ≤ 255 ∧ nextQ ts = ((axF ts).l + 1) % 256 := by
  rcases List.eq_nil_or_concat ts with e | ⟨ts', t, e⟩
  · subst e; exact ⟨by decide, by decide, rfl⟩
  · subst e
    rw [List.concat_eq_append] at h ⊢
    rw [axF_snoc, axS_l]
    have ht := h t (by simp)
    refine ⟨ht.q0, ht.q1, ?_⟩
    unfold nextQ
    rw [if_neg (by simp)]
    simp [List.getD]
theorem nextQ_in (ts : List TelV) : 0 ≤ nextQ ts ∧ nextQ ts ≤ 255 := by
  unfold nextQ
  split <;> omega
theorem axF_more {ts : List TelV} (h : ∀ t ∈ ts, DTel t) : (axF (ts ++ [⟨nextQ ts, 1, []⟩])).c = (axF ts).c ∧ (axF (ts ++ [⟨nextQ ts, 1, []⟩])).o = (axF ts).o ∧ (axF (ts ++ [⟨nextQ ts, 3, []⟩])).c = 0 := by
  obtain ⟨l0, l1, e⟩ := axF_last h
  rw [axF_snoc, axF_snoc]
  unfold axS
  have e0 : accV (axF ts).l (nextQ ts) = 0 := by rw [e]; exact acc_next l0 l1
  dsimp only
  rw [e0, if_neg (by omega), if_neg (by omega), if_neg (by omega)]
  have t0 : toldV [] = 0 := rfl
  dsimp only
  rw [t0]
  refine ⟨?_, rfl, ?_⟩
  · unfold cntV
    rw [if_neg (by omega)]
    split
    · rename_i hh; exact hh.symm
    · simp
  · unfold cntV
    rw [if_pos rfl]
theorem okAll_of {ts : List TelV} (h : ∀ t ∈ ts, okT t = true) : okAll ts = true := List.all_eq_true.2 h
theorem axA_of {ts : List TelV} (h : ∀ t ∈ ts, okT t = true) (hl : ts.length ≤ 200) : axA ts = ((axF ts).c, (axF ts).o) := by
  unfold axA
  rw [if_pos ⟨hl, okAll_of h⟩]
theorem okT_next (ts : List TelV) (k : Int) (h0 : 0 ≤ k) (h1 : k ≤ 15) : okT ⟨nextQ ts, k, []⟩ = true := by
  obtain ⟨a, b⟩ := nextQ_in ts
  unfold okT telB
  rw [inB_yes a b, inB_yes h0 h1]
  rfl
end Go.Proofs.Ytgnohomplehacaa
