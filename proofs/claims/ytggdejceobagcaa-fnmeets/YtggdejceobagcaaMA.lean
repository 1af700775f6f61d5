/- The mathematics of single lines. -/
import Derived.Test.YtggdejceobagcaaS
namespace Go.Proofs.Ytggdejceobagcaa
open Go.RowKit

def lineOk (ls : List Int) : Bool := ls.all (fun x => inB x 1 4) && inB ls.length 2 5
/-- How many trains fit at a spot. -/
def fits (ls : List Int) (s : Int) : Int := if s.tmod 2 = 0 then ls.getD (s.tdiv 2).toNat 0 else 1
/-- How many trains are at a spot. -/
def atN (ts : List SingleV) (s : Int) : Nat := ts.countP (fun t => decide (t.s = s))
def spotB (ls : List Int) (s : Int) : Bool := inB s 0 (2 * (ls.length : Int) - 2)
def oneOk (ls : List Int) (t : SingleV) : Bool := spotB ls t.s && spotB ls t.d && decide (t.d.tmod 2 = 0)
def trainOk (ls : List Int) (ts : List SingleV) (t : SingleV) : Bool := oneOk ls t && decide ((atN ts t.s : Int) ≤ fits ls t.s)
def singlesOk (ls : List Int) (ts : List SingleV) : Bool := lineOk ls && decide (ts.length ≤ 4) && ts.all (trainOk ls ts)
def nextS (t : SingleV) : Int := if t.s < t.d then t.s + 1 else t.s - 1
def mayGo (ls : List Int) (ts : List SingleV) (i : Nat) : Bool :=
  !decide ((ts.getD i SingleV.zero).s = (ts.getD i SingleV.zero).d) && decide ((atN ts (nextS (ts.getD i SingleV.zero)) : Int) < fits ls (nextS (ts.getD i SingleV.zero)))
def mayMove (ls : List Int) (ts : List SingleV) (i : Int) : Bool := singlesOk ls ts && inB i 0 (ts.length - 1) && mayGo ls ts i.toNat
def moveT (ts : List SingleV) (i : Nat) : List SingleV := ts.set i ⟨nextS (ts.getD i SingleV.zero), (ts.getD i SingleV.zero).d⟩
def doneT (ts : List SingleV) : Bool := ts.all (fun t => decide (t.s = t.d))
def stuckT (ls : List Int) (ts : List SingleV) : Bool := singlesOk ls ts && !doneT ts && (List.range ts.length).all (fun i => !mayGo ls ts i)

theorem fits_odd {ls : List Int} {s : Int} (h : s.tmod 2 ≠ 0) : fits ls s = 1 := by simp [fits, h]
theorem fits_even {ls : List Int} {s : Int} (h : s.tmod 2 = 0) : fits ls s = ls.getD (s.tdiv 2).toNat 0 := by simp [fits, h]
theorem atN_nil (s : Int) : atN [] s = 0 := rfl
theorem atN_snoc (ts : List SingleV) (t : SingleV) (s : Int) : atN (ts ++ [t]) s = atN ts s + (if t.s = s then 1 else 0) := by
  simp [atN, List.countP_append, List.countP_cons]
theorem atN_take (ts : List SingleV) (k : Nat) (hk : k < ts.length) (s : Int) : atN (ts.take (k + 1)) s = atN (ts.take k) s + (if ts[k].s = s then 1 else 0) := by
  rw [List.take_succ_eq_append_getElem hk, atN_snoc]
theorem atN_take_le (ts : List SingleV) (k : Nat) (s : Int) : atN (ts.take k) s ≤ atN ts s := (List.take_sublist k ts).countP_le
theorem atN_le (ts : List SingleV) (s : Int) : atN ts s ≤ ts.length := List.countP_le_length
theorem lineOk_parts {ls : List Int} (h : lineOk ls = true) : (∀ x ∈ ls, 1 ≤ x ∧ x ≤ 4) ∧ 2 ≤ ls.length ∧ ls.length ≤ 5 := by
  simp only [lineOk, Bool.and_eq_true, List.all_eq_true] at h
  obtain ⟨h1, h2⟩ := h
  have := inB_true h2
  exact ⟨fun x hx => inB_true (h1 x hx), by omega, by omega⟩
theorem singlesOk_parts {ls : List Int} {ts : List SingleV} (h : singlesOk ls ts = true) : lineOk ls = true ∧ ts.length ≤ 4 ∧ ∀ t ∈ ts, trainOk ls ts t = true := by
  simp only [singlesOk, Bool.and_eq_true, List.all_eq_true, decide_eq_true_eq] at h
  exact ⟨h.1.1, h.1.2, h.2⟩
theorem trainOk_parts {ls : List Int} {ts : List SingleV} {t : SingleV} (h : trainOk ls ts t = true) : 0 ≤ t.s ∧ t.s ≤ 2 * (ls.length : Int) - 2 ∧ 0 ≤ t.d ∧ t.d ≤ 2 * (ls.length : Int) - 2 ∧ t.d.tmod 2 = 0 ∧ (atN ts t.s : Int) ≤ fits ls t.s := by
  simp only [trainOk, oneOk, spotB, Bool.and_eq_true, decide_eq_true_eq] at h
  obtain ⟨⟨⟨h1, h2⟩, h3⟩, h4⟩ := h
  have := inB_true h1
  have := inB_true h2
  exact ⟨by omega, by omega, by omega, by omega, h3, h4⟩
/-- The last of those at a spot counts them all. -/
theorem last_at (ts : List SingleV) (s : Int) (h : 0 < atN ts s) : ∃ k, ∃ hk : k < ts.length, ts[k].s = s ∧ atN (ts.take (k + 1)) s = atN ts s := by
  obtain ⟨n, hn⟩ : ∃ n, ts.length = n := ⟨_, rfl⟩
  induction n generalizing ts with
  | zero => have := List.length_eq_zero_iff.1 hn; subst this; simp [atN] at h
  | succ n ih =>
    obtain ⟨xs, x, rfl⟩ : ∃ xs x, ts = xs ++ [x] := by
      have hne : ts ≠ [] := by intro e; subst e; simp at hn
      exact ⟨ts.dropLast, ts.getLast hne, (List.dropLast_concat_getLast hne).symm⟩
    have hx : xs.length = n := by simpa using hn
    by_cases he : x.s = s
    · refine ⟨xs.length, by simp, by simpa using he, ?_⟩
      rw [List.take_of_length_le (by simp)]
    · rw [atN_snoc, if_neg he, Nat.add_zero] at h ⊢
      obtain ⟨k, hk, h1, h2⟩ := ih xs h hx
      refine ⟨k, by simp; omega, by rw [List.getElem_append_left hk]; exact h1, ?_⟩
      rw [List.take_append_of_le_length (by omega)]
      exact h2
/-- The program counts up to each train, the model counts all. -/
def upTo (ls : List Int) (ts : List SingleV) (k : Nat) : Bool := decide ((atN (ts.take (k + 1)) (ts.getD k SingleV.zero).s : Int) ≤ fits ls (ts.getD k SingleV.zero).s)
theorem all_upTo (ls : List Int) (ts : List SingleV) (h : ∀ t ∈ ts, oneOk ls t = true) (h2 : ∀ k, k < ts.length → upTo ls ts k = true) : ts.all (trainOk ls ts) = true := by
  rw [List.all_eq_true]
  intro t ht
  simp only [trainOk, Bool.and_eq_true, decide_eq_true_eq]
  refine ⟨h t ht, ?_⟩
  have hpos : 0 < atN ts t.s := List.countP_pos_iff.2 ⟨t, ht, by simp⟩
  obtain ⟨k, hk, e1, e2⟩ := last_at ts t.s hpos
  have := h2 k hk
  simp only [upTo, decide_eq_true_eq, List.getD_eq_getElem?_getD, List.getElem?_eq_getElem hk, Option.getD_some, e1, e2] at this
  exact this
theorem bad_upTo (ls : List Int) (ts : List SingleV) (k : Nat) (hk : k < ts.length) (h : upTo ls ts k = false) : ts.all (trainOk ls ts) = false := by
  refine all_bad hk ?_
  simp only [upTo, decide_eq_false_iff_not, List.getD_eq_getElem?_getD, List.getElem?_eq_getElem hk, Option.getD_some] at h
  have := atN_take_le ts (k + 1) ts[k].s
  cases hq : trainOk ls ts ts[k] with
  | false => rfl
  | true => have := trainOk_parts hq; omega
theorem bad_one (ls : List Int) (ts : List SingleV) (k : Nat) (hk : k < ts.length) (h : oneOk ls ts[k] = false) : ts.all (trainOk ls ts) = false := by
  refine all_bad hk ?_
  simp [trainOk, h]
end Go.Proofs.Ytggdejceobagcaa
