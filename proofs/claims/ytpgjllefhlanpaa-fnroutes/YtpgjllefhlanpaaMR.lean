/- A route that is set from the bare state: what asks for it again, what holds it, and how it comes back. -/
import Derived.Test.YtpgjllefhlanpaaML
namespace Go.Proofs.Ytpgjllefhlanpaa
/-- Nothing is taken. -/
def NoneTaken (l : LockV) : Prop := ∀ i, l.taken.getD i false = false
/-- Of the routes r is set alone. -/
def OnlySet (l : LockV) (r : Nat) : Prop := ∀ o, l.set.getD o false = true ↔ o = r
def NoneSet (l : LockV) : Prop := ∀ o, l.set.getD o false = false
theorem not_held {p : PlantV} {l : LockV} {r : Nat} (h : NoneTaken l) : held p l r = false := by
  rw [not_true]; intro hh
  simp only [held, List.any_eq_true] at hh
  obtain ⟨b, _, hb⟩ := hh
  rw [h] at hb; cases hb
theorem not_stuck {p : PlantV} {l : LockV} {r : Nat} (h : NoneTaken l) : stuck p l r = false := by
  rw [not_true]; intro hh
  simp only [stuck, List.any_eq_true, Bool.and_eq_true] at hh
  obtain ⟨b, _, _, hb⟩ := hh
  rw [h] at hb; cases hb
theorem not_barred {p : PlantV} {l : LockV} {r : Nat} (h : NoneSet l) : barred p l r = false := by
  rw [not_true]; intro hh
  obtain ⟨o, _, ho, _⟩ := barred_iff.1 hh
  rw [h] at ho; cases ho
theorem isRoute_of {p : PlantV} {r : Nat} (h : r < p.routes.length) : isRoute p (r : Int) = true := inB_yes (by omega) (by omega)
theorem req_free {p : PlantV} {l : LockV} {r : Nat} (h : Lk p l) (hr : r < p.routes.length) (h1 : NoneTaken l) (h2 : NoneSet l) : reqC p l (r : Int) = 0 := by
  unfold reqC
  rw [lk_iff.2 h, isRoute_of hr, Int.toNat_natCast, h2 r, not_barred h2, not_held h1, not_stuck h1]; rfl
theorem reqL_of {p : PlantV} {l : LockV} {r : Int} (h : reqC p l r = 0) : reqL p l r = setRoute p l r := by unfold reqL; rw [decide_eq_true h]; rfl
theorem bare_taken (p : PlantV) : NoneTaken (bareOf p) := by
  intro i; simp only [bareOf]; rw [rep_get]; split <;> rfl
theorem bare_set (p : PlantV) : NoneSet (bareOf p) := by
  intro i; simp only [bareOf]; rw [rep_get]; split <;> rfl
/-- The locking in which route r is set alone. -/
def oneL (p : PlantV) (r : Nat) : LockV := setRoute p (bareOf p) (r : Int)
section
variable {p : PlantV} {r : Nat} (hok : plantOk p = true) (hr : r < p.routes.length)
include hok hr
theorem one_C : reqC p (bareOf p) (r : Int) = 0 := req_free (Lk.bare hok) hr (bare_taken p) (bare_set p)
theorem one_L : opL .req p (bareOf p) (r : Int) = oneL p r := reqL_of (one_C hok hr)
theorem one_lk : Lk p (oneL p r) := by rw [← one_L hok hr]; exact (Lk.bare hok).op .req _
omit hok hr in
theorem one_taken : NoneTaken (oneL p r) := bare_taken p
omit hok in
theorem one_only : OnlySet (oneL p r) r := by
  intro o
  unfold oneL setRoute
  dsimp only
  rw [Int.toNat_natCast, set_get, bare_set p o]
  have hl : (bareOf p).set.length = p.routes.length := by simp [bareOf]
  constructor
  · intro h
    by_cases e : r = o ∧ o < (bareOf p).set.length
    · exact e.1.symm
    · rw [if_neg e] at h; cases h
  · rintro rfl
    rw [if_pos ⟨rfl, by rw [hl]; exact hr⟩]
theorem twice_C : reqC p (oneL p r) (r : Int) = 2 := by
  unfold reqC
  rw [lk_iff.2 (one_lk hok hr), isRoute_of hr, Int.toNat_natCast, (one_only hr r).2 rfl]; rfl
omit hok in
theorem one_barred {k : Nat} (hk : k ≠ r) : barred p (oneL p r) k = clash (p.route r) (p.route k) := by
  apply bool_iff
  rw [barred_iff]
  have hl : (oneL p r).set.length = p.routes.length := by simp [oneL, setRoute, bareOf]
  constructor
  · rintro ⟨o, _, h2, _, h4⟩
    rw [(one_only hr o).1 h2] at h4; exact h4
  · intro h
    exact ⟨r, by rw [hl]; exact hr, (one_only hr r).2 rfl, fun e => hk e.symm, h⟩
theorem clashing_of {k : Nat} (hk : k < p.routes.length) (hne : k ≠ r) : clashing p (r : Int) (k : Int) = clash (p.route r) (p.route k) := by
  unfold clashing
  rw [hok, inB_yes (by omega) (by omega), inB_yes (by omega) (by omega), decide_eq_false (by omega), Int.toNat_natCast, Int.toNat_natCast]; simp
theorem clash_C {k : Nat} (hk : k < p.routes.length) (hne : k ≠ r) : decide (reqC p (oneL p r) (k : Int) = 3) = clashing p (r : Int) (k : Int) := by
  have hs : (oneL p r).set.getD k false = false := by rw [not_true]; intro h; exact hne ((one_only hr k).1 h)
  have e : reqC p (oneL p r) (k : Int) = bif clash (p.route r) (p.route k) then 3 else 0 := by
    unfold reqC
    rw [lk_iff.2 (one_lk hok hr), isRoute_of hk, Int.toNat_natCast, hs, one_barred hr hne, not_held one_taken, not_stuck one_taken]; rfl
  rw [e, clashing_of hok hr hk hne]
  cases clash (p.route r) (p.route k) <;> rfl
omit hok hr in
theorem clashing_comm (i j : Int) : clashing p i j = clashing p j i := by
  unfold clashing
  have e : decide (i = j) = decide (j = i) := by by_cases h : i = j
                                                 · rw [decide_eq_true h, decide_eq_true h.symm]
                                                 · rw [decide_eq_false h, decide_eq_false (fun q => h q.symm)]
  rw [e, clash_comm]
  cases plantOk p <;> cases inB i 0 (p.routes.length - 1) <;> cases inB j 0 (p.routes.length - 1) <;> rfl
variable {b : Int} (hb : b ∈ (p.route r).blocks)
include hb
theorem blk_in : isBlock p b = true ∧ 0 ≤ b ∧ b < p.blocks := by
  have := (right_of hok).block hr hb
  exact ⟨inB_yes this.1 (by omega), this⟩
theorem occ_C : occC p (oneL p r) b = 0 := by
  have hre : reached p (oneL p r) b = true := by
    simp only [reached, List.any_eq_true, List.mem_range, Bool.and_eq_true, decide_eq_true_eq]
    have hl : (oneL p r).set.length = p.routes.length := by simp [oneL, setRoute, bareOf]
    exact ⟨r, by rw [hl]; exact hr, (one_only hr r).2 rfl, hb⟩
  unfold occC
  rw [lk_iff.2 (one_lk hok hr), (blk_in hok hr hb).1, one_taken, hre]; rfl
theorem occ_L : opL .occ p (oneL p r) b = withTaken (oneL p r) b true := by
  show occL p _ b = _
  unfold occL; rw [decide_eq_true (occ_C hok hr hb)]; rfl
omit hb in
theorem on_lk : Lk p (withTaken (oneL p r) b true) := (one_lk hok hr).taken _ _
theorem on_taken : (withTaken (oneL p r) b true).taken.getD b.toNat false = true := by
  unfold withTaken; dsimp only
  have h1 := blk_in hok hr hb
  have hf := (one_lk hok hr).fit.taken
  rw [set_get, if_pos ⟨rfl, by omega⟩]
theorem on_wd : wdC p (withTaken (oneL p r) b true) (r : Int) = 4 := by
  have hh : held p (withTaken (oneL p r) b true) r = true := by
    simp only [held, List.any_eq_true]
    exact ⟨b, hb, on_taken hok hr hb⟩
  have hs : (withTaken (oneL p r) b true).set.getD r false = true := (one_only hr r).2 rfl
  unfold wdC
  rw [lk_iff.2 (on_lk hok hr), isRoute_of hr, Int.toNat_natCast, hs, hh]; rfl
theorem vac_C : vacC p (withTaken (oneL p r) b true) b = 0 := by
  unfold vacC
  rw [lk_iff.2 (on_lk hok hr), (blk_in hok hr hb).1, on_taken hok hr hb]; rfl
omit hok hr hb in
theorem set_same {l : List Bool} {i : Nat} (h : l.getD i false = false) : (l.set i true).set i false = l := by
  rw [List.set_set]
  apply List.ext_getElem
  · simp
  · intro j h1 h2
    by_cases e : i = j
    · subst e
      rw [List.getElem_set_self]
      rw [getD_in h2] at h; exact h.symm
    · rw [List.getElem_set_ne e]
theorem vac_L : opL .vac p (withTaken (oneL p r) b true) b = oneL p r := by
  show vacL p _ b = _
  unfold vacL; rw [decide_eq_true (vac_C hok hr hb)]
  show withTaken (withTaken (oneL p r) b true) b false = _
  unfold withTaken
  dsimp only
  rw [set_same (one_taken b.toNat)]
omit hb in
theorem wd_C : wdC p (oneL p r) (r : Int) = 0 := by
  unfold wdC
  rw [lk_iff.2 (one_lk hok hr), isRoute_of hr, Int.toNat_natCast, (one_only hr r).2 rfl, not_held one_taken]; rfl
omit hb in
theorem wd_L : opL .wd p (oneL p r) (r : Int) = unsetRoute (oneL p r) (r : Int) := by
  show wdL p _ _ = _
  unfold wdL; rw [decide_eq_true (wd_C hok hr)]; rfl
omit hb in
theorem free_lk : Lk p (unsetRoute (oneL p r) (r : Int)) := (one_lk hok hr).unset _
omit hb in
theorem free_C : reqC p (unsetRoute (oneL p r) (r : Int)) (r : Int) = 0 := by
  refine req_free (free_lk hok hr) hr (one_taken (r := r)) ?_
  intro o
  unfold unsetRoute
  dsimp only
  rw [Int.toNat_natCast, set_get]
  split
  · rfl
  · rename_i e
    rw [not_true]; intro h
    have := (one_only hr o).1 h
    subst this
    exact e ⟨rfl, by have := (one_lk hok hr).fit.set; omega⟩
omit hb in
theorem throw_twice : throwAll (throwAll (bareOf p).pos (p.route r).needs) (p.route r).needs = throwAll (bareOf p).pos (p.route r).needs := by
  have hf := (Lk.bare hok).fit
  have hf1 := (one_lk hok hr).fit
  apply List.ext_getElem
  · rw [throwAll_len]
  · intro i h1 h2
    have a := setRoute_pos hf hr i
    have b := setRoute_pos hf1 hr i
    have e1 : (oneL p r).pos = throwAll (bareOf p).pos (p.route r).needs := by unfold oneL setRoute; rw [Int.toNat_natCast]
    rw [e1] at b
    rw [← getD_in (d := 0) h1, ← getD_in (d := 0) h2]
    rcases b with ⟨n, q1, q2, q3⟩ | ⟨_, q3⟩
    · rcases a with ⟨m, s1, s2, s3⟩ | ⟨s1, _⟩
      · rw [q3, s3]
        have hn := hf.ok.need hr q1
        have hm := hf.ok.need hr s1
        rw [needsGo_inj (hf.ok.goes hr) n q1 m s1 (by omega)]
      · exact absurd q2 (s1 n q1)
    · exact q3
omit hb in
theorem again_L : opL .req p (unsetRoute (oneL p r) (r : Int)) (r : Int) = oneL p r := by
  show reqL p _ _ = _
  rw [reqL_of (free_C hok hr)]
  have hl : (bareOf p).set.length = p.routes.length := by simp [bareOf]
  have e : (((bareOf p).set.set r true).set r false).set r true = (bareOf p).set.set r true := by rw [List.set_set, List.set_set]
  unfold oneL setRoute unsetRoute
  dsimp only
  rw [Int.toNat_natCast, throw_twice hok hr, e]
end
end Go.Proofs.Ytpgjllefhlanpaa
