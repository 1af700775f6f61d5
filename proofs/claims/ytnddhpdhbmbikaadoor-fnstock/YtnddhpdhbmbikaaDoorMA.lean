/- The mathematics of formations: right ones, their length, which fit, run, are coupled, parted, turned and shunted. -/
import Derived.Test.YtnddhpdhbmbikaaDoorS
namespace Go.Proofs.YtnddhpdhbmbikaaDoor
open Go.RowKit

def uOk (u : UV) : Bool := inB u.i 1 9999 && inB u.c 1 9 && inB u.m 1 200
/-- What has been looked at so far is right: each unit for itself, and none has the Id of one ahead of it. -/
def GoodTo (l : List UV) (n : Nat) : Prop := ∀ k, k < n → uOk (l.getD k UV.zero) = true ∧ ∀ j, j < k → (l.getD j UV.zero).i ≠ (l.getD k UV.zero).i
instance (l : List UV) (n : Nat) : Decidable (GoodTo l n) := by unfold GoodTo; infer_instance
def formB (l : List UV) : Bool := decide (l.length ≤ 30 ∧ GoodTo l l.length)
theorem formB_iff {l : List UV} : formB l = true ↔ l.length ≤ 30 ∧ GoodTo l l.length := by simp [formB]
theorem formB_long {l : List UV} (h : 30 < l.length) : formB l = false := by
  cases hf : formB l
  · rfl
  · have := (formB_iff.1 hf).1; omega
theorem formB_bad {l : List UV} {k : Nat} (hk : k < l.length) (h : uOk (l.getD k UV.zero) = false) : formB l = false := by
  cases hf : formB l
  · rfl
  · have := ((formB_iff.1 hf).2 k hk).1; rw [h] at this; cases this
theorem formB_twice {l : List UV} {j k : Nat} (hk : k < l.length) (hj : j < k) (h : (l.getD j UV.zero).i = (l.getD k UV.zero).i) : formB l = false := by
  cases hf : formB l
  · rfl
  · exact absurd h (((formB_iff.1 hf).2 k hk).2 j hj)
theorem GoodTo.zero (l : List UV) : GoodTo l 0 := fun k hk => absurd hk (by omega)
theorem GoodTo.step {l : List UV} {n : Nat} (h : GoodTo l n) (hu : uOk (l.getD n UV.zero) = true) (hn : ∀ j, j < n → (l.getD j UV.zero).i ≠ (l.getD n UV.zero).i) : GoodTo l (n + 1) := by
  intro k hk
  by_cases e : k = n
  · subst e; exact ⟨hu, hn⟩
  · exact h k (by omega)
theorem GoodTo.form {l : List UV} (h : GoodTo l l.length) (hl : l.length ≤ 30) : formB l = true := formB_iff.2 ⟨hl, h⟩
/-- The same by members: right units, no two with one Id. -/
theorem form_mem {l : List UV} : formB l = true ↔ l.length ≤ 30 ∧ (∀ u, u ∈ l → uOk u = true) ∧ (l.map UV.i).Nodup := by
  rw [formB_iff]
  constructor
  · rintro ⟨hl, hg⟩
    refine ⟨hl, ?_, ?_⟩
    · intro u hu
      obtain ⟨k, hk, rfl⟩ := List.getElem_of_mem hu
      have := (hg k hk).1
      simpa [List.getD, hk] using this
    · rw [List.Nodup, List.pairwise_iff_getElem]
      intro i j hi hj hij
      simp only [List.length_map] at hi hj
      have := (hg j hj).2 i hij
      simpa [List.getD, hi, hj] using this
  · rintro ⟨hl, hu, hn⟩
    refine ⟨hl, fun k hk => ⟨?_, fun j hj => ?_⟩⟩
    · have := hu _ (List.getElem_mem hk)
      simpa [List.getD, hk] using this
    · rw [List.Nodup, List.pairwise_iff_getElem] at hn
      have := hn j k (by simp; omega) (by simp; omega) hj
      have hj2 : j < l.length := by omega
      simpa [List.getD, hj2, hk] using this

def metres (l : List UV) : Int := (l.map UV.m).sum
def lenV (l : List UV) : Int := if formB l then metres l else -1
theorem metres_step {l : List UV} {k : Nat} (hk : k < l.length) : metres (l.take (k + 1)) = metres (l.take k) + (l.getD k UV.zero).m := by
  rw [List.take_succ_eq_append_getElem hk, metres, metres, List.map_append, List.sum_append]
  simp [List.getD, hk]
theorem metres_app (a b : List UV) : metres (a ++ b) = metres a + metres b := by simp [metres]
theorem metres_bound {l : List UV} (h : ∀ u, u ∈ l → uOk u = true) : 0 ≤ metres l ∧ metres l ≤ 200 * l.length := by
  induction l with
  | nil => simp [metres]
  | cons u l ih =>
    have h1 := ih (fun v hv => h v (List.mem_cons_of_mem _ hv))
    have h2 := h u (List.mem_cons_self)
    simp [uOk, inB] at h2
    simp only [metres, List.map_cons, List.sum_cons, List.length_cons] at h1 ⊢
    omega
theorem form_m {l : List UV} (h : formB l = true) {k : Nat} (hk : k < l.length) : 1 ≤ (l.getD k UV.zero).m ∧ (l.getD k UV.zero).m ≤ 200 := by
  have := ((formB_iff.1 h).2 k hk).1
  generalize l.getD k UV.zero = u at this ⊢
  simp [uOk, inB] at this
  omega
theorem form_take_m {l : List UV} (h : formB l = true) (k : Nat) : 0 ≤ metres (l.take k) ∧ metres (l.take k) ≤ 6000 := by
  obtain ⟨h1, h2, h3⟩ := form_mem.1 h
  have := metres_bound (l := l.take k) (fun u hu => h2 u (List.mem_of_mem_take hu))
  have hl : (l.take k).length ≤ 30 := by rw [List.length_take]; omega
  omega

def fitB (a b : UV) : Bool := decide (a.c = b.c ∨ (a.c ≤ 3 ∧ b.c ≤ 3) ∨ (6 < a.c ∧ 6 < b.c))
def FitTo (l : List UV) (n : Nat) : Prop := ∀ k, k + 1 < n → fitB (l.getD k UV.zero) (l.getD (k + 1) UV.zero) = true
instance (l : List UV) (n : Nat) : Decidable (FitTo l n) := decidable_of_iff (∀ k, k < n - 1 → fitB (l.getD k UV.zero) (l.getD (k + 1) UV.zero) = true) ⟨fun h k hk => h k (by omega), fun h k hk => h k (by omega)⟩
def runB (l : List UV) : Bool := formB l && decide (l ≠ []) && decide (FitTo l l.length)
theorem runB_iff {l : List UV} : runB l = true ↔ formB l = true ∧ l ≠ [] ∧ FitTo l l.length := by simp [runB, and_assoc]
theorem runB_form {l : List UV} (h : formB l = false) : runB l = false := by simp [runB, h]
theorem runB_nil : runB [] = false := by simp [runB]
theorem runB_bad {l : List UV} {k : Nat} (hk : k + 1 < l.length) (h : fitB (l.getD k UV.zero) (l.getD (k + 1) UV.zero) = false) : runB l = false := by
  cases hf : runB l
  · rfl
  · have := (runB_iff.1 hf).2.2 k hk; rw [h] at this; cases this
theorem FitTo.one (l : List UV) : FitTo l 1 := fun k hk => absurd hk (by omega)
theorem FitTo.zero (l : List UV) : FitTo l 0 := fun k hk => absurd hk (by omega)
theorem FitTo.step {l : List UV} {n : Nat} (h : FitTo l (n + 1)) (g : fitB (l.getD n UV.zero) (l.getD (n + 1) UV.zero) = true) : FitTo l (n + 1 + 1) := by
  intro k hk
  by_cases e : k = n
  · subst e; exact g
  · exact h k (by omega)
theorem FitTo.run {l : List UV} (h : FitTo l l.length) (hf : formB l = true) (hn : l ≠ []) : runB l = true := runB_iff.2 ⟨hf, hn, h⟩
theorem FitTo.all {l : List UV} (h : FitTo l l.length) : runB l = (formB l && decide (l ≠ [])) := by simp [runB, h]

def coupB (a b : List UV) : Bool := runB a && runB b && runB (a ++ b)
def coupL (a b : List UV) : List UV := if coupB a b then a ++ b else []
def partB (l : List UV) (k : Int) : Bool := formB l && inB k 0 l.length
def headL (l : List UV) (k : Int) : List UV := if partB l k then l.take k.toNat else []
def restL (l : List UV) (k : Int) : List UV := if partB l k then l.drop k.toNat else []
def turnU (u : UV) : UV := ⟨u.i, u.c, u.m, !u.b⟩
def turned (l : List UV) : List UV := l.reverse.map turnU
def turnL (l : List UV) : List UV := if formB l then turned l else []
theorem turned_len (l : List UV) : (turned l).length = l.length := by simp [turned]
theorem turned_app (a b : List UV) : turned (a ++ b) = turned b ++ turned a := by simp [turned]
theorem turned_step {l : List UV} {k : Nat} (hk : k < l.length) : turned (l.drop k) = turned (l.drop (k + 1)) ++ [turnU (l.getD k UV.zero)] := by
  rw [List.drop_eq_getElem_cons hk, turned, turned, List.reverse_cons, List.map_append]
  simp [List.getD, hk]
theorem turned_ids (l : List UV) : (turned l).map UV.i = (l.map UV.i).reverse := by
  simp only [turned, List.map_map, ← List.map_reverse]
  rfl
theorem turnU_ok (u : UV) : uOk (turnU u) = uOk u := rfl
theorem turned_twice (l : List UV) : turned (turned l) = l := by
  simp only [turned, ← List.map_reverse, List.reverse_reverse, List.map_map]
  have : (turnU ∘ turnU) = id := by funext u; simp [turnU]
  rw [this]; simp
def shunt1 (l : List UV) (k : Nat) : List UV := l.drop k ++ turned (l.take k)
theorem shunt1_len (l : List UV) (k : Nat) : (shunt1 l k).length = l.length := by simp [shunt1, turned_len]; omega
theorem form_turned {l : List UV} : formB (turned l) = formB l := by
  apply Bool.eq_iff_iff.2
  rw [form_mem, form_mem, turned_len, turned_ids, (List.reverse_perm _).nodup_iff]
  constructor
  · rintro ⟨h1, h2, h3⟩
    refine ⟨h1, fun u hu => ?_, h3⟩
    have := h2 (turnU u) (by simp only [turned, List.mem_map]; exact ⟨u, by simpa using hu, rfl⟩)
    rwa [turnU_ok] at this
  · rintro ⟨h1, h2, h3⟩
    refine ⟨h1, fun u hu => ?_, h3⟩
    simp only [turned, List.mem_map, List.mem_reverse] at hu
    obtain ⟨v, hv, rfl⟩ := hu
    rw [turnU_ok]; exact h2 v hv
theorem form_shunt1 {l : List UV} (k : Nat) (h : formB l = true) : formB (shunt1 l k) = true := by
  obtain ⟨h1, h2, h3⟩ := form_mem.1 h
  rw [form_mem, shunt1_len]
  refine ⟨h1, fun u hu => ?_, ?_⟩
  · simp only [shunt1, turned, List.mem_append, List.mem_map, List.mem_reverse] at hu
    rcases hu with hu | ⟨v, hv, rfl⟩
    · exact h2 u (List.mem_of_mem_drop hu)
    · rw [turnU_ok]; exact h2 v (List.mem_of_mem_take hv)
  · have e : ((shunt1 l k).map UV.i).Perm (l.map UV.i) := by
      rw [shunt1, List.map_append, turned_ids]
      refine (List.Perm.append_left _ (List.reverse_perm _)).trans ?_
      refine List.perm_append_comm.trans ?_
      rw [← List.map_append, List.take_append_drop]
    exact e.nodup_iff.2 h3
theorem form_sub {l l' : List UV} (h : formB l = true) (hs : l'.Sublist l) : formB l' = true := by
  obtain ⟨h1, h2, h3⟩ := form_mem.1 h
  exact form_mem.2 ⟨Nat.le_trans hs.length_le h1, fun u hu => h2 u (hs.subset hu), (hs.map UV.i).nodup h3⟩
theorem form_take {l : List UV} (k : Nat) (h : formB l = true) : formB (l.take k) = true := form_sub h (List.take_sublist _ _)
theorem form_drop {l : List UV} (k : Nat) (h : formB l = true) : formB (l.drop k) = true := form_sub h (List.drop_sublist _ _)
def shB (l : List UV) (cs : List Int) : Bool := formB l && decide (cs.length ≤ 30) && cs.all (fun c => inB c 0 l.length)
def shTo (l : List UV) (cs : List Int) : List UV := cs.foldl (fun x c => shunt1 x c.toNat) l
def shL (l : List UV) (cs : List Int) : List UV := if shB l cs then shTo l cs else []
theorem shTo_step (l : List UV) {cs : List Int} {k : Nat} (hk : k < cs.length) : shTo l (cs.take (k + 1)) = shunt1 (shTo l (cs.take k)) (cs.getD k 0).toNat := by
  rw [List.take_succ_eq_append_getElem hk, shTo, List.foldl_append]
  simp [shTo, List.getD, hk]
theorem shTo_len (l : List UV) (cs : List Int) : (shTo l cs).length = l.length := by
  induction cs generalizing l with
  | nil => rfl
  | cons c cs ih => exact (ih (shunt1 l c.toNat)).trans (shunt1_len _ _)
theorem shTo_form {l : List UV} (cs : List Int) (h : formB l = true) : formB (shTo l cs) = true := by
  induction cs generalizing l with
  | nil => exact h
  | cons c cs ih => exact ih (form_shunt1 _ h)
end Go.Proofs.YtnddhpdhbmbikaaDoor
