/- What is moved by n days runs n days later: the mathematics. -/
import Derived.Test.YtmchdclieejohaaCC
import Derived.Test.YtmchdclieejohaaJ
namespace Go.Proofs.Ytmchdclieejohaa
open Go.RowKit

theorem wk_turn : ∀ (W : Fin 128) (m : Fin 7) (k : Fin 7), wkB (turnTo (W.val : Int) m.val 7) (((k.val + m.val) % 7 : Nat) : Int) = wkB (W.val : Int) (k.val : Int) := by decide +kernel
theorem turn_back : ∀ (W : Fin 128) (m : Fin 7), turnTo (turnTo (W.val : Int) m.val 7) ((7 - m.val) % 7) 7 = (W.val : Int) := by decide +kernel
theorem wkB_mod (W d : Int) : wkB W d = wkB W (d % 7) := by unfold wkB; rw [Int.emod_emod_of_dvd d (by exact ⟨1, rfl⟩)]
theorem wk_later {W : Int} (h0 : 0 ≤ W) (h1 : W ≤ 127) (n d : Int) : wkB (turnW W n) (d + n) = wkB W d := by
  obtain ⟨u, rfl⟩ := Int.eq_ofNat_of_zero_le h0
  have hm : (n % 7).toNat < 7 := by omega
  have hk : (d % 7).toNat < 7 := by omega
  have h := wk_turn ⟨u, by omega⟩ ⟨_, hm⟩ ⟨_, hk⟩
  dsimp only at h
  unfold turnW
  rw [wkB_mod _ (d + n), wkB_mod _ d]
  have e1 : (d + n) % 7 = ((((d % 7).toNat + (n % 7).toNat) % 7 : Nat) : Int) := by omega
  have e2 : d % 7 = (((d % 7).toNat : Nat) : Int) := by omega
  rw [e1, e2]
  exact h
theorem turnW_in {W : Int} (h0 : 0 ≤ W) (h1 : W ≤ 127) (n : Int) : 0 ≤ turnW W n ∧ turnW W n ≤ 127 := turn_bd' W _ 7 h0 h1 (by omega) (Nat.le_refl _)
theorem turnW_back {W : Int} (h0 : 0 ≤ W) (h1 : W ≤ 127) (n : Int) : turnW (turnW W n) (-n) = W := by
  obtain ⟨u, rfl⟩ := Int.eq_ofNat_of_zero_le h0
  have hm : (n % 7).toNat < 7 := by omega
  have h := turn_back ⟨u, by omega⟩ ⟨_, hm⟩
  dsimp only at h
  unfold turnW
  have e : ((-n) % 7).toNat = (7 - (n % 7).toNat) % 7 := by omega
  rw [e]
  exact h
theorem moved_back (n : Int) (zs : List Int) : moved (-n) (moved n zs) = zs := by
  unfold moved
  rw [List.map_map]
  have : ((fun x => x + -n) ∘ fun x => x + n) = id := by funext x; simp only [Function.comp, id]; omega
  rw [this, List.map_id]
theorem moved_getD {n : Int} {zs : List Int} {i : Nat} (h : i < zs.length) : (moved n zs).getD i 0 = zs.getD i 0 + n := by simp [moved, List.getD, h]
theorem has_moved (n : Int) (zs : List Int) (d : Int) : hasB (moved n zs) (d + n) = hasB zs d := by
  rw [Bool.eq_iff_iff]
  simp only [hasB, List.contains_iff_mem, moved, List.mem_map]
  constructor
  · rintro ⟨x, hx, e⟩
    have : x = d := by omega
    rw [← this]; exact hx
  · intro h; exact ⟨d, h, rfl⟩
theorem inB_moved (x lo hi n : Int) : inB (x + n) (lo + n) (hi + n) = inB x lo hi := by
  unfold inB; congr 1; apply propext; omega
theorem good_moved {W F T : Int} {nm : Bool} {zs : List Int} {i : Nat} (h0 : 0 ≤ W) (h1 : W ≤ 127) (n : Int) (hi : i < zs.length) : goodAt (turnW W n) (F + n) (T + n) nm (moved n zs) i = goodAt W F T nm zs i := by
  unfold goodAt
  rw [moved_getD hi, moved_getD (show i - 1 < zs.length by omega), inB_moved, wk_later h0 h1]
  congr 3
  congr 1
  apply propext
  omega
theorem dOk_moved {W F T : Int} {nm : Bool} {zs : List Int} (h0 : 0 ≤ W) (h1 : W ≤ 127) (n : Int) : dOk (turnW W n) (F + n) (T + n) nm (moved n zs) = dOk W F T nm zs := by
  unfold dOk goodTo
  rw [moved_len]
  congr 1
  rw [Bool.eq_iff_iff]
  simp only [List.all_eq_true, List.mem_range]
  constructor
  · intro h i hi; rw [← good_moved h0 h1 n hi]; exact h i hi
  · intro h i hi; rw [good_moved h0 h1 n hi]; exact h i hi
theorem patOk_later {W F T : Int} {zs es : List Int} {n : Int} (h : patOk W F T zs es = true) (hF : 0 ≤ F + n) (hT : T + n ≤ 3650) : patOk (turnW W n) (F + n) (T + n) (moved n zs) (moved n es) = true := by
  have hb := patOk_bd h
  have ht := turnW_in hb.1.1 hb.1.2 n
  simp only [patOk, Bool.and_eq_true] at h ⊢
  refine ⟨by simp [inB]; omega, by simp [inB]; omega, by simp [inB]; omega, ?_, ?_⟩
  · rw [dOk_moved hb.1.1 hb.1.2]; exact h.2.2.2.1
  · rw [dOk_moved hb.1.1 hb.1.2]; exact h.2.2.2.2
theorem onB_later {W F T : Int} {zs es : List Int} (h0 : 0 ≤ W) (h1 : W ≤ 127) (n d : Int) : onB (turnW W n) (F + n) (T + n) (moved n zs) (moved n es) (d + n) = onB W F T zs es d := by
  unfold onB
  rw [inB_moved, wk_later h0 h1, has_moved, has_moved]
theorem pick_later {b c : Int → Bool} {n : Int} (h : ∀ d, c (d + n) = b d) (f : Int) (k : Nat) : pick c (f + n) k = moved n (pick b f k) := by
  induction k with
  | zero => rfl
  | succ k ih =>
    have e : f + n + (k : Int) = f + (k : Int) + n := by omega
    cases hb : b (f + (k : Int))
    · rw [pick_no b f k hb, pick_no c (f + n) k (by rw [e, h]; exact hb), ih]
    · rw [pick_yes b f k hb, pick_yes c (f + n) k (by rw [e, h]; exact hb), ih, e]
      simp [moved]
theorem runList_later {W F T : Int} {zs es : List Int} {n : Int} (h : patOk W F T zs es = true) (hF : 0 ≤ F + n) (hT : T + n ≤ 3650) : runList (turnW W n) (F + n) (T + n) (moved n zs) (moved n es) = moved n (runList W F T zs es) := by
  have hb := patOk_bd h
  rw [runList_yes h, runList_yes (patOk_later h hF hT), show T + n + 1 - (F + n) = T + 1 - F by omega]
  exact pick_later (fun d => onB_later hb.1.1 hb.1.2 n d) F _
theorem next_moved (n d : Int) (xs : List Int) : nextOf (moved n xs) (d + n) = match xs.find? (fun x => decide (d ≤ x)) with | some y => y + n | none => -1 := by
  have e : (moved n xs).find? (fun x => decide (d + n ≤ x)) = (xs.find? (fun x => decide (d ≤ x))).map (· + n) := by
    unfold moved
    rw [List.find?_map]
    congr 2
    funext x
    simp only [Function.comp]
    congr 1
    apply propext
    omega
  unfold nextOf
  rw [e]
  cases xs.find? (fun x => decide (d ≤ x)) <;> rfl
theorem pick_mem {b : Int → Bool} {f : Int} {y : Int} : ∀ {k : Nat}, y ∈ pick b f k → b y = true ∧ f ≤ y := by
  intro k
  induction k with
  | zero => intro h; cases h
  | succ k ih =>
    intro h
    cases hb : b (f + (k : Int))
    · rw [pick_no b f k hb] at h; exact ih h
    · rw [pick_yes b f k hb, List.mem_append] at h
      rcases h with h | h
      · exact ih h
      · simp at h; rw [h]; exact ⟨hb, by omega⟩
/-- The next run, and what is known of it. -/
theorem next_cases {W F T : Int} {zs es : List Int} {n : Int} (h : patOk W F T zs es = true) (hF : 0 ≤ F + n) (hT : T + n ≤ 3650) (d : Int) :
    (nextOf (runList W F T zs es) d = -1 ∧ nextOf (runList (turnW W n) (F + n) (T + n) (moved n zs) (moved n es)) (d + n) = -1) ∨
    (∃ y, nextOf (runList W F T zs es) d = y ∧ d ≤ y ∧ 0 ≤ y ∧ y ≤ 3650 ∧ runsOnB W F T zs es y = true ∧ nextOf (runList (turnW W n) (F + n) (T + n) (moved n zs) (moved n es)) (d + n) = y + n) := by
  rw [runList_later h hF hT, next_moved]
  have hb := patOk_bd h
  cases hq : (runList W F T zs es).find? (fun x => decide (d ≤ x)) with
  | none => left; exact ⟨by simp [nextOf, hq], rfl⟩
  | some y =>
    right
    have h1 := List.find?_some hq
    have h2 := List.mem_of_find?_eq_some hq
    rw [runList_yes h] at h2
    obtain ⟨h3, h4⟩ := pick_mem h2
    have h5 : onB W F T zs es y = true := h3
    simp only [onB, Bool.and_eq_true] at h3
    have := inB_true h3.1
    exact ⟨y, by simp [nextOf, hq], by simpa using h1, by omega, by omega, by rw [ro_yes h]; exact h5, rfl⟩
end Go.Proofs.Ytmchdclieejohaa
