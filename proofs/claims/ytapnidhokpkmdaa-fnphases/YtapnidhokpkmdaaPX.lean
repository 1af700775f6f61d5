/- What opening a switch does to phases; a row of bools put behind one. -/
import Derived.Test.YtapnidhokpkmdaaPS
import Derived.Test.YtapnidhokpkmdaaDK
import Derived.BigQuiet
namespace Go.Proofs.Ytapnidhokpkmdaa
open Go.RowKit

theorem ex_lo (c : Nat → Bool) (i : Nat) : ∃ a, IsLo c i a := by
  induction i with
  | zero => exact ⟨0, Nat.le_refl _, fun j h1 h2 => by omega, .inl rfl⟩
  | succ i ih =>
    cases h : c i
    · exact ⟨i + 1, Nat.le_refl _, fun j h1 h2 => by omega, .inr (by simpa using h)⟩
    · obtain ⟨a, ha⟩ := ih
      refine ⟨a, by have := ha.le; omega, fun j h1 h2 => ?_, ha.stop⟩
      by_cases e : j = i
      · rw [e]; exact h
      · exact ha.all j h1 (by omega)
theorem ex_hi (c : Nat → Bool) (n : Nat) : ∀ m i, n - i = m → i < n → ∃ b, IsHi c n i b := by
  intro m
  induction m with
  | zero => intro i h1 h2; omega
  | succ m ih =>
    intro i h1 h2
    by_cases hl : i + 1 = n
    · exact ⟨i, Nat.le_refl _, h2, fun j h1 h2 => by omega, .inl hl⟩
    · cases h : c i
      · exact ⟨i, Nat.le_refl _, h2, fun j h1 h2 => by omega, .inr h⟩
      · obtain ⟨b, hb⟩ := ih (i + 1) (by omega) (by omega)
        refine ⟨b, by have := hb.le; omega, hb.lt, fun j h1 h2 => ?_, hb.stop⟩
        by_cases e : j = i
        · rw [e]; exact h
        · exact hb.all j (by omega) h2
theorem sgm_all {f : Nat → Int} {a : Nat} : ∀ m, sgm f a m ≠ 4 → ∀ t, t < m → f (a + t) = 0 ∨ f (a + t) = sgm f a m := by
  intro m
  induction m with
  | zero => intro _ t ht; omega
  | succ m ih =>
    intro h t ht
    rw [sgm_succ] at h ⊢
    by_cases h4 : sgm f a m = 4
    · exfalso
      apply h
      rw [h4]
      unfold jn
      by_cases h5 : (4 : Int) = f (a + m)
      · simp [← h5]
      · by_cases h6 : f (a + m) = 0
        · simp [h6]
        · simp [h5, h6]
    · have hp := ih h4
      by_cases e : t = m
      · subst e
        unfold jn at h ⊢
        split
        · exact .inr rfl
        · rename_i h1
          rw [if_neg h1] at h
          split
          · rename_i h2; exact .inl h2
          · rename_i h2; rw [if_neg h2] at h; exact absurd rfl h
      · have ht2 := hp t (by omega)
        unfold jn at h ⊢
        split
        · rename_i h1
          rcases h1 with h1 | h1
          · rw [h1] at ht2; exact .inl (by rcases ht2 with h | h <;> exact h)
          · rw [← h1]; exact ht2
        · rename_i h1
          rw [if_neg h1] at h
          split
          · exact ht2
          · rename_i h2; rw [if_neg h2] at h; exact absurd rfl h
theorem sgm_in {f : Nat → Int} {a : Nat} {v : Int} : ∀ m, (∀ t, t < m → f (a + t) = 0 ∨ f (a + t) = v) → sgm f a m = 0 ∨ sgm f a m = v := by
  intro m
  induction m with
  | zero => intro _; exact .inl rfl
  | succ m ih =>
    intro h
    rw [sgm_succ]
    have h1 := ih (fun t ht => h t (by omega))
    have h2 := h m (by omega)
    unfold jn
    rcases h2 with h2 | h2
    · rw [h2]
      rcases h1 with h1 | h1
      · simp [h1]
      · by_cases h3 : sgm f a m = 0
        · simp [h3]
        · simp [h3]; exact h1
    · rw [h2]
      rcases h1 with h1 | h1
      · simp [h1]
      · simp [h1]
/-- An opened switch never gives a phase that was not there. -/
theorem open_ph {f : Nat → Int} {c c' : Nat → Bool} {n k : Nat} (hc : ∀ j, c' j = true → c j = true) (hk : k < n) (h4 : ph f c n k ≠ 4) : ph f c' n k = 0 ∨ ph f c' n k = ph f c n k := by
  obtain ⟨a, ha⟩ := ex_lo c k
  obtain ⟨b, hb⟩ := ex_hi c n _ k rfl hk
  obtain ⟨a', ha'⟩ := ex_lo c' k
  obtain ⟨b', hb'⟩ := ex_hi c' n _ k rfl hk
  have h1 : a ≤ a' := by
    apply Nat.le_of_not_lt
    intro hlt
    rcases ha.stop with h | h
    · omega
    · have := hc _ (ha'.all (a - 1) (by omega) (by have := ha.le; omega))
      rw [h] at this; cases this
  have h2 : b' ≤ b := by
    apply Nat.le_of_not_lt
    intro hlt
    rcases hb.stop with h | h
    · have := hb'.lt; omega
    · have := hc _ (hb'.all b hb.le hlt)
      rw [h] at this; cases this
  have e1 := ph_sgm (f := f) ha hb
  have e2 := ph_sgm (f := f) ha' hb'
  rw [e1] at h4 ⊢
  rw [e2]
  have hA := sgm_all _ h4
  generalize sgm f a (b - a + 1) = v at *
  refine sgm_in _ (fun t ht => ?_)
  have := hA (a' - a + t) (by have := ha'.le; have := hb'.le; omega)
  rwa [show a + (a' - a + t) = a' + t by omega] at this
theorem open_ph0 {f : Nat → Int} {c c' : Nat → Bool} {n k : Nat} (hc : ∀ j, c' j = true → c j = true) (hk : k < n) (h0 : ph f c n k = 0) : ph f c' n k = 0 := by
  rcases open_ph (f := f) hc hk (by rw [h0]; decide) with h | h
  · exact h
  · rw [h, h0]
theorem ph_apart {f : Nat → Int} {c : Nat → Bool} (hc : ∀ j, c j = false) (n i : Nat) : ph f c n i = f i := by
  have hf : fw f c i = f i := by cases i <;> simp [fw, hc]
  by_cases h : i + 1 < n
  · rw [ph_step h, hc, if_neg (by simp), hf]
  · rw [ph_last (by omega), hf]
theorem cA_rep (m j : Nat) : cA (List.replicate m false) j = false := by
  unfold cA
  by_cases h : j < m <;> simp [List.getD, h]
theorem cA_less {qs : List Bool} {i j : Nat} (h : cA (qs.set i false) j = true) : cA qs j = true := by
  unfold cA at h ⊢
  by_cases e : i = j
  · subst e
    exfalso
    by_cases hl : i < qs.length
    · simp [List.getD, hl] at h
    · simp [List.getD, hl] at h
  · simpa [List.getD, e] using h
theorem fA_all {fs : List Int} : (List.range fs.length).map (fA fs) = fs := by
  apply List.ext_getElem?
  intro j
  by_cases hj : j < fs.length
  · simp [fA, List.getD, hj]
  · simp [hj]
theorem own_apart {w : World} {B B' e e' sz sz' n n' : Nat} {v v' : Value} {xs xs' : List Value} (h : w.ownsRow B e sz v n xs) (h' : w.ownsRow B' e' sz' v' n' xs') (hne : e ≠ e') : ∀ k, v.ownBlock = some k → some k ≠ v'.ownBlock := by
  intro k hk e1
  rcases h.2 with ⟨rfl, _⟩ | ⟨g, cap, cur, rfl, _, hh, _⟩
  · simp [Value.ownBlock] at hk
  · rcases h'.2 with ⟨rfl, _⟩ | ⟨g', cap', cur', rfl, _, hh', _⟩
    · simp [Value.ownBlock] at e1
    · simp [Value.ownBlock] at hk e1
      subst hk
      subst e1
      rw [hh] at hh'
      simp at hh'
      exact hne hh'.2
/-- Drawn feeds are right. -/
theorem phB_mk {fs : List Int} {qs : List Bool} (h1 : fs.length ≤ 40) (h2 : ∀ x ∈ fs, 0 ≤ x ∧ x ≤ 3) (h3 : qs.length = fs.length - 1) : phB fs qs = true :=
  (phB_iff fs qs).2 ⟨h1, List.all_eq_true.2 (fun x hx => inB_yes (h2 x hx).1 (h2 x hx).2), h3⟩
/-! A row of bools put behind one. -/
def encB (qs : List Bool) : List Value := qs.map Value.bool
theorem bools_news {w : World} {b off : Nat} {ys : List Bool} (h : ∀ i, i < ys.length → w.cell? ⟨b, off + i, none⟩ = some (Value.bool (ys.getD i false))) : ∀ j u, (encB ys)[j]? = some u → w.cell? ((⟨b, off, none⟩ : Addr).add j) = some u := by
  intro j u hu
  have hj : j < ys.length := by have := (List.getElem?_eq_some_iff.1 hu).1; simpa [encB] using this
  have e : (⟨b, off, none⟩ : Addr).add j = ⟨b, off + j, none⟩ := by unfold Addr.add; split <;> simp_all
  rw [e, h j hj, ← hu]
  simp [encB, List.getD, hj]
theorem encB_one {ys : List Bool} : ∀ u ∈ encB ys, u.oneCell' = true := by
  intro u hu
  simp [encB] at hu
  rcases hu with ⟨_, rfl⟩ | ⟨_, rfl⟩ <;> rfl
theorem app_bools {w : World} {B : Nat} {v : Value} {ys : List Bool} (h : w.ownsRow B 4 1 v 0 []) (a : Option Addr) (c : Nat) (hy : Bools w a ys) (hn : ys ≠ []) (hl : ys.length ≤ 1000000000) (hB : B ≤ w.heap.size) :
    ∃ v2 w2, (Builtin.append_ #[41, 41] 41 #[v, .slice a ys.length c]).run Try.prog w = .ok v2 w2 ∧ w2.ownsRow B 4 1 v2 ys.length (encB ys) ∧ w.grownBy w2 v.ownBlock := by
  obtain ⟨i0, hi, hz0, hz1, hz2⟩ := info_parts infoBools
  rcases hy with hy | ⟨b, off, rfl, hc⟩
  · exact absurd hy hn
  · obtain ⟨v2, w2, hr, h2, h3, _, _⟩ := run_append_own_at (P := Try.prog) w B 41 41 4 i0 (.bool false) 1 1 Try.underlying41 hi hz0 hz1 hz2 rfl (by decide) v 0 [] h ⟨b, off, none⟩ ys.length c (encB ys) (by simp [encB]) (bools_news hc) encB_one (by unfold maxLen; omega) (by omega) hB
    exact ⟨v2, w2, hr, by simpa using h2, h3⟩
set_option maxHeartbeats 800000 in
theorem cSameInts (a1 a2 : Option Addr) (c1 c2 : Nat) (xs : List Int) (w : World) (h1 : Ints w a1 xs) (h2 : Ints w a2 xs) (hl : xs.length ≤ 1048576) :
    Calls Try.prog 31 #[.slice a1 xs.length c1, .slice a2 xs.length c2] w fun e w' => e = .returned (.bool true) ∧ Below w.heap.size w w' := by
  go_enter Try.func31, Try.ntmps31
  go_wp2
  go_loopw [5] (fun i wr => ∃ k : Nat, k ≤ xs.length ∧ i = .int .i64 k ∧ Below w.heap.size w wr) (fun i _ => xs.length - (intOf i).toNat)
  case atStart => exact ⟨0, Nat.zero_le _, rfl, Below.refl _ _⟩
  case round =>
    obtain ⟨k, hk, rfl, hb⟩ := hrel
    by_cases hlt : k < xs.length
    · rcases h1 with h | ⟨b1, o1, rfl, q1⟩
      · simp [h] at hlt
      rcases h2 with h | ⟨b2, o2, rfl, q2⟩
      · simp [h] at hlt
      have p1 := ble hb (q1 k hlt)
      have p2 := ble hb (q2 k hlt)
      clear q1 q2
      generalize xs.getD k 0 = y at *
      go_wp2
      go_quiet (fail)
      go_wp2
      go_roundw
      case rel => exact ⟨k + 1, by omega, by go_num, bdraw hb _⟩
      case measure => simp [intOf]; omega
    · obtain rfl : k = xs.length := by omega
      clear h1 h2
      go_wp2
      go_ret
      exact ⟨rfl, hb⟩

end Go.Proofs.Ytapnidhokpkmdaa
