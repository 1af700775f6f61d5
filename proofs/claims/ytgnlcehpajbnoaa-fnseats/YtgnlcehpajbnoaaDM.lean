/- The mathematics of spread seats. -/
import Derived.Test.YtgnlcehpajbnoaaTL
namespace Go.Proofs.Ytgnlcehpajbnoaa
open Go.RowKit Go.Lib
theorem spreadF_in (hs : List BkV) (S e : Nat) : ∀ m p r, spreadF hs S e m p = some r → e ≤ p + m → ∀ i, i < r.length → 0 ≤ r.getD i 0 ∧ r.getD i 0 < S ∧ heldB hs (r.getD i 0) ((p + i : Nat) : Int) = false
  | 0, p, r, h, hm, i, hi => by simp [spreadF] at h; subst h; simp at hi
  | m + 1, p, r, h, hm, i, hi => by
    unfold spreadF at h
    by_cases h1 : e ≤ p
    · rw [if_pos h1] at h; cases h; simp at hi
    · rw [if_neg h1] at h
      by_cases h2 : (farF hs p e S).2 = p
      · rw [if_pos h2] at h; cases h
      · rw [if_neg h2] at h
        have hg := farF_ge hs p e S
        have hf := farF_is hs p e S (by omega)
        cases hq : spreadF hs S e m (farF hs p e S).2 with
        | none => rw [hq] at h; cases h
        | some r' =>
          rw [hq] at h
          simp only [Option.map_some, Option.some.injEq] at h
          have ih := spreadF_in hs S e m _ r' hq (by omega)
          generalize farF hs p e S = F at *
          obtain ⟨f, q⟩ := F
          simp only at *
          subst h
          by_cases hlt : i < q - p
          · rw [show (List.replicate (q - p) f ++ r').getD i 0 = f by simp [List.getD, List.getElem?_append, hlt]]
            exact ⟨hf.1, hf.2.1, untilE_free (a := p) (e := e) (by omega) (by rw [hf.2.2]; omega)⟩
          · have hi2 : i - (q - p) < r'.length := by simp at hi; omega
            rw [show (List.replicate (q - p) f ++ r').getD i 0 = r'.getD (i - (q - p)) 0 by simp [List.getD, List.getElem?_append, hlt]]
            have := ih (i - (q - p)) hi2
            rw [show q + (i - (q - p)) = p + i by omega] at this
            exact this
theorem spreadF_none (hs : List BkV) (S e : Nat) : ∀ m p, spreadF hs S e m p = none → e ≤ p + m → ∃ q, p ≤ q ∧ q < e ∧ (farF hs q e S).2 = q
  | 0, p, h, hm => by simp [spreadF] at h
  | m + 1, p, h, hm => by
    unfold spreadF at h
    by_cases h1 : e ≤ p
    · rw [if_pos h1] at h; cases h
    · rw [if_neg h1] at h
      by_cases h2 : (farF hs p e S).2 = p
      · exact ⟨p, Nat.le_refl _, by omega, h2⟩
      · rw [if_neg h2] at h
        have hg := farF_ge hs p e S
        cases hq : spreadF hs S e m (farF hs p e S).2 with
        | none =>
          obtain ⟨q, q1, q2, q3⟩ := spreadF_none hs S e m _ hq (by omega)
          exact ⟨q, by omega, q2, q3⟩
        | some r' => rw [hq] at h; cases h
theorem far_held {hs : List BkV} {S e q : Nat} (hq : q < e) (h : (farF hs q e S).2 = q) {s : Nat} (hs' : s < S) : heldB hs (s : Int) (q : Int) = true := by
  cases hh : heldB hs (s : Int) (q : Int) with
  | true => rfl
  | false =>
    have h1 := farF_max hs q e S s hs'
    have h2 := untilE_go (e := e) hq hh
    have h3 := untilE_ge hs (s : Int) (q + 1) e
    omega
theorem untilE_all {hs : List BkV} {s : Int} {a e : Nat} (h : a ≤ e) (g : ∀ p, a ≤ p → p < e → heldB hs s (p : Int) = false) : untilE hs s a e = e := by
  have h1 := untilE_le (hs := hs) (s := s) h
  have h2 := untilE_ge hs s a e
  by_cases hlt : untilE hs s a e < e
  · have := untilN_held hs s (e - a) a (by show untilE hs s a e < _; omega)
    have g2 := g (untilE hs s a e) h2 hlt
    rw [show untilN hs s (e - a) a = untilE hs s a e from rfl, g2] at this
    cases this
  · omega
theorem freeL_mem {S P : Int} {hs : List BkV} (hT : Tr S P hs) {on off : Int} (h0 : 0 ≤ on) (h1 : on < off) (h2 : off ≤ P) {x : Int} : x ∈ freeL S P hs on off ↔ 0 ≤ x ∧ x < S ∧ freeB hs x on off = true := by
  unfold freeL
  rw [trainB_iff.2 hT, askB_iff.2 ⟨h0, h1, h2⟩]
  have := hT.s1
  simp only [Bool.and_self, if_true, freeK_mem]
  rw [show ((S.toNat : Nat) : Int) = S by omega]
theorem freeL_one {S P : Int} {hs : List BkV} (hT : Tr S P hs) {p : Int} (h0 : 0 ≤ p) (h2 : p + 1 ≤ P) {x : Int} : x ∈ freeL S P hs p (p + 1) ↔ 0 ≤ x ∧ x < S ∧ heldB hs x p = false := by
  rw [freeL_mem hT h0 (by omega) h2, freeB_iff]
  constructor
  · rintro ⟨a, b, c⟩; exact ⟨a, b, c p (Int.le_refl _) (by omega)⟩
  · rintro ⟨a, b, c⟩; exact ⟨a, b, fun q q1 q2 => by rw [show q = p by omega]; exact c⟩
/-- What is told of spread seats. -/
structure Spr (S P : Int) (hs : List BkV) (on off : Int) (L : List Int) : Prop where
  non : L.length = 0 → ∃ p, on ≤ p ∧ p < off ∧ (freeL S P hs p (p + 1)).length = 0
  len : L.length ≠ 0 → (L.length : Int) = off - on
  free : ∀ i, i < L.length → L.getD i 0 ∈ freeL S P hs (on + i) (on + i + 1)
  one : L.length ≠ 0 → ((∀ i, i < L.length → L.getD i 0 = L.getD 0 0) ↔ 0 < (freeL S P hs on off).length)
theorem spr {S P : Int} {hs : List BkV} (hT : Tr S P hs) {on off : Int} (h0 : 0 ≤ on) (h1 : on < off) (h2 : off ≤ P) : Spr S P hs on off (spreadV S P hs on off) := by
  have s1 := hT.s1
  obtain ⟨N, rfl⟩ : ∃ N : Nat, S = N := ⟨S.toNat, by omega⟩
  obtain ⟨p, rfl⟩ : ∃ p : Nat, on = p := ⟨on.toNat, by omega⟩
  obtain ⟨e, rfl⟩ : ∃ e : Nat, off = e := ⟨off.toNat, by omega⟩
  have E : spreadV N P hs p e = (spreadF hs N e (e - p) p).getD [] := by
    unfold spreadV
    rw [trainB_iff.2 hT, askB_iff.2 ⟨h0, h1, h2⟩]
    simp only [Bool.and_self, if_true, Int.toNat_natCast]
    rw [show ((e : Int) - (p : Int)).toNat = e - p by omega]
  rw [E]
  cases hq : spreadF hs N e (e - p) p with
  | none =>
    obtain ⟨q, q1, q2, q3⟩ := spreadF_none hs N e _ p hq (by omega)
    simp only [Option.getD_none]
    refine ⟨fun _ => ⟨q, by omega, by omega, ?_⟩, fun h => absurd rfl h, fun i hi => absurd hi (Nat.not_lt_zero _), fun h => absurd rfl h⟩
    rw [List.length_eq_zero_iff]
    refine List.eq_nil_iff_forall_not_mem.2 fun x hx => ?_
    obtain ⟨x0, x1, x2⟩ := (freeL_one hT (by omega) (by omega)).1 hx
    have := far_held (hs := hs) (S := N) q2 q3 (s := x.toNat) (by omega)
    rw [show ((x.toNat : Nat) : Int) = x by omega, x2] at this
    cases this
  | some r =>
    have hl := spreadF_len hs N e _ p r hq (by omega)
    have hin := spreadF_in hs N e _ p r hq (by omega)
    simp only [Option.getD_some]
    have hfree : ∀ i, i < r.length → r.getD i 0 ∈ freeL N P hs (p + i) (p + i + 1) := by
      intro i hi
      obtain ⟨a, b, c⟩ := hin i hi
      refine (freeL_one hT (by omega) (by omega)).2 ⟨a, b, ?_⟩
      rw [show ((p + i : Nat) : Int) = (p : Int) + i by omega] at c
      exact c
    refine ⟨fun h => by omega, fun _ => by omega, hfree, fun hne => ⟨fun hall => ?_, fun hpos => ?_⟩⟩
    · obtain ⟨a, b, -⟩ := hin 0 (by omega)
      refine List.length_pos_of_mem ((freeL_mem hT h0 h1 h2).2 ⟨a, b, freeB_iff.2 fun q q1 q2 => ?_⟩)
      have := (hin (q.toNat - p) (by omega)).2.2
      rw [hall _ (by omega), show ((p + (q.toNat - p) : Nat) : Int) = q by omega] at this
      exact this
    · obtain ⟨x, hx⟩ := List.exists_mem_of_length_pos hpos
      obtain ⟨x0, x1, x2⟩ := (freeL_mem hT h0 h1 h2).1 hx
      rw [freeB_iff] at x2
      have hu : untilE hs x p e = e := untilE_all (by omega) (fun q q1 q2 => x2 q (by omega) (by omega))
      have hm := farF_max hs p e N x.toNat (by omega)
      rw [show ((x.toNat : Nat) : Int) = x by omega, hu] at hm
      have hle := farF_le (hs := hs) (p := p) (e := e) (by omega) N
      have hfe : (farF hs p e N).2 = e := by omega
      have hr : r = List.replicate (e - p) (farF hs p e N).1 := by
        rw [show e - p = (e - p - 1) + 1 by omega] at hq
        unfold spreadF at hq
        rw [if_neg (by omega), if_neg (by omega), hfe] at hq
        have : spreadF hs N e (e - p - 1) e = some [] := by
          cases e - p - 1 with
          | zero => rfl
          | succ k => simp [spreadF]
        rw [this] at hq
        simp at hq
        exact hq.symm
      intro i hi
      rw [hr] at hi ⊢
      simp only [List.length_replicate] at hi
      simp [List.getD, hi, show 0 < e - p by omega]
end Go.Proofs.Ytgnlcehpajbnoaa
