/- How long the answers are. -/
import Derived.Test.YtgnlcehpajbnoaaTK
namespace Go.Proofs.Ytgnlcehpajbnoaa
open Go.RowKit Go.Lib
theorem freeL_len (S P : Int) (hs : List BkV) (on off : Int) : (freeL S P hs on off).length ≤ 1048576 := by
  unfold freeL
  split
  · rename_i h
    rw [Bool.and_eq_true] at h
    have := freeK_len hs on off S.toNat
    have := (trainB_iff.1 h.1).s2
    omega
  · simp
theorem spreadF_len (hs : List BkV) (S e : Nat) : ∀ m p r, spreadF hs S e m p = some r → e ≤ p + m → r.length = e - p
  | 0, p, r, h, hm => by simp [spreadF] at h; subst h; simp; omega
  | m + 1, p, r, h, hm => by
    unfold spreadF at h
    by_cases h1 : e ≤ p
    · rw [if_pos h1] at h; cases h; simp; omega
    · rw [if_neg h1] at h
      by_cases h2 : (farF hs p e S).2 = p
      · rw [if_pos h2] at h; cases h
      · rw [if_neg h2] at h
        have hg := farF_ge hs p e S
        have hl := farF_le (hs := hs) (p := p) (e := e) (by omega) S
        cases hq : spreadF hs S e m (farF hs p e S).2 with
        | none => rw [hq] at h; cases h
        | some r' =>
          rw [hq] at h
          simp only [Option.map_some, Option.some.injEq] at h
          have := spreadF_len hs S e m _ r' hq (by omega)
          rw [← h, List.length_append, List.length_replicate, this]
          omega
theorem spreadV_len (S P : Int) (hs : List BkV) (on off : Int) : (spreadV S P hs on off).length ≤ 1048576 := by
  unfold spreadV
  split
  · rename_i h
    rw [Bool.and_eq_true] at h
    obtain ⟨a0, a1, a2⟩ := askB_iff.1 h.2
    have := (trainB_iff.1 h.1).p2
    cases hq : spreadF hs S.toNat off.toNat (off - on).toNat on.toNat with
    | none => simp
    | some r =>
      have := spreadF_len hs S.toNat off.toNat _ _ r hq (by omega)
      simp only [Option.getD_some]
      omega
  · simp
theorem bookA_len {S P : Int} {hs : List BkV} (id on off : Int) (hl : hs.length ≤ 1048576) : (bookA S P hs id on off).1.length ≤ 1048576 := by
  unfold bookA
  split
  · rename_i h
    have := ((trainB_iff.1 h).book id on off).len
    omega
  · exact hl
theorem unbA_len {S P : Int} {hs : List BkV} (id : Int) (hl : hs.length ≤ 1048576) : (unbA S P hs id).1.length ≤ 1048576 := by
  unfold unbA
  split
  · have := unbV_len hs id
    show (unbV hs id).length ≤ _
    omega
  · exact hl
theorem playA_len1 {S P : Int} {hs : List BkV} (l : List SaV) (hl : hs.length ≤ 1048576) : (playA S P hs l).1.length ≤ 1048576 := by
  unfold playA
  split
  · rename_i h
    rw [Bool.and_eq_true] at h
    have := (playV_tr (trainB_iff.1 h.1) l).len
    omega
  · exact hl
theorem playA_len2 (S P : Int) (hs : List BkV) {l : List SaV} (hl : l.length ≤ 1048576) : (playA S P hs l).2.length ≤ 1048576 := by
  unfold playA
  split
  · rw [playV_len]; exact hl
  · simp
end Go.Proofs.Ytgnlcehpajbnoaa
