/- The mathematics of FnShunt: what the law's loops hold. -/
import Derived.Test.YtipechbhhpagiaaMS
import Derived.Test.YtipechbhhpagiaaLK
namespace Go.Proofs.Ytipechbhhpagiaa
open Go.RowKit
/-- A row is left as it was, or its length turns. -/
theorem left_diff {room : List Int} {rows : List (List Int)} (x : ShV) (i : Nat) : rwA (leftS room rows x) i = rwA rows i ∨ (rwA (leftS room rows x) i).length ≠ (rwA rows i).length := by
  by_cases hc : codeS room rows x = 0
  · have hd := code_zero.1 hc
    obtain ⟨h1, h2, h3⟩ := hd.nf
    obtain ⟨d1, d2, d3, d4, d5, d6, d7, d8⟩ := hd
    have e0 : leftS room rows x = moveR rows x.f.toNat x.t.toNat x.m.toNat := by unfold leftS; rw [if_pos hc]
    rw [e0, moveR_at h1 h2]
    split
    · rename_i e; subst e; right; rw [List.length_take]; omega
    · split
      · rename_i e; subst e; right; rw [List.length_append, List.length_drop]; omega
      · exact .inl rfl
  · left; unfold leftS; rw [if_neg hc]
theorem left_same {room : List Int} {rows : List (List Int)} {x : ShV} (hc : codeS room rows x ≠ 0) : leftS room rows x = rows := by unfold leftS; rw [if_neg hc]
theorem play_next {room : List Int} {rows : List (List Int)} {l : List ShV} {i : Nat} (hi : i < l.length) : playR room rows (l.take (i + 1)) = leftS room (playR room rows (l.take i)) (l.getD i ShV.zero) := by
  have e : l.take (i + 1) = l.take i ++ [l.getD i ShV.zero] := by rw [List.take_succ_eq_append_getElem hi]; simp [List.getD, hi]
  rw [e, playR_snoc]
theorem play_code {room : List Int} : ∀ {l : List ShV} {rows : List (List Int)} {i : Nat}, i < l.length → (playC room rows l).getD i 0 = codeS room (playR room rows (l.take i)) (l.getD i ShV.zero)
  | [], _, _, h => by simp at h
  | y :: ys, rows, 0, _ => by simp [playC, playR]
  | y :: ys, rows, i + 1, h => by
    have := play_code (room := room) (l := ys) (rows := leftS room rows y) (i := i) (by simpa using h)
    simp only [playC, List.getD_cons_succ, List.take_succ_cons, playR]
    exact this
theorem inRows_take {rows : List (List Int)} {a : Int} {k : Nat} (hk : k < rows.length) : inRows (rows.take (k + 1)) a = inRows (rows.take k) a + (if a ∈ rwA rows k then 1 else 0) := by
  have e : rows.take (k + 1) = rows.take k ++ [rwA rows k] := by rw [List.take_succ_eq_append_getElem hk]; simp [rwA, List.getD, hk]
  rw [e]; unfold inRows; rw [List.countP_append]
  by_cases h : a ∈ rwA rows k
  · simp [h]
  · simp [h]
/-- No wagon is lost or doubled. -/
theorem play_one {room : List Int} {rows : List (List Int)} {l : List ShV} (h : SidP room rows) {i k : Nat} (hi : i < rows.length) (hk : k < (rwA rows i).length) : inRows (playR room rows l) ((rwA rows i).getD k 0) = 1 := by
  refine inRows_one _ h.play.nodup (playR_perm.mem_iff.2 ?_)
  refine List.mem_flatten.2 ⟨_, rwA_mem hi, ?_⟩
  simp [List.getD, hk]
theorem sm_all (rows : List (List Int)) : sm rows rows.length = rows.flatten.length := by unfold sm; rw [List.take_length]
theorem play_sum {room : List Int} {rows : List (List Int)} {l : List ShV} : sm (playR room rows l) rows.length = sm rows rows.length := by
  have h1 := sm_all (playR room rows l)
  rw [playR_len] at h1
  rw [h1, sm_all, playR_perm.length_eq]
/-- .. and how many there are at most on all rows of drawn sidings. -/
theorem sm_bound {room : List Int} {rows : List (List Int)} (h : SidP room rows) : ∀ i, i ≤ rows.length → sm rows i ≤ 40 * i
  | 0, _ => by rw [sm_zero]; omega
  | i + 1, hi => by
    have := sm_bound h i (by omega)
    have := h.len40 (show i < rows.length by omega)
    rw [sm_succ (by omega)]; omega
end Go.Proofs.Ytipechbhhpagiaa
