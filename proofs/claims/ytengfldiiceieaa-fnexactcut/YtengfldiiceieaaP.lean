/- The laws' marks: whole numbers written into every field of a net's edges, and read again. -/
import Derived.Test.YtengfldiiceieaaN
namespace Go.Proofs.Ytengfldiiceieaa
open Go.RowKit

/-- The i-th marked edge. -/
def markE (k : Int) (i : Nat) : EdgeV := ⟨k + 4 * i, k + 4 * i + 1, k + 4 * i + 2, k + 4 * i + 3⟩
def marksE (k : Int) (n : Nat) : List EdgeV := (List.range n).map (markE k)
theorem marksE_len (k : Int) (n : Nat) : (marksE k n).length = n := by simp [marksE]
theorem marksE_succ (k : Int) (n : Nat) : marksE k (n + 1) = marksE k n ++ [markE k n] := by simp [marksE, List.range_succ]
theorem marksE_get (k : Int) (n i : Nat) (h : i < n) : (marksE k n).getD i EdgeV.zero = markE k i := by simp [marksE, List.getD, h]

theorem flat_set4 (xs ys : List EdgeV) (e : EdgeV) (a b l m : Int) (q : Nat) (hq : q = xs.length) :
    ((((flat (xs ++ e :: ys)).set (q * 4) (.int .i64 a)).set (q * 4 + 1) (.int .i64 b)).set (q * 4 + 2) (.int .i64 l)).set (q * 4 + 3) (.int .i64 m) = flat (xs ++ ⟨a, b, l, m⟩ :: ys) := by
  have e2 : (flat xs).length = q * 4 := by rw [flat_len, hq]
  rw [flat_app, flat_app, flat_cons, flat_cons, List.set_append_right _ _ (by omega), List.set_append_right _ _ (by omega), List.set_append_right _ _ (by omega), List.set_append_right _ _ (by omega), e2]
  have a0 : q * 4 - q * 4 = 0 := by omega
  have a1 : q * 4 + 1 - q * 4 = 1 := by omega
  have a2 : q * 4 + 2 - q * 4 = 2 := by omega
  have a3 : q * 4 + 3 - q * 4 = 3 := by omega
  rw [a0, a1, a2, a3]
  simp
theorem mark_step (es : List EdgeV) (k : Int) (i : Nat) (hi : i < es.length) :
    ((((flat (marksE k i ++ es.drop i)).set (i * 4) (.int .i64 (k + 4 * i))).set (i * 4 + 1) (.int .i64 (k + 4 * i + 1))).set (i * 4 + 2) (.int .i64 (k + 4 * i + 2))).set (i * 4 + 3) (.int .i64 (k + 4 * i + 3)) = flat (marksE k (i + 1) ++ es.drop (i + 1)) := by
  rw [List.drop_eq_getElem_cons hi, flat_set4 _ _ _ _ _ _ _ i (marksE_len k i).symm, marksE_succ, List.append_assoc]
  rfl

theorem grown_refl (w : World) (r : Option Nat) : w.grownBy w r := ⟨rfl, rfl, rfl, Nat.le_refl _, fun _ _ _ => rfl⟩
theorem grown_trans {a b c : World} {r : Option Nat} (h : a.grownBy b r) (g : b.grownBy c r) : a.grownBy c r :=
  ⟨g.os.trans h.os, g.tape.trans h.tape, g.output.trans h.output, Nat.le_trans h.size g.size, fun k hk hr => (g.block k (Nat.lt_of_lt_of_le hk h.size) hr).trans (h.block k hk hr)⟩

set_option maxHeartbeats 3200000 in
theorem c61g (B g cap : Nat) (es : List EdgeV) (k : Int) (w : World) (ho : w.ownsRow B 41 4 (.slice (some ⟨g, 0, none⟩) es.length cap) es.length (flat es)) (hl : es.length ≤ 1048576) (hk0 : 0 ≤ k) (hk1 : k ≤ 10000000) :
    Calls Try.prog 61 #[.slice (some ⟨g, 0, none⟩) es.length cap, .int .i64 k] w fun e w' => e = .returned (.int .i64 (k + 4 * es.length)) ∧
      w'.ownsRow B 41 4 (.slice (some ⟨g, 0, none⟩) es.length cap) es.length (flat (marksE k es.length)) ∧ w.grownBy w' (some g) := by
  go_enter Try.func61, Try.ntmps61
  go_wp2
  go_loopw [1, 5] (fun kk i wr => ∃ j : Nat, j ≤ es.length ∧ i = .int .i64 j ∧ kk = .int .i64 (k + 4 * j) ∧ wr.ownsRow B 41 4 (.slice (some ⟨g, 0, none⟩) es.length cap) es.length (flat (marksE k j ++ es.drop j)) ∧ w.grownBy wr (some g)) (fun _ i _ => es.length - (intOf i).toNat)
  case atStart => exact ⟨0, Nat.zero_le _, rfl, by simp, by simpa [marksE] using ho, grown_refl _ _⟩
  case round =>
    obtain ⟨j, hj, rfl, rfl, hown, hg⟩ := hrel
    by_cases hlt : j < es.length
    · have f0 := hown.frozenAt (j * 4)
      have f1 := hown.frozenAt (j * 4 + 1)
      have f2 := hown.frozenAt (j * 4 + 2)
      have f3 := hown.frozenAt (j * 4 + 3)
      have hlen : (marksE k j ++ es.drop j).length = es.length := by rw [List.length_append, marksE_len, List.length_drop]; omega
      obtain ⟨y0, y1, y2, y3⟩ := flat_get (marksE k j ++ es.drop j) j (by omega)
      have z0 := (hown.cellAt (j * 4) (by omega)).trans y0
      have z1 := (hown.cellAt (j * 4 + 1) (by omega)).trans y1
      have z2 := (hown.cellAt (j * 4 + 2) (by omega)).trans y2
      have z3 := (hown.cellAt (j * 4 + 3) (by omega)).trans y3
      generalize (marksE k j ++ es.drop j).getD j EdgeV.zero = E at z0 z1 z2 z3
      clear y0 y1 y2 y3
      obtain ⟨s1, t1⟩ := hown.stored (j * 4) (.int .i64 (k + 4 * j))
      obtain ⟨s2, t2⟩ := s1.stored (j * 4 + 1) (.int .i64 (k + 4 * j + 1))
      obtain ⟨s3, t3⟩ := s2.stored (j * 4 + 2) (.int .i64 (k + 4 * j + 2))
      obtain ⟨s4, t4⟩ := s3.stored (j * 4 + 3) (.int .i64 (k + 4 * j + 3))
      rw [mark_step es k j hlt] at s4
      have hg' := grown_trans hg (grown_trans t1 (grown_trans t2 (grown_trans t3 t4)))
      have w1 : IntKind.i64.wrap (k + 4 * (j : Int) + 1) = k + 4 * (j : Int) + 1 := wrap_in _ (by omega) (by omega)
      have w2 : IntKind.i64.wrap (k + 4 * (j : Int) + 1 + 1) = k + 4 * (j : Int) + 2 := (wrap_in _ (by omega) (by omega)).trans (by omega)
      have w3 : IntKind.i64.wrap (k + 4 * (j : Int) + 2 + 1) = k + 4 * (j : Int) + 3 := (wrap_in _ (by omega) (by omega)).trans (by omega)
      have w4 : IntKind.i64.wrap (k + 4 * (j : Int) + 3 + 1) = k + 4 * ((j : Int) + 1) := (wrap_in _ (by omega) (by omega)).trans (by omega)
      clear hown s1 s2 s3 t1 t2 t3 t4 hg hlen
      go_wp2
      exact ⟨⟨j + 1, by omega, by go_num, by go_num, s4, hg'⟩, by simp [intOf]; omega⟩
    · have hjj : j = es.length := by omega
      subst hjj
      have hown2 : wr.ownsRow B 41 4 (.slice (some ⟨g, 0, none⟩) es.length cap) es.length (flat (marksE k es.length)) := by simpa using hown
      clear hown
      go_wp2
      go_ret
      exact ⟨rfl, hown2, hg⟩

set_option maxHeartbeats 800000 in
theorem c61 (B cap : Nat) (ao : Option Addr) (es : List EdgeV) (k : Int) (w : World) (ho : w.ownsRow B 41 4 (.slice ao es.length cap) es.length (flat es)) (hl : es.length ≤ 1048576) (hk0 : 0 ≤ k) (hk1 : k ≤ 10000000) :
    Calls Try.prog 61 #[.slice ao es.length cap, .int .i64 k] w fun e w' => e = .returned (.int .i64 (k + 4 * es.length)) ∧
      w'.ownsRow B 41 4 (.slice ao es.length cap) es.length (flat (marksE k es.length)) ∧ w.grownBy w' (Value.slice ao es.length cap).ownBlock := by
  rcases ho.2 with ⟨e, h0⟩ | ⟨g, cap', cur, e, _⟩
  · simp only [Value.slice.injEq] at e
    obtain ⟨rfl, _, rfl⟩ := e
    have hx : es = [] := by cases es <;> simp_all
    subst hx
    go_enter Try.func61, Try.ntmps61
    go_wp2
    go_loop [1, 5] (fun kk i => i = .int .i64 0 ∧ kk = .int .i64 k) (fun _ _ => 0)
    case atStart => exact ⟨rfl, rfl⟩
    case round =>
      obtain ⟨rfl, rfl⟩ := hrel
      go_wp2
      go_ret
      exact ⟨by simp, by simpa [marksE] using ho, grown_refl _ _⟩
  · simp only [Value.slice.injEq] at e
    obtain ⟨rfl, _, rfl⟩ := e
    exact c61g B g cap es k w ho hl hk0 hk1

set_option maxHeartbeats 800000 in
theorem c37 (B cap : Nat) (ao : Option Addr) (n : Value) (es : List EdgeV) (k : Int) (w : World) (ho : w.ownsRow B 41 4 (.slice ao es.length cap) es.length (flat es)) (hl : es.length ≤ 1048576) (hk0 : 0 ≤ k) (hk1 : k ≤ 10000000) :
    Calls Try.prog 37 #[.agg #[n, .slice ao es.length cap], .int .i64 k] w fun e w' => e = .returned (.int .i64 (k + 4 * es.length)) ∧
      w'.ownsRow B 41 4 (.slice ao es.length cap) es.length (flat (marksE k es.length)) ∧ w.grownBy w' (Value.slice ao es.length cap).ownBlock := by
  go_enter Try.func37, Try.ntmps37
  go_wp2_with fail
  refine (c61 B cap ao es k _ (ho.alloc _) hl hk0 hk1).mono ?_
  rintro e w1 ⟨rfl, h1, hg⟩
  go_wp2
  go_ret
  exact ⟨rfl, h1, grown_trans (World.grownBy_alloc w _ _) hg⟩

set_option maxHeartbeats 3200000 in
theorem c62 (ao : Option Addr) (n cap : Nat) (k : Int) (w : World) (he : Edges w ao (marksE k n)) (hl : n ≤ 1048576) (hk0 : 0 ≤ k) (hk1 : k ≤ 10000000) :
    Calls Try.prog 62 #[.slice ao n cap, .int .i64 k] w fun e w' => e = .returned (.int .i64 (k + 4 * n)) ∧ w' = w := by
  go_enter Try.func62, Try.ntmps62
  go_wp2
  go_loop [1, 5] (fun kk i => ∃ j : Nat, j ≤ n ∧ i = .int .i64 j ∧ kk = .int .i64 (k + 4 * j)) (fun _ i => n - (intOf i).toNat)
  case atStart => exact ⟨0, Nat.zero_le _, rfl, by simp⟩
  case round =>
    obtain ⟨j, hj, rfl, rfl⟩ := hrel
    by_cases hlt : j < n
    · rcases he with he | ⟨b, off, rfl, hc⟩
      · have := marksE_len k n; rw [he] at this; simp at this; omega
      obtain ⟨p0, p1, p2, p3⟩ := hc j (by rw [marksE_len]; exact hlt)
      rw [marksE_get k n j hlt] at p0 p1 p2 p3
      simp only [markE] at p0 p1 p2 p3
      have w1 : IntKind.i64.wrap (k + 4 * (j : Int) + 1) = k + 4 * (j : Int) + 1 := wrap_in _ (by omega) (by omega)
      have w2 : IntKind.i64.wrap (k + 4 * (j : Int) + 1 + 1) = k + 4 * (j : Int) + 2 := (wrap_in _ (by omega) (by omega)).trans (by omega)
      have w3 : IntKind.i64.wrap (k + 4 * (j : Int) + 2 + 1) = k + 4 * (j : Int) + 3 := (wrap_in _ (by omega) (by omega)).trans (by omega)
      have w4 : IntKind.i64.wrap (k + 4 * (j : Int) + 3 + 1) = k + 4 * ((j : Int) + 1) := (wrap_in _ (by omega) (by omega)).trans (by omega)
      clear hc
      go_wp2
      exact ⟨⟨j + 1, by omega, by go_num, by go_num⟩, by simp [intOf]; omega⟩
    · have hjj : j = n := by omega
      subst hjj
      clear he
      go_wp2
      go_ret
      exact ⟨rfl, rfl⟩

set_option maxHeartbeats 800000 in
theorem c43 (ao : Option Addr) (n cap : Nat) (x : Value) (k : Int) (w : World) (he : Edges w ao (marksE k n)) (hl : n ≤ 1048576) (hk0 : 0 ≤ k) (hk1 : k ≤ 10000000) :
    Calls Try.prog 43 #[.agg #[x, .slice ao n cap], .int .i64 k] w fun e w' => e = .returned (.int .i64 (k + 4 * n)) ∧ Below w.heap.size w w' := by
  have hW := balloc w (.cells #[x, .slice ao n cap] 26)
  have hp : ¬ (k + 4 * (n : Int) < 0) := by omega
  go_enter Try.func43, Try.ntmps43
  go_wp2_with fail
  refine (c62 ao n cap k _ (he.below hW) hl hk0 hk1).mono ?_
  rintro e w1 ⟨rfl, rfl⟩
  go_wp2
  go_ret
  exact ⟨rfl, hW⟩
end Go.Proofs.Ytengfldiiceieaa
