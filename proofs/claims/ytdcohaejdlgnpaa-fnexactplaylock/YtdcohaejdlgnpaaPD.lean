/- Marks of what is played. -/
import Derived.Test.YtdcohaejdlgnpaaPC
import Derived.Test.YtdcohaejdlgnpaaMW
namespace Go.Proofs.Ytdcohaejdlgnpaa
open Go.RowKit
set_option maxHeartbeats 3200000 in
theorem cMarkOpsW (B g cap : Nat) (es : List OpV) (k : Int) (w : World) (ho : w.ownsRow B 93 2 (.slice (some ⟨g, 0, none⟩) es.length cap) es.length (flatOps es)) (hl : es.length ≤ 1048576) (hk0 : 0 ≤ k) (hk1 : k ≤ 10000000000000) :
    Calls Try.prog 43 #[.slice (some ⟨g, 0, none⟩) es.length cap, .int .i64 k] w fun e w' => e = .returned (.int .i64 (k + 2 * es.length)) ∧
      w'.ownsRow B 93 2 (.slice (some ⟨g, 0, none⟩) es.length cap) es.length (flatOps (marksOps k es.length)) ∧ w.grownBy w' (some g) := by
  go_enter Try.func43, Try.ntmps43
  go_wp2
  go_loopw [1, 5] (fun kk i wr => ∃ j : Nat, j ≤ es.length ∧ i = .int .i64 j ∧ kk = .int .i64 (k + 2 * j) ∧ wr.ownsRow B 93 2 (.slice (some ⟨g, 0, none⟩) es.length cap) es.length (flatOps (marksOps k j ++ es.drop j)) ∧ w.grownBy wr (some g)) (fun _ i _ => es.length - (intOf i).toNat)
  case atStart => exact ⟨0, Nat.zero_le _, rfl, by simp, by simpa [marksOps] using ho, World.grownBy.refl _ _⟩
  case round =>
    obtain ⟨j, hj, rfl, rfl, hown, hg⟩ := hrel
    by_cases hlt : j < es.length
    · have hlen : (marksOps k j ++ es.drop j).length = es.length := by rw [List.length_append, marksOps_len, List.length_drop]; omega
      obtain ⟨y0, y1⟩ := flatOps_get (marksOps k j ++ es.drop j) j (by omega)
      have f0 := hown.frozenAt (j * 2)
      have z0 := (hown.cellAt (j * 2) (by omega)).trans y0
      have f1 := hown.frozenAt (j * 2 + 1)
      have z1 := (hown.cellAt (j * 2 + 1) (by omega)).trans y1
      generalize (marksOps k j ++ es.drop j).getD j OpV.zero = E at z0 z1
      clear y0 y1
      obtain ⟨s1, t1⟩ := hown.stored (j * 2) (.int .i64 (k + 2 * j))
      obtain ⟨s2, t2⟩ := s1.stored (j * 2 + 1) (.int .i64 (k + 2 * j + 1))
      rw [markOps_step es k j hlt] at s2
      have hg' := gtrans hg (gtrans t1 (t2))
      have w1 : IntKind.i64.wrap (k + 2 * (j : Int) + 1) = k + 2 * (j : Int) + 1 := (wrap_in _ (by omega) (by omega)).trans (by omega)
      have w2 : IntKind.i64.wrap (k + 2 * (j : Int) + 1 + 1) = k + 2 * ((j : Int) + 1) := (wrap_in _ (by omega) (by omega)).trans (by omega)
      clear hown s1 t1 t2 hg hlen
      go_wp2
      exact ⟨⟨j + 1, by omega, by go_num, by go_num, s2, hg'⟩, by simp [intOf]; omega⟩
    · have hjj : j = es.length := by omega
      subst hjj
      have hown2 : wr.ownsRow B 93 2 (.slice (some ⟨g, 0, none⟩) es.length cap) es.length (flatOps (marksOps k es.length)) := by simpa using hown
      clear hown
      go_wp2
      go_ret
      exact ⟨rfl, hown2, hg⟩


theorem cMarkOpsF (B g cap : Nat) (es : List OpV) (k : Int) (w : World) (ho : w.ownsRow B 93 2 (.slice (some ⟨g, 0, none⟩) es.length cap) es.length (flatOps es)) (hl : es.length ≤ 1048576) (hk0 : 0 ≤ k) (hk1 : k ≤ 10000000000000) :
    Calls Try.prog 43 #[.slice (some ⟨g, 0, none⟩) es.length cap, .int .i64 k] w fun e w' => ∃ r : Int, e = .returned (.int .i64 r) ∧ 0 ≤ r ∧ Far g (g + 1) w w' := by
  refine (cMarkOpsW B g cap es k w ho hl hk0 hk1).mono ?_
  rintro e w1 ⟨rfl, -, hg⟩
  exact ⟨_, rfl, by omega, (Far.refl _ _ _).grown hg (fun j hj => by cases hj; omega)⟩
theorem zMarkFar (lo hi c : Nat) (a : Option Addr) (zs : List Int) (k : Int) (w : World) (h : RowZ w lo hi 3 (.slice a zs.length c) (zs.map (.int .i64))) (hl : zs.length ≤ 1048576) (hk0 : 0 ≤ k) (hk1 : k ≤ 10000000) :
    Calls Try.prog 44 #[.slice a zs.length c, .int .i64 k] w fun e w' => e = .returned (.int .i64 (k + zs.length)) ∧ RowZ w' lo hi 3 (.slice a zs.length c) ((marksInts k zs.length).map (.int .i64)) ∧ Far lo hi w w' := by
  refine (zMarkInts lo hi zs.length c a zs k w rfl h hl hk0 hk1).mono ?_
  rintro e w1 ⟨rfl, hr, hg⟩
  exact ⟨rfl, hr, (Far.refl _ _ _).grown hg (row_blk h (by simp))⟩
theorem play_small {p : PlantV} {os : List OpV} (h : Small p) : LSmall (playL p os) := by
  cases hk : playOk p os
  · rw [(play_no hk).1]; exact ⟨Nat.zero_le _, Nat.zero_le _, Nat.zero_le _⟩
  · have hk' := hk
    simp only [playOk, Bool.and_eq_true, decide_eq_true_eq] at hk'
    rw [(play_yes hk'.1 hk'.2).1]; exact lk_small hk'.1 h _
theorem play_len (p : PlantV) (os : List OpV) : (playC p os).length ≤ 300 := by
  cases hk : playOk p os
  · rw [(play_no hk).2]; exact Nat.zero_le _
  · have hk' := hk
    simp only [playOk, Bool.and_eq_true, decide_eq_true_eq] at hk'
    rw [(play_yes hk'.1 hk'.2).2, cl_len (Nat.le_refl _)]; exact hk'.2
end Go.Proofs.Ytdcohaejdlgnpaa
