/- Draws: a course. -/
import Derived.Test.YtnhcmjfmfgoakaaY
namespace Go.Proofs.Ytnhcmjfmfgoakaa
open Go.RowKit

set_option maxRecDepth 20000 in
set_option maxHeartbeats 3200000 in
theorem c42 (cb cap : Nat) (a : Option Addr) (zs : List Int) (most : Int) (w : World) (hc : Cur w cb a cap zs) (hl : zs.length ≤ 1048576) (hm : 1 ≤ most) (hm1 : most ≤ 200) :
    Calls Try.prog 42 #[.pointer (some ⟨cb, 0, none⟩), .int .i64 most] w fun e w' => ∃ v L, e = .returned v ∧ w'.ownsRow w.heap.size 3 1 v (List.length L) (L.map (Value.int .i64)) ∧ 1 ≤ L.length ∧ (L.length : Int) ≤ most ∧ (∀ x ∈ L, 1 ≤ x ∧ x ≤ 60) ∧ Cur w' cb a cap zs ∧ w.grownBy w' (some cb) := by
  obtain ⟨i0, hi, hz0, hz1, hz2⟩ := info_parts info3
  have hB := fun k (hk : OnCur cb a zs k) => hc.lt hk
  have hcb := hB cb (.inl rfl)
  have C0 := hc.below (balloc w (.cells #[] 3))
  have G0 := grown_alloc w (.cells #[] 3) (some cb)
  have O0 : (w.alloc (.cells #[] 3)).ownsRow w.heap.size 3 1 (.slice (some ⟨w.heap.size, 0, none⟩) 0 0) 0 [] := World.ownsRow_made w #[] 0 (Nat.le_refl _) (by omega) rfl
  go_enter Try.func42, Try.ntmps42
  go_wp2_with fail
  refine (c55 cb cap a zs 40 _ C0 hl (by omega) (by omega)).mono ?_
  rintro e w1 ⟨v0, rfl, v1, v2, C1, G1⟩
  have O1 := own_far O0 G1 (fun k hk => by simp [Value.ownBlock] at hk; simp; omega)
  have GG1 := grown_trans G0 G1
  clear O0 G0 C0 G1
  go_wp2_with fail
  refine (c55 cb cap a zs most _ C1 hl hm (by omega)).mono ?_
  rintro e w2 ⟨n0, rfl, n1, n2, C2, G2⟩
  have O2 := own_far O1 G2 (fun k hk => by simp [Value.ownBlock] at hk; simp; omega)
  have GG2 := grown_trans GG1 G2
  clear O1 GG1 C1 G2
  go_wp2_with fail
  go_loopw [5, 6, 7] (fun v vv ii wr => ∃ (L : List Int) (V I : Int), vv = .int .i64 V ∧ ii = .int .i64 I ∧ 1 ≤ V ∧ V ≤ 60 ∧ 0 ≤ I ∧ (L.length : Int) + I = 1 + n0 ∧ (∀ x ∈ L, 1 ≤ x ∧ x ≤ 60) ∧ wr.ownsRow w.heap.size 3 1 v L.length (L.map (Value.int .i64)) ∧ Cur wr cb a cap zs ∧ w.grownBy wr (some cb)) (fun _ _ ii _ => (intOf ii).toNat)
  case atStart => exact ⟨[], 3 + v0, 1 + n0, rfl, rfl, by omega, by omega, by omega, by simp, by simp, O2, C2, GG2⟩
  case round =>
    clear O2 C2 GG2
    obtain ⟨L, V, I, rfl, rfl, V0, V1, I0, hLI, hall, O, C, G⟩ := hrel
    by_cases hI : 0 < I
    · go_wp2_with fail
      refine (c56 cb cap a zs 4 _ C hl (by omega) (by omega)).mono ?_
      rintro e w3 ⟨r, rfl, C3, G3⟩
      have hne : ∀ k, u5.ownBlock = some k → some k ≠ some cb := fun k hk e => by have := own_from O (Nat.le_refl _) k hk; simp at e; omega
      have O3 := own_far O G3 hne
      have GG3 := grown_trans G G3
      clear O C G G3
      cases r
      · go_wp2_with (at_builtin; refine wpList_append_own _ rfl _ _ 26 rfl w.heap.size 3 i0 (.int .i64 0) 1 8 Try.underlying26 hi hz0 hz1 hz2 rfl (by decide) _ _ _ rfl (O3.alloc _) ⟨w3.heap.size, 0, none⟩ 1 1 [.int .i64 V] rfl rfl ?c1 ?c2 ?c3 ?c4 ?c5 ?_)
        case c1 =>
          intro j u hj
          match j, hj with
          | 0, hj => simp at hj; subst hj; simp [Addr.add]
        case c2 => intro u hu; simp at hu; subst hu; rfl
        case c3 => unfold maxLen; omega
        case c4 => omega
        case c5 => have := GG3.size; simp; omega
        intro v' w5 hown' hgrow _
        have hr := own_from O3 (Nat.le_refl _)
        have G5 := grown_far (grown_trans GG3 (grown_alloc _ _ _)) hgrow hr
        have C5 := (C3.below (balloc _ _)).grow hB hgrow hr
        have O5 : w5.ownsRow w.heap.size 3 1 v' (L ++ [V]).length ((L ++ [V]).map (Value.int .i64)) := by
          rw [List.map_append, List.length_append]; exact hown'
        clear hown' hgrow O3 C3 GG3
        go_wp2
        go_roundw
        case rel => exact ⟨L ++ [V], V, I - 1, rfl, by go_num, V0, V1, by omega, by simp; omega, by intro x hx; rcases List.mem_append.1 hx with h | h; exact hall x h; simp at h; omega, O5, C5, G5⟩
        case measure => simp [intOf]; omega
      · go_wp2_with fail
        refine (c55 cb cap a zs 60 _ C3 hl (by omega) (by omega)).mono ?_
        rintro e w4 ⟨x, rfl, x0, x1, C4, G4⟩
        have O4 := own_far O3 G4 hne
        have GG4 := grown_trans GG3 G4
        clear O3 C3 GG3 G4
        go_wp2_with (at_builtin; refine wpList_append_own _ rfl _ _ 26 rfl w.heap.size 3 i0 (.int .i64 0) 1 8 Try.underlying26 hi hz0 hz1 hz2 rfl (by decide) _ _ _ rfl (O4.alloc _) ⟨w4.heap.size, 0, none⟩ 1 1 [.int .i64 (1 + x)] rfl rfl ?c1 ?c2 ?c3 ?c4 ?c5 ?_)
        case c1 =>
          intro j u hj
          match j, hj with
          | 0, hj => simp at hj; subst hj; simp [Addr.add]
        case c2 => intro u hu; simp at hu; subst hu; rfl
        case c3 => unfold maxLen; omega
        case c4 => omega
        case c5 => have := GG4.size; simp; omega
        intro v' w5 hown' hgrow _
        have hr := own_from O4 (Nat.le_refl _)
        have G5 := grown_far (grown_trans GG4 (grown_alloc _ _ _)) hgrow hr
        have C5 := (C4.below (balloc _ _)).grow hB hgrow hr
        have O5 : w5.ownsRow w.heap.size 3 1 v' (L ++ [1 + x]).length ((L ++ [1 + x]).map (Value.int .i64)) := by
          rw [List.map_append, List.length_append]; exact hown'
        clear hown' hgrow O4 C4 GG4
        go_wp2
        go_roundw
        case rel => exact ⟨L ++ [1 + x], 1 + x, I - 1, rfl, by go_num, by omega, by omega, by omega, by simp; omega, by intro x hx; rcases List.mem_append.1 hx with h | h; exact hall x h; simp at h; omega, O5, C5, G5⟩
        case measure => simp [intOf]; omega
    · obtain rfl : I = 0 := by omega
      go_wp2
      go_ret
      exact ⟨_, rfl, L, O, by omega, by omega, hall, C, G⟩
end Go.Proofs.Ytnhcmjfmfgoakaa
