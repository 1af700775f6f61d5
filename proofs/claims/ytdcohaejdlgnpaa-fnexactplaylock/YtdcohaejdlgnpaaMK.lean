/- Marks on a plant; lockings copied. -/
import Derived.Test.YtdcohaejdlgnpaaLK
namespace Go.Proofs.Ytdcohaejdlgnpaa
open Go.RowKit

set_option maxHeartbeats 800000 in
theorem wMarkInts (lo hi n c : Nat) (a : Option Addr) (k : Int) (w : World) (h : Wz w lo hi a n) (hl : n ≤ 1048576) (hk0 : 0 ≤ k) (hk1 : k ≤ 9000000000000000) :
    Calls Try.prog 44 #[.slice a n c, .int .i64 k] w fun e w' => e = .returned (.int .i64 (k + n)) ∧ Zone lo hi w w' := by
  go_enter Try.func44, Try.ntmps44
  go_wp2
  go_loopw [1, 5] (fun kk i wr => ∃ j : Nat, j ≤ n ∧ kk = .int .i64 (k + j) ∧ i = .int .i64 j ∧ Zone lo hi w wr) (fun _ i _ => n - (intOf i).toNat)
  case atStart => exact ⟨0, Nat.zero_le _, by simp, rfl, Zone.refl _ _ _⟩
  case round =>
    obtain ⟨j, hj, rfl, rfl, hz⟩ := hrel
    by_cases hlt : j < n
    · rcases hz.marks _ _ _ _ h with h0 | ⟨b, off, rfl, h1, h2, hc⟩
      · omega
      obtain ⟨⟨v, hv⟩, hf⟩ := hc j hlt
      have hz2 := hz.set (o := off + j) (x := k + j) h1 h2
      clear hc hz h
      go_wp2
      go_roundw
      case rel => exact ⟨j + 1, by omega, by go_num, by go_num, hz2⟩
      case measure => simp [intOf]; omega
    · obtain rfl : j = n := by omega
      clear h
      go_wp2
      go_ret
      exact ⟨rfl, hz⟩

set_option maxHeartbeats 1600000 in
theorem wMarkNeeds (lo hi n c : Nat) (a : Option Addr) (k : Int) (w : World) (h : Wz w lo hi a (n * 2)) (hl : n ≤ 1048576) (hk0 : 0 ≤ k) (hk1 : k ≤ 9000000000000000) :
    Calls Try.prog 81 #[.slice a n c, .int .i64 k] w fun e w' => e = .returned (.int .i64 (k + 2 * n)) ∧ Zone lo hi w w' := by
  go_enter Try.func81, Try.ntmps81
  go_wp2
  go_loopw [1, 5] (fun kk i wr => ∃ j : Nat, j ≤ n ∧ kk = .int .i64 (k + 2 * j) ∧ i = .int .i64 j ∧ Zone lo hi w wr) (fun _ i _ => n - (intOf i).toNat)
  case atStart => exact ⟨0, Nat.zero_le _, by simp, rfl, Zone.refl _ _ _⟩
  case round =>
    obtain ⟨j, hj, rfl, rfl, hz⟩ := hrel
    by_cases hlt : j < n
    · rcases hz.marks _ _ _ _ h with h0 | ⟨b, off, rfl, h1, h2, hc⟩
      · omega
      obtain ⟨⟨v, hv⟩, hf⟩ := hc (j * 2) (by omega)
      obtain ⟨⟨v2, hv2⟩, hf2⟩ := hc (j * 2 + 1) (by omega)
      rw [← Nat.add_assoc] at hv2 hf2
      have hz2 := (hz.set (o := off + j * 2) (x := k + 2 * j) h1 h2).set (o := off + j * 2 + 1) (x := k + 2 * j + 1) h1 h2
      have w1 : IntKind.i64.wrap (k + 2 * (j : Int) + 1) = k + 2 * (j : Int) + 1 := (wrap_in _ (by omega) (by omega))
      have w2 : IntKind.i64.wrap (k + 2 * (j : Int) + 1 + 1) = k + 2 * ((j : Int) + 1) := (wrap_in _ (by omega) (by omega)).trans (by omega)
      clear hc hz h
      go_wp2
      exact ⟨⟨j + 1, by omega, by go_num, by go_num, hz2⟩, by simp [intOf]; omega⟩
    · obtain rfl : j = n := by omega
      clear h
      go_wp2
      go_ret
      exact ⟨rfl, hz⟩

theorem RouteOwn.form {w : World} {lo hi : Nat} {va vb : Value} {r : RouteV} (h : RouteOwn w lo hi va vb r) : ∃ a ca b cb, va = .slice a r.needs.length ca ∧ vb = .slice b r.blocks.length cb ∧ Wz w lo hi a (r.needs.length * 2) ∧ Wz w lo hi b r.blocks.length := by
  obtain ⟨a, ca, b, cb, h1, h2, _, _, h5, h6, _⟩ := h
  exact ⟨a, ca, b, cb, h1, h2, h5, h6⟩

set_option maxHeartbeats 1600000 in
theorem wMarkRoutes (lo hi c : Nat) (a : Option Addr) (rs : List RouteV) (k : Int) (w : World) (h : RoutesOwn w lo hi a rs) (hl : rs.length ≤ 1048576) (he : ∀ r ∈ rs, r.needs.length ≤ 1048576 ∧ r.blocks.length ≤ 1048576) (hk0 : 0 ≤ k) (hk1 : k ≤ 10000000) :
    Calls Try.prog 61 #[.slice a rs.length c, .int .i64 k] w fun e w' => ∃ q : Int, e = .returned (.int .i64 q) ∧ 0 ≤ q ∧ Zone lo hi w w' := by
  obtain ⟨g, rfl, hg1, hg2, hc⟩ := h
  go_enter Try.func61, Try.ntmps61
  go_wp2
  go_loopw [1, 5] (fun kk i wr => ∃ (j : Nat) (q : Int), j ≤ rs.length ∧ kk = .int .i64 q ∧ 0 ≤ q ∧ q ≤ 10000000 + 4000000 * j ∧ i = .int .i64 j ∧ Zone (g + 1) hi w wr) (fun _ i _ => rs.length - (intOf i).toNat)
  case atStart => exact ⟨0, k, Nat.zero_le _, rfl, hk0, by omega, rfl, Zone.refl _ _ _⟩
  case round =>
    obtain ⟨j, q, hj, rfl, hq0, hq1, rfl, hz⟩ := hrel
    by_cases hlt : j < rs.length
    · obtain ⟨va, vb, c1, c2, c3⟩ := hc j hlt
      obtain ⟨na, nca, nb, ncb, rfl, rfl, w1, w2⟩ := c3.form
      have e0 : rs.getD j RouteV.zero = rs[j] := by simp [List.getD, hlt]
      have hek := he rs[j] (List.getElem_mem hlt)
      rw [e0] at c1 c2 w1 w2
      replace c1 := hz.cell c1 (.inl (by omega))
      replace c2 := hz.cell c2 (.inl (by omega))
      replace w1 := hz.marks _ _ _ _ w1
      replace w2 := hz.marks _ _ _ _ w2
      generalize rs[j].needs.length = m1 at *
      generalize rs[j].blocks.length = m2 at *
      clear c3 hc e0
      go_wp2_with fail
      refine (wMarkNeeds (g + 1) hi m1 nca na q _ w1 hek.1 hq0 (by omega)).mono ?_
      rintro e w3 ⟨rfl, hz3⟩
      replace c2 := hz3.cell c2 (.inl (by omega))
      replace w2 := hz3.marks _ _ _ _ w2
      replace hz := hz.trans hz3
      clear hz3 c1 w1
      go_wp2_with fail
      refine (wMarkInts (g + 1) hi m2 ncb nb (q + 2 * m1) _ w2 hek.2 (by omega) (by omega)).mono ?_
      rintro e w4 ⟨rfl, hz4⟩
      replace hz := hz.trans hz4
      clear hz4 c2 w2
      go_wp2
      go_roundw
      case rel => exact ⟨j + 1, q + 2 * m1 + m2, by omega, rfl, by omega, by omega, by go_num, hz⟩
      case measure => simp [intOf]; omega
    · clear hc
      go_wp2
      go_ret
      exact ⟨q, rfl, hq0, hz.wider (by omega) (Nat.le_refl _)⟩

theorem RoutesOwn.zone {lo hi lo' hi' : Nat} {w w' : World} {a : Option Addr} {rs : List RouteV} (h : RoutesOwn w lo hi a rs) (hz : Zone lo' hi' w w') (hd : hi ≤ lo' ∨ hi' ≤ lo) (hs : hi ≤ w.heap.size) : RoutesOwn w' lo hi a rs := by
  obtain ⟨g, ha, h1, h2, hc⟩ := h
  refine ⟨g, ha, h1, h2, fun i hi' => ?_⟩
  obtain ⟨va, vb, c1, c2, a1, ca1, b1, cb1, q1, q2, q3, q4, q5, q6, q7⟩ := hc i hi'
  have S : ∀ k, g + 1 ≤ k → k < hi → w'.heap[k]? = w.heap[k]? := fun k hk hk2 => hz.block k (by omega) (by omega)
  refine ⟨va, vb, hz.cell c1 (by omega), hz.cell c2 (by omega), a1, ca1, b1, cb1, q1, q2, ?_, ?_, hz.marks _ _ _ _ q5, hz.marks _ _ _ _ q6, q7⟩
  · rcases q3 with q3 | ⟨b, off, rfl, hcc⟩
    · exact .inl q3
    rcases q5 with q5 | ⟨b', off', g1, g2, g3, _⟩
    · exact .inl (List.length_eq_zero_iff.1 (by omega))
    · simp only [Option.some.injEq, Addr.mk.injEq] at g1
      obtain ⟨rfl, rfl, _⟩ := g1
      exact .inr ⟨b, off, rfl, fun i hi => ⟨(cell_of_heap (S b g2 g3)).trans (hcc i hi).1, (cell_of_heap (S b g2 g3)).trans (hcc i hi).2⟩⟩
  · rcases q4 with q4 | ⟨b, off, rfl, hcc⟩
    · exact .inl q4
    rcases q6 with q6 | ⟨b', off', g1, g2, g3, _⟩
    · exact .inl (List.length_eq_zero_iff.1 q6)
    · simp only [Option.some.injEq, Addr.mk.injEq] at g1
      obtain ⟨rfl, rfl, _⟩ := g1
      exact .inr ⟨b, off, rfl, fun i hi => (cell_of_heap (S b g2 g3)).trans (hcc i hi)⟩

set_option maxHeartbeats 1600000 in
theorem cMarkPlant (lo hi ca cb : Nat) (a b : Option Addr) (p : PlantV) (w : World) (h : PlantOwn w lo hi a b p) (hS : Small p) (hs : hi ≤ w.heap.size) :
    Calls Try.prog 22 #[plantVal a ca b cb p, .int .i64 1] w fun e w' => ∃ q : Int, e = .returned (.int .i64 q) ∧ 0 ≤ q ∧ Far lo hi w w' := by
  obtain ⟨U, B, R⟩ := p
  obtain ⟨m, m1, m2, -, h2, h3⟩ := h
  obtain ⟨s1, s2, s3⟩ := hS
  unfold plantVal
  dsimp only at *
  have hb := balloc w (.cells #[.slice a U.length ca, .int .i64 B, .slice b R.length cb] 30)
  have g2 : (w.alloc (.cells #[.slice a U.length ca, .int .i64 B, .slice b R.length cb] 30)).cell? ⟨w.heap.size, 2, none⟩ = some (.slice b R.length cb) := by simp [go_sem]
  have F := (Far.refl lo hi w).below hb
  replace h2 := h2.below hb
  replace h3 := h3.below hb
  have hz0 := sz1 w (.cells #[.slice a U.length ca, .int .i64 B, .slice b R.length cb] 30)
  go_enter Try.func22, Try.ntmps22
  go_wp2_with fail
  refine (wMarkInts lo m U.length ca a 1 _ h2 s1 (by omega) (by omega)).mono ?_
  rintro e w1 ⟨rfl, hz⟩
  replace g2 := hz.cell g2 (.inr (by omega))
  replace h3 := h3.zone hz (.inr (Nat.le_refl _)) (by omega)
  have F1 := F.trans (hz.far.wider (Nat.le_refl _) m2)
  clear hz h2 F hb hz0
  go_wp2_with fail
  refine (wMarkRoutes m hi cb b R (1 + U.length) _ h3 s2 s3 (by omega) (by omega)).mono ?_
  rintro e w2 ⟨q, rfl, hq, hz⟩
  have F2 := F1.trans (hz.far.wider m1 (Nat.le_refl _))
  clear hz F1 g2
  go_wp2
  go_ret
  exact ⟨q, rfl, hq, F2⟩

set_option maxHeartbeats 3200000 in
theorem cToLock (a b c : Option Addr) (ca cb cc : Nat) (l : LockV) (w : World) (hL : LockIn w a b c l) (hS : LSmall l) :
    Calls Try.prog 27 #[lockVal a ca b cb c cc l] w fun e w' => ∃ a' ca' b' cb' c' cc', e = .returned (lockVal a' ca' b' cb' c' cc' l) ∧ LockOwn w' w.heap.size w'.heap.size a' ca' b' cb' c' cc' l ∧ Below w.heap.size w w' ∧ (∀ x, a' = some x → x.spot = none) ∧ (a' = none → ca' = 0) ∧ (∀ x, b' = some x → x.spot = none) ∧ (b' = none → cb' = 0) ∧ (∀ x, c' = some x → x.spot = none) ∧ (c' = none → cc' = 0) := by
  obtain ⟨U, S, T⟩ := l
  obtain ⟨hU, hB, hR⟩ := hL
  obtain ⟨s1, s2, s3⟩ := hS
  dsimp only at *
  unfold lockVal
  dsimp only
  have HB := below3 w (.cells #[.slice a U.length ca, .slice b S.length cb, .slice c T.length cc] 43) (.cells #[.slice none 0 0, .slice none 0 0, .slice none 0 0] 38) (.cells #[.slice none 0 0, .slice none 0 0, .slice none 0 0] 38)
  obtain ⟨k1, k2, k3⟩ := three_blocks w (.cells #[.slice a U.length ca, .slice b S.length cb, .slice c T.length cc] 43) (.cells #[.slice none 0 0, .slice none 0 0, .slice none 0 0] 38) (.cells #[.slice none 0 0, .slice none 0 0, .slice none 0 0] 38)
  have hS := size3 w (.cells #[.slice a U.length ca, .slice b S.length cb, .slice c T.length cc] 43) (.cells #[.slice none 0 0, .slice none 0 0, .slice none 0 0] 38) (.cells #[.slice none 0 0, .slice none 0 0, .slice none 0 0] 38)
  go_enter Try.func27, Try.ntmps27
  go_wp2_with fail
  refine (cToInts a ca U _ (hU.below HB) s1).mono ?_
  rintro e w1 ⟨g1, rfl, o1, hg1, hb⟩
  rw [hS] at hg1 o1
  have hg1' : w.heap.size + 1 + 1 < g1 := by omega
  clear hg1
  replace k1 := blk_keep hb k1
  replace k2 := blk_keep hb k2
  replace k3 := blk_keep hb k3
  replace HB := btrans HB hb
  have hl1 := owns_lt o1
  clear hb
  obtain ⟨⟨p0, p1, p2⟩, -⟩ := blk3 k1
  obtain ⟨⟨q0, q1, q2⟩, f0, f1, f2⟩ := blk3 k3
  clear p0 p2 q1 f1 q2 f2
  go_wp2_with fail
  replace HB := below_set (o := 0) (v := .slice (some ⟨g1, 0, none⟩) U.length U.length) (b := w.heap.size + 1 + 1) (by omega) HB
  replace k3 := blk_set (i := 0) (v := .slice (some ⟨g1, 0, none⟩) U.length U.length) k3
  replace k2 := blk_other (b := w.heap.size + 1 + 1) (i := 0) (v := .slice (some ⟨g1, 0, none⟩) U.length U.length) k2 (by omega)
  replace k1 := blk_other (b := w.heap.size + 1 + 1) (i := 0) (v := .slice (some ⟨g1, 0, none⟩) U.length U.length) k1 (by omega)
  replace o1 := own_set (b := w.heap.size + 1 + 1) (i := 0) (u := .slice (some ⟨g1, 0, none⟩) U.length U.length) o1 (fun k hk => by simp [Value.ownBlock] at hk; omega)
  clear p1 q0 f0
  have hS2 : (w1.setCell ⟨w.heap.size + 1 + 1, 0, none⟩ (.slice (some ⟨g1, 0, none⟩) U.length U.length)).heap.size = w1.heap.size := by simp
  refine (cToBools b cb S _ (hB.below HB) s2).mono ?_
  rintro e w2 ⟨g2, rfl, o2, hg2, hb⟩
  rw [hS2] at hg2 o2
  have hg2' : g1 < g2 := by omega
  clear hg2
  replace k1 := blk_keep hb k1
  replace k2 := blk_keep hb k2
  replace k3 := blk_keep hb k3
  replace HB := btrans HB hb
  replace o1 := own_keep o1 hb
  have hl2 := owns_lt o2
  clear hb hS2
  simp only [List.setIfInBounds_toArray, List.set_cons_zero] at k3
  obtain ⟨⟨p0, p1, p2⟩, -⟩ := blk3 k1
  obtain ⟨⟨q0, q1, q2⟩, f0, f1, f2⟩ := blk3 k3
  clear p0 p1 q0 f0 q2 f2
  go_wp2_with fail
  replace HB := below_set (o := 1) (v := .slice (some ⟨g2, 0, none⟩) S.length S.length) (b := w.heap.size + 1 + 1) (by omega) HB
  replace k3 := blk_set (i := 1) (v := .slice (some ⟨g2, 0, none⟩) S.length S.length) k3
  replace k2 := blk_other (b := w.heap.size + 1 + 1) (i := 1) (v := .slice (some ⟨g2, 0, none⟩) S.length S.length) k2 (by omega)
  replace o1 := own_set (b := w.heap.size + 1 + 1) (i := 1) (u := .slice (some ⟨g2, 0, none⟩) S.length S.length) o1 (fun k hk => by simp [Value.ownBlock] at hk; omega)
  replace o2 := own_set (b := w.heap.size + 1 + 1) (i := 1) (u := .slice (some ⟨g2, 0, none⟩) S.length S.length) o2 (fun k hk => by simp [Value.ownBlock] at hk; omega)
  clear k1 p2 q1 f1
  have hS3 : (w2.setCell ⟨w.heap.size + 1 + 1, 1, none⟩ (.slice (some ⟨g2, 0, none⟩) S.length S.length)).heap.size = w2.heap.size := by simp
  refine (cToBools c cc T _ (hR.below HB) s3).mono ?_
  rintro e w3 ⟨g3, rfl, o3, hg3, hb⟩
  rw [hS3] at hg3 o3
  have hg3' : g2 < g3 := by omega
  clear hg3
  replace k2 := blk_keep hb k2
  replace k3 := blk_keep hb k3
  replace HB := btrans HB hb
  replace o1 := own_keep o1 hb
  replace o2 := own_keep o2 hb
  have hl3 := owns_lt o3
  have hss := hb.size
  rw [hS3] at hss
  clear hb hS3 hS
  simp only [List.setIfInBounds_toArray, List.set_cons_zero, List.set_cons_succ] at k3
  obtain ⟨⟨q0, q1, q2⟩, f0, f1, f2⟩ := blk3 k2
  obtain ⟨⟨r0, r1, r2⟩, t0, t1, t2⟩ := blk3 k3
  clear k2 k3
  have K : ∀ (W : World), (W.ownsRow (w.heap.size + 1 + 1 + 1) 3 1 (.slice (some ⟨g1, 0, none⟩) U.length U.length) U.length (U.map (.int .i64))) → (W.ownsRow w1.heap.size 4 1 (.slice (some ⟨g2, 0, none⟩) S.length S.length) S.length (S.map .bool)) → (W.ownsRow w2.heap.size 4 1 (.slice (some ⟨g3, 0, none⟩) T.length T.length) T.length (T.map .bool)) → LockOwn W w.heap.size W.heap.size (some ⟨g1, 0, none⟩) U.length (some ⟨g2, 0, none⟩) S.length (some ⟨g3, 0, none⟩) T.length ⟨U, S, T⟩ := fun W e1 e2 e3 =>
    ⟨(RowZ.of e1 (own_blk_lt e1)).wider (by omega) (Nat.le_refl _), (RowZ.of e2 (own_blk_lt e2)).wider (by omega) (Nat.le_refl _), (RowZ.of e3 (own_blk_lt e3)).wider (by omega) (Nat.le_refl _),
      fun _ _ k hk e => by simp [Value.ownBlock] at hk e; omega, fun _ _ k hk e => by simp [Value.ownBlock] at hk e; omega, fun _ _ k hk e => by simp [Value.ownBlock] at hk e; omega⟩
  go_wp2_with fail
  refine bodyPost_ret (v := .agg #[.slice (some ⟨g1, 0, none⟩) U.length U.length, .slice (some ⟨g2, 0, none⟩) S.length S.length, .slice (some ⟨g3, 0, none⟩) T.length T.length]) (by simp [results, Try.results27, go_sem, q0, q1, q2]) rfl ⟨_, _, _, _, _, _, rfl, K _ ?_ ?_ ?_, ?_, (fun x h => by cases h; rfl), (fun h => by cases h), (fun x h => by cases h; rfl), (fun h => by cases h), (fun x h => by cases h; rfl), (fun h => by cases h)⟩
  · exact own_set (own_set (own_set (own_set o1 (fun k hk => by simp [Value.ownBlock] at hk; omega)) (fun k hk => by simp [Value.ownBlock] at hk; omega)) (fun k hk => by simp [Value.ownBlock] at hk; omega)) (fun k hk => by simp [Value.ownBlock] at hk; omega)
  · exact own_set (own_set (own_set (own_set o2 (fun k hk => by simp [Value.ownBlock] at hk; omega)) (fun k hk => by simp [Value.ownBlock] at hk; omega)) (fun k hk => by simp [Value.ownBlock] at hk; omega)) (fun k hk => by simp [Value.ownBlock] at hk; omega)
  · exact own_set (own_set (own_set (own_set o3 (fun k hk => by simp [Value.ownBlock] at hk; omega)) (fun k hk => by simp [Value.ownBlock] at hk; omega)) (fun k hk => by simp [Value.ownBlock] at hk; omega)) (fun k hk => by simp [Value.ownBlock] at hk; omega)
  · exact below_set (by omega) (below_set (by omega) (below_set (by omega) (below_set (by omega) HB)))
end Go.Proofs.Ytdcohaejdlgnpaa
