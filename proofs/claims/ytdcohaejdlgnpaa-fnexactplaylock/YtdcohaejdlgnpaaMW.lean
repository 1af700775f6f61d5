/- Marks with great numbers. -/
import Derived.Test.YtdcohaejdlgnpaaMK
namespace Go.Proofs.Ytdcohaejdlgnpaa
open Go.RowKit
/-- Bools that a mark may write into. -/
def Wb (w : World) (lo hi : Nat) (a : Option Addr) (n : Nat) : Prop :=
  n = 0 ∨ ∃ b, a = some ⟨b, 0, none⟩ ∧ lo ≤ b ∧ b < hi ∧ ∀ i, i < n → (∃ v, w.cell? ⟨b, i, none⟩ = some (.bool v)) ∧ w.frozen? ⟨b, i, none⟩ = false
theorem Wb.setSame {w : World} {lo hi : Nat} {a : Option Addr} {n : Nat} (h : Wb w lo hi a n) (p o : Nat) (x : Bool) : Wb (w.setCell ⟨p, o, none⟩ (.bool x)) lo hi a n := by
  rcases h with h | ⟨b, h1, h2, h3, hc⟩
  · exact .inl h
  · refine .inr ⟨b, h1, h2, h3, fun i hi => ?_⟩
    obtain ⟨⟨v, hv⟩, hf⟩ := hc i hi
    refine ⟨?_, by simpa using hf⟩
    by_cases he : (⟨b, i, none⟩ : Addr) = ⟨p, o, none⟩
    · rw [← he]; exact ⟨x, World.cell?_setCell_same _ _ _ hv⟩
    · exact ⟨v, (World.cell?_setCell_other _ _ _ _ (fun h => he h.symm)).trans hv⟩
theorem RowZ.wz {w : World} {lo hi n c : Nat} {a : Option Addr} {zs : List Int} (h : RowZ w lo hi 3 (.slice a n c) (zs.map (.int .i64))) (hn : zs.length = n) : Wz w lo hi a n := by
  rcases h with ⟨h, _⟩ | ⟨h1, h2, h3⟩
  · left; have : zs = [] := by simpa using h
    subst this; simpa using hn.symm
  · simp only [List.length_map, hn] at h2
    exact wz_ints h2 (Nat.le_refl _) h3
theorem RowZ.wb {w : World} {lo hi n c : Nat} {a : Option Addr} {zs : List Bool} (h : RowZ w lo hi 4 (.slice a n c) (zs.map .bool)) (hn : zs.length = n) : Wb w lo hi a n := by
  rcases h with ⟨h, _⟩ | ⟨h1, h2, h3⟩
  · left; have : zs = [] := by simpa using h
    subst this; simpa using hn.symm
  · simp only [List.length_map, hn] at h2
    rcases h2.2 with ⟨he, h0⟩ | ⟨g, cap', cur, he, hg, _⟩
    · exact .inl h0
    · simp only [Value.slice.injEq] at he
      obtain ⟨rfl, _, rfl⟩ := he
      refine .inr ⟨g, rfl, hg, h3 g rfl, fun i hi => ⟨⟨zs.getD i false, ?_⟩, h2.frozenAt i⟩⟩
      rw [h2.cellAt i (by omega)]
      have : i < zs.length := by omega
      simp [List.getD, this]

set_option maxHeartbeats 800000 in
theorem wMarkBools (lo hi n c : Nat) (a : Option Addr) (k : Int) (w : World) (h : Wb w lo hi a n) (hl : n ≤ 1048576) (hk0 : 0 ≤ k) (hk1 : k ≤ 9000000000000000) :
    Calls Try.prog 62 #[.slice a n c, .int .i64 k] w fun e w' => e = .returned (.int .i64 (k + n)) ∧ Far lo hi w w' := by
  go_enter Try.func62, Try.ntmps62
  go_wp2
  go_loopw [1, 5] (fun kk i wr => ∃ j : Nat, j ≤ n ∧ kk = .int .i64 (k + j) ∧ i = .int .i64 j ∧ Far lo hi w wr ∧ Wb wr lo hi a n) (fun _ i _ => n - (intOf i).toNat)
  case atStart => exact ⟨0, Nat.zero_le _, by simp, rfl, Far.refl _ _ _, h⟩
  case round =>
    obtain ⟨j, hj, rfl, rfl, hz, hw⟩ := hrel
    by_cases hlt : j < n
    · have hw0 := hw
      rcases hw with h0 | ⟨b, rfl, h1, h2, hc⟩
      · omega
      obtain ⟨⟨v, hv⟩, hf⟩ := hc j hlt
      have hz2 := hz.set (o := j) (v := .bool (decide ((k + (j : Int)) % 3 = 0))) h1 h2
      have hw2 := hw0.setSame b j (decide ((k + (j : Int)) % 3 = 0))
      clear hc hz h hw0
      go_wp2
      go_roundw
      case rel => exact ⟨j + 1, by omega, by go_num, by go_num, hz2, hw2⟩
      case measure => simp [intOf]; omega
    · obtain rfl : j = n := by omega
      clear h
      go_wp2
      go_ret
      exact ⟨rfl, hz⟩
theorem cell_far {lo hi : Nat} {w w' : World} (h : Far lo hi w w') {b o : Nat} {v : Value} (hc : w.cell? ⟨b, o, none⟩ = some v) (hd : b < lo ∨ hi ≤ b) : w'.cell? ⟨b, o, none⟩ = some v :=
  (cell_of_heap (h.block b (cell_lt hc) hd)).trans hc
/-- A row keeps its kind behind marks of its own zone. -/
theorem Wb.grown {w w' : World} {lo hi : Nat} {a : Option Addr} {n : Nat} (h : Wb w lo hi a n) (hs : ∀ b, a = some ⟨b, 0, none⟩ → w'.heap[b]? = w.heap[b]?) : Wb w' lo hi a n := by
  rcases h with h | ⟨b, h1, h2, h3, hc⟩
  · exact .inl h
  · refine .inr ⟨b, h1, h2, h3, fun i hi => ?_⟩
    obtain ⟨⟨v, hv⟩, hf⟩ := hc i hi
    exact ⟨⟨v, (cell_of_heap (hs b h1)).trans hv⟩, (frozen_of_heap (hs b h1)).trans hf⟩
set_option maxHeartbeats 1600000 in
theorem wMarkRoutes2 (lo hi c : Nat) (a : Option Addr) (rs : List RouteV) (k : Int) (w : World) (h : RoutesOwn w lo hi a rs) (hl : rs.length ≤ 1048576) (he : ∀ r ∈ rs, r.needs.length ≤ 1048576 ∧ r.blocks.length ≤ 1048576) (hk0 : 0 ≤ k) (hk1 : k ≤ 10000000) :
    Calls Try.prog 61 #[.slice a rs.length c, .int .i64 k] w fun e w' => ∃ q : Int, e = .returned (.int .i64 q) ∧ 0 ≤ q ∧ q ≤ 10000000 + 4000000 * rs.length ∧ Zone lo hi w w' := by
  obtain ⟨g, rfl, hg1, hg2, hc⟩ := h
  go_enter Try.func61, Try.ntmps61
  go_wp2
  go_loopw [1, 5] (fun kk i wr => ∃ (j : Nat) (q : Int), j ≤ rs.length ∧ kk = .int .i64 q ∧ 0 ≤ q ∧ q ≤ 10000000 + 4000000 * j ∧ i = .int .i64 j ∧ Zone (g + 1) hi w wr) (fun _ i _ => rs.length - (intOf i).toNat)
  case atStart => exact ⟨0, k, Nat.zero_le _, rfl, hk0, by omega, rfl, Zone.refl _ _ _⟩
  case round =>
    obtain ⟨j, q, hj, rfl, hq0, hq1, rfl, hz⟩ := hrel
    by_cases hlt : j < rs.length
    · obtain ⟨va, vb, c1, c2, c3⟩ := hc j hlt
      obtain ⟨na, nca, nb, ncb, rfl, rfl, w1, w2⟩ := c3.form
      have e0 : rs.getD j RouteV.zero = rs[j] := by simp [List.getD, hlt]
      have hek := he rs[j] (List.getElem_mem hlt)
      rw [e0] at c1 c2 w1 w2
      replace c1 := hz.cell c1 (.inl (by omega))
      replace c2 := hz.cell c2 (.inl (by omega))
      replace w1 := hz.marks _ _ _ _ w1
      replace w2 := hz.marks _ _ _ _ w2
      generalize rs[j].needs.length = m1 at *
      generalize rs[j].blocks.length = m2 at *
      clear c3 hc e0
      go_wp2_with fail
      refine (wMarkNeeds (g + 1) hi m1 nca na q _ w1 hek.1 hq0 (by omega)).mono ?_
      rintro e w3 ⟨rfl, hz3⟩
      replace c2 := hz3.cell c2 (.inl (by omega))
      replace w2 := hz3.marks _ _ _ _ w2
      replace hz := hz.trans hz3
      clear hz3 c1 w1
      go_wp2_with fail
      refine (wMarkInts (g + 1) hi m2 ncb nb (q + 2 * m1) _ w2 hek.2 (by omega) (by omega)).mono ?_
      rintro e w4 ⟨rfl, hz4⟩
      replace hz := hz.trans hz4
      clear hz4 c2 w2
      go_wp2
      go_roundw
      case rel => exact ⟨j + 1, q + 2 * m1 + m2, by omega, rfl, by omega, by omega, by go_num, hz⟩
      case measure => simp [intOf]; omega
    · clear hc
      go_wp2
      go_ret
      exact ⟨q, rfl, hq0, by omega, hz.wider (by omega) (Nat.le_refl _)⟩

set_option maxHeartbeats 1600000 in
theorem cMarkPlant2 (lo hi ca cb : Nat) (a b : Option Addr) (p : PlantV) (w : World) (h : PlantOwn w lo hi a b p) (hS : Small p) (hs : hi ≤ w.heap.size) :
    Calls Try.prog 22 #[plantVal a ca b cb p, .int .i64 1] w fun e w' => ∃ q : Int, e = .returned (.int .i64 q) ∧ 0 ≤ q ∧ q ≤ 5000000000000 ∧ Far lo hi w w' := by
  obtain ⟨U, B, R⟩ := p
  obtain ⟨m, m1, m2, -, h2, h3⟩ := h
  obtain ⟨s1, s2, s3⟩ := hS
  unfold plantVal
  dsimp only at *
  have hb := balloc w (.cells #[.slice a U.length ca, .int .i64 B, .slice b R.length cb] 30)
  have g2 : (w.alloc (.cells #[.slice a U.length ca, .int .i64 B, .slice b R.length cb] 30)).cell? ⟨w.heap.size, 2, none⟩ = some (.slice b R.length cb) := by simp [go_sem]
  have F := (Far.refl lo hi w).below hb
  replace h2 := h2.below hb
  replace h3 := h3.below hb
  have hz0 := sz1 w (.cells #[.slice a U.length ca, .int .i64 B, .slice b R.length cb] 30)
  go_enter Try.func22, Try.ntmps22
  go_wp2_with fail
  refine (wMarkInts lo m U.length ca a 1 _ h2 s1 (by omega) (by omega)).mono ?_
  rintro e w1 ⟨rfl, hz⟩
  replace g2 := hz.cell g2 (.inr (by omega))
  replace h3 := h3.zone hz (.inr (Nat.le_refl _)) (by omega)
  have F1 := F.trans (hz.far.wider (Nat.le_refl _) m2)
  clear hz h2 F hb hz0
  go_wp2_with fail
  refine (wMarkRoutes2 m hi cb b R (1 + U.length) _ h3 s2 s3 (by omega) (by omega)).mono ?_
  rintro e w2 ⟨q, rfl, hq, hq2, hz⟩
  have F2 := F1.trans (hz.far.wider m1 (Nat.le_refl _))
  clear hz F1 g2
  go_wp2
  go_ret
  exact ⟨q, rfl, hq, by omega, F2⟩


theorem Wz.narrow {w : World} {lo hi n c : Nat} {a : Option Addr} (h : Wz w lo hi a n) : ∃ l1 h1, Wz w l1 h1 a n ∧ lo ≤ l1 ∧ (h1 ≤ hi ∨ h1 ≤ l1) ∧ ∀ k, l1 ≤ k → k < h1 → n ≠ 0 ∧ (Value.slice a n c).ownBlock = some k := by
  by_cases h0 : n = 0
  · exact ⟨lo, lo, .inl h0, Nat.le_refl _, .inr (Nat.le_refl _), fun k h1 h2 => by omega⟩
  rcases h with h | ⟨b, off, rfl, h2, h3, hc⟩
  · exact absurd h h0
  · exact ⟨b, b + 1, .inr ⟨b, off, rfl, Nat.le_refl _, Nat.lt_succ_self _, hc⟩, h2, .inl h3, fun k h1 h2 => ⟨h0, by show some b = some k; congr 1; omega⟩⟩
theorem Wb.narrow {w : World} {lo hi n c : Nat} {a : Option Addr} (h : Wb w lo hi a n) : ∃ l1 h1, Wb w l1 h1 a n ∧ lo ≤ l1 ∧ (h1 ≤ hi ∨ h1 ≤ l1) ∧ ∀ k, l1 ≤ k → k < h1 → n ≠ 0 ∧ (Value.slice a n c).ownBlock = some k := by
  by_cases h0 : n = 0
  · exact ⟨lo, lo, .inl h0, Nat.le_refl _, .inr (Nat.le_refl _), fun k h1 h2 => by omega⟩
  rcases h with h | ⟨b, rfl, h2, h3, hc⟩
  · exact absurd h h0
  · exact ⟨b, b + 1, .inr ⟨b, rfl, Nat.le_refl _, Nat.lt_succ_self _, hc⟩, h2, .inl h3, fun k h1 h2 => ⟨h0, by show some b = some k; congr 1; omega⟩⟩
theorem RowZ.beside {w w' : World} {lo hi T l1 h1 m : Nat} {u v : Value} {xs : List Value} (h : RowZ w lo hi T v xs) (hf : Far l1 h1 w w') (hk : ∀ k, l1 ≤ k → k < h1 → m ≠ 0 ∧ u.ownBlock = some k) (ho : Off u v m xs.length) : RowZ w' lo hi T v xs := by
  rcases h with h | ⟨q1, q2, q3⟩
  · exact .inl h
  · refine .inr ⟨q1, own_faz q2 hf (fun k hv => ?_), q3⟩
    by_cases h2 : l1 ≤ k ∧ k < h1
    · obtain ⟨hm, hu⟩ := hk k h2.1 h2.2
      exact absurd hv (ho hm (by simpa using q1) k hu)
    · omega
theorem Far.zone {lo hi l1 h1 : Nat} {w w' : World} (h : Far l1 h1 w w') (h2 : lo ≤ l1) (h3 : h1 ≤ hi ∨ h1 ≤ l1) : Far lo hi w w' :=
  ⟨h.os, h.tape, h.output, h.size, fun k hk hn => h.block k hk (by omega)⟩

set_option maxHeartbeats 3200000 in
/-- Marks on a locking of its own: nothing turns elsewhere. -/
theorem cMarkLockW (lo hi ca cb cc : Nat) (a b c : Option Addr) (l : LockV) (k : Int) (w : World) (h : LockOwn w lo hi a ca b cb c cc l) (hS : LSmall l) (hk0 : 0 ≤ k) (hk1 : k ≤ 6000000000000) :
    Calls Try.prog 23 #[lockVal a ca b cb c cc l, .int .i64 k] w fun e w' => ∃ q : Int, e = .returned (.int .i64 q) ∧ 0 ≤ q ∧ Far lo hi w w' := by
  obtain ⟨U, S, T⟩ := l
  obtain ⟨r1, r2, r3, o1, o2, o3⟩ := h
  obtain ⟨s1, s2, s3⟩ := hS
  unfold lockVal
  dsimp only at *
  have hb := balloc w (.cells #[.slice a U.length ca, .slice b S.length cb, .slice c T.length cc] 38)
  have g1 : (w.alloc (.cells #[.slice a U.length ca, .slice b S.length cb, .slice c T.length cc] 38)).cell? ⟨w.heap.size, 1, none⟩ = some (.slice b S.length cb) := by simp [go_sem]
  have g2 : (w.alloc (.cells #[.slice a U.length ca, .slice b S.length cb, .slice c T.length cc] 38)).cell? ⟨w.heap.size, 2, none⟩ = some (.slice c T.length cc) := by simp [go_sem]
  have l1 := row_lt r1 (by simp)
  have l2 := row_lt r2 (by simp)
  have F := (Far.refl lo hi w).below hb
  replace r1 := r1.below hb
  replace r2 := r2.below hb
  replace r3 := r3.below hb
  obtain ⟨za, zb, w1, y1, y2, y3⟩ := (r1.wz rfl).narrow (c := ca)
  go_enter Try.func23, Try.ntmps23
  go_wp2_with fail
  refine (wMarkInts za zb U.length ca a k _ w1 s1 hk0 (by omega)).mono ?_
  rintro e w2 ⟨rfl, hz⟩
  replace hz := hz.far
  have hnb : ∀ j, za ≤ j → j < zb → j < w.heap.size := fun j h1 h2 => by obtain ⟨q1, q2⟩ := y3 j h1 h2; exact l1 j (by rw [if_neg q1]; exact q2)
  replace g1 := cell_far hz g1 (by by_cases hq : za ≤ w.heap.size ∧ w.heap.size < zb
                                   · have := hnb _ hq.1 hq.2; omega
                                   · omega)
  replace g2 := cell_far hz g2 (by by_cases hq : za ≤ w.heap.size ∧ w.heap.size < zb
                                   · have := hnb _ hq.1 hq.2; omega
                                   · omega)
  replace r2 := r2.beside hz y3 (by simpa using o1)
  replace r3 := r3.beside hz y3 (by simpa using o2)
  replace F := F.trans (hz.zone y1 y2)
  clear hz w1 y1 y2 y3 hnb r1 hb
  obtain ⟨za, zb, w1, y1, y2, y3⟩ := (r2.wb rfl).narrow (c := cb)
  go_wp2_with fail
  refine (wMarkBools za zb S.length cb b (k + U.length) _ w1 s2 (by omega) (by omega)).mono ?_
  rintro e w3 ⟨rfl, hz⟩
  have hnb : ∀ j, za ≤ j → j < zb → j < w.heap.size := fun j h1 h2 => by obtain ⟨q1, q2⟩ := y3 j h1 h2; exact l2 j (by rw [if_neg q1]; exact q2)
  replace g2 := cell_far hz g2 (by by_cases hq : za ≤ w.heap.size ∧ w.heap.size < zb
                                   · have := hnb _ hq.1 hq.2; omega
                                   · omega)
  replace r3 := r3.beside hz y3 (by simpa using o3)
  replace F := F.trans (hz.zone y1 y2)
  clear hz w1 y1 y2 y3 hnb r2 g1
  obtain ⟨za, zb, w1, y1, y2, y3⟩ := (r3.wb rfl).narrow (c := cc)
  go_wp2_with fail
  refine (wMarkBools za zb T.length cc c (k + U.length + S.length) _ w1 s3 (by omega) (by omega)).mono ?_
  rintro e w4 ⟨rfl, hz⟩
  replace F := F.trans (hz.zone y1 y2)
  clear hz w1 y1 y2 y3 r3 g2
  go_wp2
  go_ret
  exact ⟨_, rfl, by omega, F⟩
end Go.Proofs.Ytdcohaejdlgnpaa
