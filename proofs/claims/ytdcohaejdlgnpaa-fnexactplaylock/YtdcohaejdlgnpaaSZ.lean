/- The laws' own measure of what comes in. -/
import Derived.Test.YtdcohaejdlgnpaaV
namespace Go.Proofs.Ytdcohaejdlgnpaa
open Go.RowKit

set_option maxHeartbeats 400000 in
theorem cSzInts (a : Option Addr) (n cap : Nat) (left : Int) (w : World) (h0 : 0 ≤ left) (h1 : left ≤ 1048576) (hn : n ≤ maxLen) :
    Calls Try.prog 46 #[.slice a n cap, .int .i64 left] w fun e w' => ∃ r, e = .returned (.int .i64 r) ∧ (r = -1 ∨ (r = left - n ∧ 0 ≤ r)) ∧ w' = w := by
  unfold maxLen at hn
  by_cases hl : left - n < 0
  · go_enter Try.func46, Try.ntmps46
    go_wp2
    go_ret
    exact ⟨_, rfl, .inl rfl, rfl⟩
  · go_enter Try.func46, Try.ntmps46
    go_wp2
    go_ret
    exact ⟨_, rfl, .inr ⟨rfl, by omega⟩, rfl⟩
set_option maxHeartbeats 400000 in
theorem cSzBools (a : Option Addr) (n cap : Nat) (left : Int) (w : World) (h0 : 0 ≤ left) (h1 : left ≤ 1048576) (hn : n ≤ maxLen) :
    Calls Try.prog 64 #[.slice a n cap, .int .i64 left] w fun e w' => ∃ r, e = .returned (.int .i64 r) ∧ (r = -1 ∨ (r = left - n ∧ 0 ≤ r)) ∧ w' = w := by
  unfold maxLen at hn
  by_cases hl : left - n < 0
  · go_enter Try.func64, Try.ntmps64
    go_wp2
    go_ret
    exact ⟨_, rfl, .inl rfl, rfl⟩
  · go_enter Try.func64, Try.ntmps64
    go_wp2
    go_ret
    exact ⟨_, rfl, .inr ⟨rfl, by omega⟩, rfl⟩

set_option maxHeartbeats 800000 in
theorem cSzRoute (a b : Option Addr) (ca cb n m : Nat) (left : Int) (w : World) (h0 : 0 ≤ left) (h1 : left ≤ 1048576) (hn : n ≤ maxLen) (hm : m ≤ maxLen) :
    Calls Try.prog 76 #[.agg #[.slice a n ca, .slice b m cb], .int .i64 left] w fun e w' => ∃ r, e = .returned (.int .i64 r) ∧ (r = -1 ∨ (0 ≤ r ∧ r ≤ left ∧ n ≤ 1048576 ∧ m ≤ 1048576)) ∧ Below w.heap.size w w' := by
  have hb := balloc w (.cells #[.slice a n ca, .slice b m cb] 103)
  go_enter Try.func76, Try.ntmps76
  go_wp2_with fail
  refine (cSzNeeds a n ca left _ h0 h1 hn).mono ?_
  rintro e w1 ⟨r, rfl, hr, hw⟩
  subst w1
  rcases hr with rfl | ⟨hr, hr0⟩
  · go_wp2
    go_ret
    exact ⟨_, rfl, .inl rfl, hb⟩
  have hr1 : ¬ (r < 0) := by omega
  have hrl : r ≤ left ∧ n ≤ 1048576 := by omega
  clear hr
  go_wp2_with fail
  refine (cSzInts b m cb r _ hr0 (by omega) hm).mono ?_
  rintro e w1 ⟨q, rfl, hq, hw⟩
  subst w1
  rcases hq with rfl | ⟨hq, hq0⟩
  · go_wp2
    go_ret
    exact ⟨_, rfl, .inl rfl, hb⟩
  have hq1 : ¬ (q < 0) := by omega
  have hql : q ≤ left ∧ m ≤ 1048576 := by omega
  clear hr1 hq
  go_wp2
  go_ret
  exact ⟨_, rfl, .inr ⟨hq0, hql.1, hrl.2, hql.2⟩, hb⟩

/-- No list beyond what a slice may be. -/
structure Big (p : PlantV) : Prop where
  under : p.under.length ≤ maxLen
  routes : p.routes.length ≤ maxLen
  each : ∀ r ∈ p.routes, r.needs.length ≤ maxLen ∧ r.blocks.length ≤ maxLen

set_option maxHeartbeats 1600000 in
theorem cSzRoutes (a : Option Addr) (cap : Nat) (rs : List RouteV) (left : Int) (w : World) (hR : Routes w a rs) (h0 : 0 ≤ left) (h1 : left ≤ 1048576) (hm : rs.length ≤ maxLen) (he : ∀ r ∈ rs, r.needs.length ≤ maxLen ∧ r.blocks.length ≤ maxLen) :
    Calls Try.prog 47 #[.slice a rs.length cap, .int .i64 left] w fun e w' => ∃ r, e = .returned (.int .i64 r) ∧ (r = -1 ∨ (0 ≤ r ∧ r ≤ left ∧ rs.length ≤ 1048576 ∧ ∀ q ∈ rs, q.needs.length ≤ 1048576 ∧ q.blocks.length ≤ 1048576)) ∧ Below w.heap.size w w' := by
  unfold maxLen at hm
  by_cases hl : left - rs.length < 0
  · go_enter Try.func47, Try.ntmps47
    go_wp2
    go_ret
    exact ⟨_, rfl, .inl rfl, Below.refl _ _⟩
  have hrl : rs.length ≤ 1048576 := by omega
  go_enter Try.func47, Try.ntmps47
  go_wp2
  go_loopw [1, 5] (fun lf i wr => ∃ (k : Nat) (q : Int), k ≤ rs.length ∧ i = .int .i64 k ∧ lf = .int .i64 q ∧ 0 ≤ q ∧ q ≤ left ∧ (∀ j, (hj : j < rs.length) → j < k → rs[j].needs.length ≤ 1048576 ∧ rs[j].blocks.length ≤ 1048576) ∧ Below w.heap.size w wr) (fun _ i _ => rs.length - (intOf i).toNat)
  case atStart => exact ⟨0, left - rs.length, Nat.zero_le _, rfl, rfl, by omega, by omega, fun _ _ h => by omega, Below.refl _ _⟩
  case round =>
    obtain ⟨k, q, hk, rfl, rfl, hq0, hq1, hall, hb⟩ := hrel
    clear hl
    by_cases hlt : k < rs.length
    · obtain ⟨b, off, n, cn, m, cm, rfl, c1, c2, _, _⟩ := (hR.below hb).at hlt
      have e0 : rs.getD k RouteV.zero = rs[k] := by simp [List.getD, hlt]
      rw [e0] at c1 c2
      have hek := he rs[k] (List.getElem_mem hlt)
      have CZ := fun w1 => cSzRoute n m cn cm rs[k].needs.length rs[k].blocks.length q w1 hq0 (by omega) hek.1 hek.2
      generalize hn1 : rs[k].needs.length = n1 at c1 CZ
      have hN := hide hn1
      generalize hn2 : rs[k].blocks.length = n2 at c2 CZ
      have hM := hide hn2
      clear hn1 hn2
      go_wp2_with fail
      refine (CZ _).mono ?_
      rintro e w1 ⟨z, rfl, hz, hb1⟩
      have HB := btrans hb hb1
      rcases hz with rfl | ⟨hz0, hz1, hz2, hz3⟩
      · go_wp2
        go_ret
        exact ⟨_, rfl, .inl rfl, HB⟩
      have hz4 : ¬ (z < 0) := by omega
      go_wp2
      go_roundw
      case rel =>
        refine ⟨k + 1, z, by omega, by go_num, rfl, hz0, by omega, fun j hj hjk => ?_, HB⟩
        by_cases hjj : j = k
        · subst hjj; exact ⟨by rw [hN.out]; exact hz2, by rw [hM.out]; exact hz3⟩
        · exact hall j hj (by omega)
      case measure => simp [intOf]; omega
    · obtain rfl : k = rs.length := by omega
      go_wp2
      go_ret
      refine ⟨_, rfl, .inr ⟨hq0, hq1, hrl, fun r hr => ?_⟩, hb⟩
      obtain ⟨j, hj, rfl⟩ := List.getElem_of_mem hr
      exact hall j hj hj
set_option maxHeartbeats 800000 in
theorem cSzPlant (a b : Option Addr) (ca cb : Nat) (p : PlantV) (w : World) (hP : PlantIn w a b p) (hB : Big p) :
    Calls Try.prog 12 #[plantVal a ca b cb p, .int .i64 1048576] w fun e w' => ∃ r, e = .returned (.int .i64 r) ∧ (r = -1 ∨ (0 ≤ r ∧ r ≤ 1048576 ∧ Small p)) ∧ Below w.heap.size w w' := by
  obtain ⟨U, B, R⟩ := p
  obtain ⟨hU, hR⟩ := hP
  obtain ⟨b1, b2, b3⟩ := hB
  dsimp only at *
  unfold plantVal
  dsimp only
  have hb := balloc w (.cells #[.slice a U.length ca, .int .i64 B, .slice b R.length cb] 25)
  go_enter Try.func12, Try.ntmps12
  go_wp2_with fail
  refine (cSzInts a U.length ca 1048576 _ (by omega) (by omega) b1).mono ?_
  rintro e w1 ⟨r, rfl, hr, hw⟩
  subst w1
  rcases hr with rfl | ⟨hr, hr0⟩
  · go_wp2
    go_ret
    exact ⟨_, rfl, .inl rfl, hb⟩
  have hr1 : ¬ (r < 0) := by omega
  have hrl : r ≤ 1048576 ∧ U.length ≤ 1048576 := by omega
  clear hr
  go_wp2_with fail
  refine (cSzRoutes b cb R r _ (hR.below hb) hr0 (by omega) b2 b3).mono ?_
  rintro e w1 ⟨q, rfl, hq, hb1⟩
  have HB := btrans hb hb1
  rcases hq with rfl | ⟨hq0, hq1, hq2, hq3⟩
  · go_wp2
    go_ret
    exact ⟨_, rfl, .inl rfl, HB⟩
  have hq4 : ¬ (q < 0) := by omega
  clear hr1
  go_wp2
  go_ret
  exact ⟨_, rfl, .inr ⟨hq0, by omega, ⟨hrl.2, hq2, hq3⟩⟩, HB⟩
/-- A locking's lists are slices. -/
structure LBig (l : LockV) : Prop where
  pos : l.pos.length ≤ maxLen
  set : l.set.length ≤ maxLen
  taken : l.taken.length ≤ maxLen
set_option maxHeartbeats 800000 in
theorem cSzLock (a b c : Option Addr) (ca cb cc : Nat) (l : LockV) (left : Int) (w : World) (hB : LBig l) (h0 : 0 ≤ left) (h1 : left ≤ 1048576) :
    Calls Try.prog 25 #[lockVal a ca b cb c cc l, .int .i64 left] w fun e w' => ∃ r, e = .returned (.int .i64 r) ∧ (r = -1 ∨ (0 ≤ r ∧ LSmall l)) ∧ Below w.heap.size w w' := by
  obtain ⟨U, B, R⟩ := l
  obtain ⟨b1, b2, b3⟩ := hB
  dsimp only at *
  unfold lockVal
  dsimp only
  have hb := balloc w (.cells #[.slice a U.length ca, .slice b B.length cb, .slice c R.length cc] 43)
  go_enter Try.func25, Try.ntmps25
  go_wp2_with fail
  refine (cSzInts a U.length ca left _ (by omega) (by omega) b1).mono ?_
  rintro e w1 ⟨r, rfl, hr, hw⟩
  subst w1
  rcases hr with rfl | ⟨hr, hr0⟩
  · go_wp2
    go_ret
    exact ⟨_, rfl, .inl rfl, hb⟩
  have hr1 : ¬ (r < 0) := by omega
  have hrl : r ≤ 1048576 ∧ U.length ≤ 1048576 := by omega
  clear hr
  go_wp2_with fail
  refine (cSzBools b B.length cb r _ hr0 (by omega) b2).mono ?_
  rintro e w1 ⟨q, rfl, hq, hw⟩
  subst w1
  rcases hq with rfl | ⟨hq, hq0⟩
  · go_wp2
    go_ret
    exact ⟨_, rfl, .inl rfl, hb⟩
  have hq1 : ¬ (q < 0) := by omega
  have hql : q ≤ 1048576 ∧ B.length ≤ 1048576 := by omega
  clear hr1 hq
  go_wp2_with fail
  refine (cSzBools c R.length cc q _ hq0 (by omega) b3).mono ?_
  rintro e w1 ⟨z, rfl, hz, hw⟩
  subst w1
  rcases hz with rfl | ⟨hz, hz0⟩
  · go_wp2
    go_ret
    exact ⟨_, rfl, .inl rfl, hb⟩
  have hz1 : ¬ (z < 0) := by omega
  have hzl : R.length ≤ 1048576 := by omega
  clear hq1 hz
  go_wp2
  go_ret
  exact ⟨_, rfl, .inr ⟨hz0, ⟨hrl.2, hql.2, hzl⟩⟩, hb⟩
end Go.Proofs.Ytdcohaejdlgnpaa
