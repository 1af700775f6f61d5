/- Places of tasks: the program's shifts, the model's test. -/
import Derived.Test.YtdmdoknkkfhheaaCB
import Derived.Deep.RegionHeld3
import Derived.Deep.AppendLies
namespace Go.Proofs.Ytdmdoknkkfhheaa
open Go.RowKit

theorem okP_eq (n : Nat) (ps : List Int) (k : Nat) : okP n ps k = (inB (ps.getD k 0) 0 ((n : Int) - 1) && !decide (ps.getD k 0 ∈ ps.take k)) := by
  unfold okP; rw [List.contains_eq_mem]
theorem plB_bad {ts : List TaskV} {ps : List Int} {M k : Nat} (hk : k < ps.length) (h : okP ts.length ps k = false) : plB ts ps M = false := by
  cases hq : plB ts ps M
  · rfl
  · have := (plB_iff.1 hq).2.2 k hk; rw [h] at this; cases this
theorem plB_no1 {ts : List TaskV} {ps : List Int} {M : Nat} (h : tasksB ts = false) : plB ts ps M = false := by simp [plB, h]
theorem plB_no2 {ts : List TaskV} {ps : List Int} {M : Nat} (h : ¬ ps.length ≤ M) : plB ts ps M = false := by simp [plB, h]
theorem pick_step {ts : List TaskV} {ps : List Int} {k : Nat} (hk : k < ps.length) : flatTasks ((pickL ts ps).take (k + 1)) = flatTasks ((pickL ts ps).take k) ++ (tkA ts (ps.getD k 0).toNat).vs := by
  have h1 : k < (pickL ts ps).length := by rw [pickL_len]; exact hk
  have e := tkA_pick (ts := ts) hk
  unfold tkA at e
  rw [getD_lt h1] at e
  rw [List.take_succ_eq_append_getElem h1, flatTasks_app, e]
  simp [flatTasks, tkA]
/-- A shift, or none. -/
def AnsSh (ts : List TaskV) (ps : List Int) (M : Nat) (w : World) (e : Ending) (w' : World) : Prop :=
  ∃ v, e = .returned (.tuple #[v, .bool (plB ts ps M)]) ∧ (plB ts ps M = true → w'.ownsRow w.heap.size 37 5 v ps.length (flatTasks (pickL ts ps))) ∧ (plB ts ps M = false → v = .slice none 0 0) ∧ Below w.heap.size w w'
theorem AnsSh.no {ts : List TaskV} {ps : List Int} {M : Nat} {w w' : World} (h : plB ts ps M = false) (hb : Below w.heap.size w w') : AnsSh ts ps M w (.returned (.tuple #[.slice none 0 0, .bool false])) w' :=
  ⟨_, by rw [h], (fun g => by rw [h] at g; cases g), fun _ => rfl, hb⟩
theorem AnsSh.yes {ts : List TaskV} {ps : List Int} {M : Nat} {w w' : World} {v : Value} (h : plB ts ps M = true) (ho : w'.ownsRow w.heap.size 37 5 v ps.length (flatTasks (pickL ts ps))) (hb : Below w.heap.size w w') : AnsSh ts ps M w (.returned (.tuple #[v, .bool true])) w' :=
  ⟨_, by rw [h], fun _ => ho, (fun g => by rw [h] at g; cases g), hb⟩

set_option maxRecDepth 20000 in
set_option maxHeartbeats 3200000 in
theorem cShift (ta : Option Addr) (tc : Nat) (ts : List TaskV) (pa : Option Addr) (pc : Nat) (ps : List Int) (M : Nat) (hM40 : M ≤ 40) (w : World) (ht : Tasks w ta ts) (hp : Ints w pa ps) (hlt : ts.length ≤ 1048576) (hpc : ps.length ≤ pc) :
    Calls Try.prog 39 #[.slice ta ts.length tc, .slice pa ps.length pc, .int .i64 (M : Int)] w (AnsSh ts ps M w) := by
  obtain ⟨i0, hi, hz0, hz1, hz2⟩ := info_parts infoTasks
  go_enter Try.func39, Try.ntmps39
  go_wp2_with fail
  refine (cTasksI ta tc ts _ ht hlt).mono ?_
  rintro e w1 ⟨rfl, hw⟩
  cases hT : tasksB ts
  · have hN := hide (plB_no1 (ps := ps) (M := M) hT)
    go_wp2
    go_ret2
    exact AnsSh.no hN.out hw
  by_cases hM : ps.length ≤ M
  rotate_left
  · have hN := hide (plB_no2 (ts := ts) hM)
    have hM' : (M : Int) < (ps.length : Int) := by omega
    go_wp2
    go_ret2
    exact AnsSh.no hN.out hw
  have hM' : ¬ ((M : Int) < (ps.length : Int)) := by omega
  have hM2 : decide (M < ps.length) = false := decide_eq_false (by omega)
  have O0 : w1.ownsRow w.heap.size 37 5 (.slice none 0 0) 0 (flatTasks ((pickL ts ps).take 0)) := World.ownsRow_nil _ _ _ _
  have hYes := hide (fun h => plB_iff.2 ⟨hT, hM, h⟩)
  have hBad := hide (fun (k : Nat) (hk : k < ps.length) h => plB_bad (ts := ts) (M := M) hk h)
  have h40 : ts.length ≤ 40 := by simp only [tasksB, Bool.and_eq_true, decide_eq_true_eq] at hT; exact hT.1
  clear hT hM
  go_wp2
  go_loopw [8, 22] (fun v i wr => ∃ k : Nat, k ≤ ps.length ∧ i = .int .i64 k ∧ wr.ownsRow w.heap.size 37 5 v k (flatTasks ((pickL ts ps).take k)) ∧ Hid (∀ j, j < k → okP ts.length ps j = true) ∧ Below w.heap.size w wr) (fun _ i _ => ps.length - (intOf i).toNat)
  case atStart => exact ⟨0, Nat.zero_le _, rfl, O0, hide (fun j hj => by omega), hw⟩
  case round =>
    obtain ⟨k, hk, rfl, ho, hok, hb⟩ := hrel
    clear O0 hw
    by_cases hlk : k < ps.length
    · have hlk' : (k : Int) < (ps.length : Int) := by omega
      have hlc : (k : Int) ≤ (pc : Int) := by omega
      have hk0 : (0 : Int) ≤ (k : Int) := by omega
      have E := hide (okP_eq ts.length ps k)
      have S1 := hide (pick_step (ts := ts) hlk)
      have bad := hide (hBad.out k hlk)
      obtain ⟨va, vc, rfl⟩ := own_form ho
      rcases hp with h | ⟨b, off, rfl, hc⟩
      · simp [h] at hlk
      have p0 := ble hb (hc k hlk)
      have hU : Ints wr (some ⟨b, off, none⟩) (ps.take k) := Ints.upto (.inr ⟨b, off, rfl, fun i hi => ble hb (hc i hi)⟩) k
      have hln : (ps.take k).length = k := by simp; omega
      generalize hx : ps.getD k 0 = x at *
      have CC := fun (w : World) h => cContainsInts (some ⟨b, off, none⟩) pc (ps.take k) x w h (by omega)
      rw [hln] at CC
      have e1 : IntKind.i64.wrap ((ts.length : Int) - 1) = (ts.length : Int) - 1 := wrap_in _ (by omega) (by omega)
      clear hln hx hc
      go_wp2_with fail
      refine (cWithin x 0 ((ts.length : Int) - 1) _).mono ?_
      rintro e w2 ⟨rfl, hw2⟩
      subst w2
      cases g1 : inB x 0 ((ts.length : Int) - 1)
      · have hN := hide (bad.out (by rw [E.out, g1]; rfl))
        clear E S1 bad hok hYes hBad CC
        go_wp2
        go_ret2
        exact AnsSh.no hN.out hb
      obtain ⟨x0, x1⟩ := inB_true g1
      obtain ⟨q, rfl⟩ : ∃ q : Nat, x = q := ⟨x.toNat, by omega⟩
      go_wp2_with fail
      refine (CC _ hU).mono ?_
      rintro e w2 ⟨rfl, hw2⟩
      subst w2
      by_cases hm : (q : Int) ∈ ps.take k
      · have hN := hide (bad.out (by rw [E.out]; simp [hm]))
        rw [decide_eq_true hm]
        clear E S1 bad hok hYes hBad CC hm hU
        go_wp2
        go_ret2
        exact AnsSh.no hN.out hb
      have hY := hide (show okP ts.length ps k = true by rw [E.out, g1, decide_eq_false hm]; rfl)
      rw [decide_eq_false hm]
      have hq : q < ts.length := by omega
      rcases ht with h | ⟨tb, toff, rfl, htc⟩
      · simp [h] at hq
      obtain ⟨r0, r1, r2, r3, r4⟩ := htc q hq
      replace r0 := ble hb r0
      replace r1 := ble hb r1
      replace r2 := ble hb r2
      replace r3 := ble hb r3
      replace r4 := ble hb r4
      rw [Int.toNat_natCast] at S1
      have eT : tkA ts q = ts.getD q TaskV.zero := rfl
      rw [eT] at S1
      clear E bad CC hm hU hYes hBad htc eT g1 p0
      generalize ts.getD q TaskV.zero = y at *
      obtain ⟨ye, yd, yf, yt, yp⟩ := y
      unfold TaskV.vs at S1
      dsimp only at *
      have hN := one_block wr (.cells #[.int .i64 ye, .int .i64 yd, .int .i64 yf, .int .i64 yt, .int .i64 yp] 37)
      have hb6 := balloc wr (.cells #[.int .i64 ye, .int .i64 yd, .int .i64 yf, .int .i64 yt, .int .i64 yp] 37)
      have ho6 := own_keep ho hb6
      have hbx := btrans hb hb6
      go_wp2_with (at_builtin; refine wpList_append_own _ rfl _ _ 60 rfl w.heap.size 37 i0 _ 5 40 Try.underlying60 hi hz0 hz1 hz2 rfl (by decide) _ _ _ rfl ho6 ⟨wr.heap.size, 0, none⟩ 1 1 [.int .i64 ye, .int .i64 yd, .int .i64 yf, .int .i64 yt, .int .i64 yp] rfl rfl ?c1 ?c2 ?c3 ?c4 ?c5 ?_)
      case c1 => exact World.news_of_block hN
      case c2 => intro u hu; simp at hu; rcases hu with rfl | rfl | rfl | rfl | rfl <;> rfl
      case c3 => unfold maxLen; omega
      case c4 => omega
      case c5 => exact hbx.size
      intro v2 w5 hown hgrow _
      have hb5 := hbx.grown hgrow hbx.size (own_from ho6 (Nat.le_refl _))
      rw [← S1.out] at hown
      have hok2 : Hid (∀ j, j < k + 1 → okP ts.length ps j = true) := hide (fun j hj => by
        by_cases e : j = k
        · subst e; exact hY.out
        · exact hok.out j (by omega))
      clear hgrow hN ho6 hbx S1 hb6 ho hok hY
      go_wp2
      go_roundw
      case rel => exact ⟨k + 1, by omega, by go_num, hown, hok2, hb5⟩
      case measure => simp [intOf]; omega
    · obtain rfl : k = ps.length := by omega
      have hY := hide (hYes.out hok.out)
      have hL : (pickL ts ps).take ps.length = pickL ts ps := by rw [← pickL_len ts ps, List.take_length]
      rw [hL] at ho
      clear hok hYes hBad hL ht hp
      obtain ⟨va, vc, rfl⟩ := own_form ho
      go_wp2
      go_ret2
      exact AnsSh.yes hY.out ho hb

/-- A duty's shift, or none. -/
def AnsDu (ts : List TaskV) (ps : List Int) (w : World) (e : Ending) (w' : World) : Prop :=
  ∃ a n c, e = .returned (.tuple #[.slice a n c, .bool (dutyB ts ps)]) ∧ (dutyB ts ps = true → n = ps.length ∧ w'.ownsRow w.heap.size 37 5 (.slice a n c) ps.length (flatTasks (pickL ts ps))) ∧ Below w.heap.size w w'
set_option maxRecDepth 20000 in
set_option maxHeartbeats 1600000 in
theorem cDuty (ta : Option Addr) (tc : Nat) (ts : List TaskV) (pa : Option Addr) (pc : Nat) (ps : List Int) (w : World) (ht : Tasks w ta ts) (hp : Ints w pa ps) (hlt : ts.length ≤ 1048576) (hpc : ps.length ≤ pc) :
    Calls Try.prog 43 #[.slice ta ts.length tc, .slice pa ps.length pc] w (AnsDu ts ps w) := by
  have E : Hid (dutyB ts ps = (plB ts ps 12 && decide (0 < ps.length))) := rfl
  go_enter Try.func43, Try.ntmps43
  go_wp2_with fail
  refine (cShift ta tc ts pa pc ps 12 (by omega) _ ht hp hlt hpc).mono ?_
  rintro e w1 ⟨v, rfl, hy, hn, hb⟩
  cases hq : plB ts ps 12
  · obtain rfl := hn hq
    have hF := hide (show dutyB ts ps = false by rw [E.out, hq]; rfl)
    clear E hy hn hp ht
    go_wp2
    go_ret2
    exact ⟨_, _, _, (by rw [hF.out]; rfl), (fun h => by rw [hF.out] at h; cases h), hb⟩
  · have ho := hy hq
    obtain ⟨a, c, rfl⟩ := own_form ho
    have hF := hide (show dutyB ts ps = decide (0 < ps.length) by rw [E.out, hq]; simp)
    clear E hy hn hp ht hpc
    go_wp2
    go_ret2
    refine ⟨_, _, _, ?_, fun h => ⟨rfl, ho⟩, hb⟩
    rw [hF.out]; rfl

set_option maxRecDepth 20000 in
set_option maxHeartbeats 3200000 in
theorem cPlaces (ta : Option Addr) (tc : Nat) (ts : List TaskV) (pa : Option Addr) (pc : Nat) (ps : List Int) (M : Nat) (hM40 : M ≤ 40) (w : World) (ht : Tasks w ta ts) (hp : Ints w pa ps) (hlt : ts.length ≤ 1048576) (hpc : ps.length ≤ pc) :
    Calls Try.prog 41 #[.slice ta ts.length tc, .slice pa ps.length pc, .int .i64 (M : Int)] w fun e w' => e = .returned (.bool (plB ts ps M)) ∧ Below w.heap.size w w' := by
  go_enter Try.func41, Try.ntmps41
  go_wp2_with fail
  refine (cTasksS ta tc ts _ ht hlt).mono ?_
  rintro e w1 ⟨rfl, hw⟩
  cases hT : tasksB ts
  · have hN := hide (plB_no1 (ps := ps) (M := M) hT)
    go_wp2
    go_ret
    exact ⟨ret_bool hN.out.symm, hw⟩
  by_cases hM : ps.length ≤ M
  rotate_left
  · have hN := hide (plB_no2 (ts := ts) hM)
    have hM' : (M : Int) < (ps.length : Int) := by omega
    go_wp2
    go_ret
    exact ⟨ret_bool hN.out.symm, hw⟩
  have hM' : ¬ ((M : Int) < (ps.length : Int)) := by omega
  have hM2 : decide (M < ps.length) = false := decide_eq_false (by omega)
  have hYes := hide (fun h => plB_iff.2 ⟨hT, hM, h⟩)
  have hBad := hide (fun (k : Nat) (hk : k < ps.length) h => plB_bad (ts := ts) (M := M) hk h)
  have h40 : ts.length ≤ 40 := by simp only [tasksB, Bool.and_eq_true, decide_eq_true_eq] at hT; exact hT.1
  clear hT hM ht
  go_wp2
  go_loopw [7] (fun i wr => ∃ k : Nat, k ≤ ps.length ∧ i = .int .i64 k ∧ Hid (∀ j, j < k → okP ts.length ps j = true) ∧ Below w.heap.size w wr) (fun i _ => ps.length - (intOf i).toNat)
  case atStart => exact ⟨0, Nat.zero_le _, rfl, hide (fun j hj => by omega), hw⟩
  case round =>
    obtain ⟨k, hk, rfl, hok, hb⟩ := hrel
    clear hw
    by_cases hlk : k < ps.length
    · have hlk' : (k : Int) < (ps.length : Int) := by omega
      have hlc : (k : Int) ≤ (pc : Int) := by omega
      have hk0 : (0 : Int) ≤ (k : Int) := by omega
      have E := hide (okP_eq ts.length ps k)
      have bad := hide (hBad.out k hlk)
      rcases hp with h | ⟨b, off, rfl, hc⟩
      · simp [h] at hlk
      have p0 := ble hb (hc k hlk)
      have hbs := cell_lt p0
      have hU : ∀ n, Ints (wr.drewN n) (some ⟨b, off, none⟩) (ps.take k) := fun n => Ints.upto (.inr ⟨b, off, rfl, fun i hi => ble (bdraw hb n) (hc i hi)⟩) k
      have hln : (ps.take k).length = k := by simp; omega
      generalize hx : ps.getD k 0 = x at *
      have CC := fun (w : World) h => cHas (some ⟨b, off, none⟩) pc (ps.take k) x w h (by omega)
      rw [hln] at CC
      have CI := fun (w : World) => cIn x 0 ((ts.length : Int) - 1) w
      have e1 : IntKind.i64.wrap ((ts.length : Int) - 1) = (ts.length : Int) - 1 := wrap_in _ (by omega) (by omega)
      clear hln hx hc
      cases g1 : inB x 0 ((ts.length : Int) - 1)
      · have hN := hide (bad.out (by rw [E.out, g1]; rfl))
        rw [g1] at CI
        clear E bad hok hYes hBad CC hU
        go_wp2
        go_quiet (first | (go_at_call 48; with_reducible refine Calls.quiet_of_same (CI _)))
        go_wp2
        go_ret
        exact ⟨ret_bool hN.out.symm, bdraw hb _⟩
      rw [g1] at CI
      by_cases hm : x ∈ ps.take k
      · have hN := hide (bad.out (by rw [E.out]; simp [hm]))
        rw [decide_eq_true hm] at CC
        clear E bad hok hYes hBad hm
        go_wp2
        go_quiet (first | (go_at_call 48; with_reducible refine Calls.quiet_of_same (CI _)) | (go_at_call 59; with_reducible refine Calls.quiet_of_same (CC _ (hU _))))
        go_wp2
        go_ret
        exact ⟨ret_bool hN.out.symm, bdraw hb _⟩
      · have hY := hide (show okP ts.length ps k = true by rw [E.out, g1, decide_eq_false hm]; rfl)
        rw [decide_eq_false hm] at CC
        have hok2 : Hid (∀ j, j < k + 1 → okP ts.length ps j = true) := hide (fun j hj => by
          by_cases e : j = k
          · subst e; exact hY.out
          · exact hok.out j (by omega))
        clear E bad hok hYes hBad hm hY
        go_wp2
        go_quiet (first | (go_at_call 48; with_reducible refine Calls.quiet_of_same (CI _)) | (go_at_call 59; with_reducible refine Calls.quiet_of_same (CC _ (hU _))))
        go_wp2
        go_roundw
        case rel => exact ⟨k + 1, by omega, by go_num, hok2, bdraw hb _⟩
        case measure => simp [intOf]; omega
    · obtain rfl : k = ps.length := by omega
      have hY := hide (hYes.out hok.out)
      clear hok hYes hBad hp
      go_wp2
      go_ret
      exact ⟨ret_bool hY.out.symm, hb⟩

set_option maxRecDepth 20000 in
set_option maxHeartbeats 1600000 in
theorem cDutyS (ta : Option Addr) (tc : Nat) (ts : List TaskV) (pa : Option Addr) (pc : Nat) (ps : List Int) (w : World) (ht : Tasks w ta ts) (hp : Ints w pa ps) (hlt : ts.length ≤ 1048576) (hpc : ps.length ≤ pc) :
    Calls Try.prog 47 #[.slice ta ts.length tc, .slice pa ps.length pc] w fun e w' => e = .returned (.bool (dutyB ts ps)) ∧ Below w.heap.size w w' := by
  have E : Hid (dutyB ts ps = (plB ts ps 12 && decide (0 < ps.length))) := rfl
  go_enter Try.func47, Try.ntmps47
  go_wp2_with fail
  refine (cPlaces ta tc ts pa pc ps 12 (by omega) _ ht hp hlt hpc).mono ?_
  rintro e w1 ⟨rfl, hb⟩
  cases hq : plB ts ps 12
  · have hF := hide (show dutyB ts ps = false by rw [E.out, hq]; rfl)
    clear E hp ht
    go_wp2
    go_ret
    exact ⟨ret_bool hF.out.symm, hb⟩
  · have hF := hide (show dutyB ts ps = decide (0 < ps.length) by rw [E.out, hq]; simp)
    clear E hp ht hpc
    go_wp2
    go_ret
    exact ⟨ret_bool hF.out.symm, hb⟩
end Go.Proofs.Ytdmdoknkkfhheaa
