/- Drive of the model. -/
import Derived.Test.YtnbfkkmjehhihaaDoorZE
namespace Go.Proofs.YtnbfkkmjehhihaaDoor
open Go.RowKit

set_option maxRecDepth 20000 in
set_option maxHeartbeats 6400000 in
theorem cDriveS (a am : Option Addr) (cap cm : Nat) (n : Int) (ts : List SpanV) (ms : List Int) (y : Int) (w : World) (he : Spans w a ts) (hl : ts.length ≤ 1048576) (hm : Ints w am ms) (hml : ms.length ≤ 1048576) :
    Calls Tryd.prog 25 #[.int .i64 n, .slice a ts.length cap, .slice am ms.length cm, .int .i64 y] w fun e w' => ∃ v, e = .returned (.tuple #[v, .int .i64 (drive n y ts ms).2]) ∧
      w'.ownsRow w.heap.size 52 2 v (drive n y ts ms).1.length (flatSpans (drive n y ts ms).1) ∧ Below w.heap.size w w' := by
  cases h : trainsOk n ts
  · have R := hide (drive_no (n := n) (y := y) (ts := ts) (ms := ms) (by unfold driveOk; rw [h]; rfl))
    generalize drive n y ts ms = r at *
    go_enter Tryd.func25, Tryd.ntmps25
    go_wp2_with fail
    refine (cTrainsV h a cap _ he hl).mono ?_
    rintro e w1 ⟨rfl, hb1⟩
    go_wp2
    go_ret2
    exact ⟨_, by rw [R.out]; rfl, by rw [R.out]; exact nil_row _ _, hb1⟩
  cases hy : inB y 0 3
  · have R := hide (drive_no (n := n) (y := y) (ts := ts) (ms := ms) (by unfold driveOk; rw [hy]; simp))
    generalize drive n y ts ms = r at *
    go_enter Tryd.func25, Tryd.ntmps25
    go_wp2_with fail
    refine (cTrainsV h a cap _ he hl).mono ?_
    rintro e w1 ⟨rfl, hb1⟩
    go_wp2_with fail
    refine (cInV hy _).mono ?_
    rintro e w2 ⟨rfl, hw⟩
    subst w2
    go_wp2
    go_ret2
    exact ⟨_, by rw [R.out]; rfl, by rw [R.out]; exact nil_row _ _, hb1⟩
  by_cases h3 : 300 < ms.length
  · have R := hide (drive_no (n := n) (y := y) (ts := ts) (ms := ms) (by unfold driveOk; rw [decide_eq_false (p := ms.length ≤ 300) (by omega)]; simp))
    generalize drive n y ts ms = r at *
    have h3' : (300 : Int) < (ms.length : Int) := by omega
    go_enter Tryd.func25, Tryd.ntmps25
    go_wp2_with fail
    refine (cTrainsV h a cap _ he hl).mono ?_
    rintro e w1 ⟨rfl, hb1⟩
    go_wp2_with fail
    refine (cInV hy _).mono ?_
    rintro e w2 ⟨rfl, hw⟩
    subst w2
    go_wp2
    go_ret2
    exact ⟨_, by rw [R.out]; rfl, by rw [R.out]; exact nil_row _ _, hb1⟩
  have h3' : ¬ ((300 : Int) < (ms.length : Int)) := by omega
  have R := hide (drive_yes (ts := ts) (ms := ms) h hy (by omega))
  generalize drive n y ts ms = r at *
  have D0 : driveTo n y ts ms 0 = (ts, 0) := rfl
  have DS : ∀ k (hk : k < ms.length), driveTo n y ts ms (k + 1) = stepD n y (driveTo n y ts ms k) ms[k] := fun k hk => driveTo_succ hk
  have DO := fun k => driveTo_ok (y := y) (ms := ms) h k
  have DN := driveTo_n n y ts ms
  have CP := fun w he => cPut a cap ts (-1) 0 0 false w he hl
  rw [putTo_same (gone := false) (t := ⟨0, 0⟩) (k := -1) ts.length (Nat.le_refl _) (fun i _ => by omega), List.take_length] at CP
  generalize driveTo n y ts ms = DT at *
  go_enter Tryd.func25, Tryd.ntmps25
  go_wp2_with fail
  refine (cTrainsV h a cap _ he hl).mono ?_
  rintro e w1 ⟨rfl, hb1⟩
  go_wp2_with fail
  refine (cInV hy _).mono ?_
  rintro e w2 ⟨rfl, hw⟩
  subst w2
  go_wp2_with fail
  refine (CP _ (he.below hb1)).mono ?_
  rintro e w3 ⟨v3, rfl, o3, hb3⟩
  have HB3 := btrans hb1 hb3
  have o3' := Go.Joins.ownsRow_le o3 hb1.size
  clear hb1 hb3 o3 CP he
  go_wp2
  go_loopw [10, 11, 12, 13, 14] (fun at' rf i _ _ wr => ∃ k : Nat, k ≤ ms.length ∧ i = .int .i64 k ∧ rf = .int .i64 (DT k).2 ∧ wr.ownsRow w.heap.size 52 2 at' (DT k).1.length (flatSpans (DT k).1) ∧ Below w.heap.size w wr) (fun _ _ i _ _ _ => ms.length - (intOf i).toNat)
  case atStart => exact ⟨0, Nat.zero_le _, rfl, by rw [D0], by rw [D0]; exact o3', HB3⟩
  case round =>
    obtain ⟨k, hk, rfl, rfl, hown, hb⟩ := hrel
    clear o3' HB3
    by_cases hlt : k < ms.length
    · rcases hm with hm | ⟨bm, om, rfl, hc⟩
      · simp [hm] at hlt
      have HBa := btrans hb (balloc wr (.cells #[] 52))
      have q0 := (HBa.cell (p := ⟨bm, om + k, none⟩) (cell_lt (hc k hlt))).trans (hc k hlt)
      have e0 : ms.getD k 0 = ms[k] := by simp [List.getD, hlt]
      rw [e0] at q0
      have DSk := hide (DS k hlt)
      have DNk := DN k
      have DOk := DO k
      have DLk := (trains_of DOk).2.1
      clear hc e0 D0 DS DO DN R
      have owa := own_keep hown (balloc wr (.cells #[] 52))
      have hsa := HBa.size
      clear hown hb
      generalize ms[k] = m at *
      generalize DT k = s at *
      obtain ⟨ss, c⟩ := s
      dsimp only at *
      obtain ⟨a', c', rfl⟩ := own_form owa
      have ES : Hid (stepD n y (ss, c) m = ((mv n y ss m).getD ss, c + if (mv n y ss m).isSome = true then 0 else 1)) := rfl
      by_cases hm0 : m < 0
      · rw [mv_neg hm0] at ES
        have hm1 : ¬ (0 ≤ m) := by omega
        have hm2 : decide (0 ≤ m) = false := decide_eq_false hm1
        go_wp2
        go_roundw
        case rel => exact ⟨k + 1, by omega, by go_num, by rw [DSk.out, ES.out]; rfl, by rw [DSk.out, ES.out]; exact owa, HBa⟩
        case measure => simp [intOf]; omega
      obtain ⟨p, rfl⟩ := Int.eq_ofNat_of_zero_le (show 0 ≤ m by omega)
      have hd : Int.tdiv (p : Int) 2 = ((p / 2 : Nat) : Int) := rfl
      have hd2 : (p : Int) / 2 = ((p / 2 : Nat) : Int) := by omega
      have hm1 : (0 : Int) ≤ (p : Int) := by omega
      by_cases he : p % 2 = 0
      · rw [mv_even he] at ES
        have C := fun w hs => cFwdS a' c' n ss (wrap64 ((p / 2 : Nat) : Int)) y w hs (by omega)
        rw [fwdR_yes DOk] at C
        have ht : Int.tmod (p : Int) 2 = 0 := by rw [show Int.tmod (p : Int) 2 = ((p % 2 : Nat) : Int) from rfl, he]; rfl
        have ht2 : (p : Int) % 2 = 0 := by omega
        generalize ((p / 2 : Nat) : Int) = hh at *
        generalize fwd n ss (wrap64 hh) y = r' at *
        go_wp2_with fail
        refine (C _ (Spans.own owa)).mono ?_
        rintro e w4 ⟨v4, rfl, o4, hb4⟩
        have HB4 := btrans HBa hb4
        have oat := own_keep owa hb4
        have o4' := Go.Joins.ownsRow_le o4 hsa
        clear hb4 HBa owa o4 hsa
        cases r' with
        | none =>
          go_wp2
          go_roundw
          case rel => exact ⟨k + 1, by omega, by go_num, by rw [DSk.out, ES.out]; rfl, by rw [DSk.out, ES.out]; exact oat, HB4⟩
          case measure => simp [intOf]; omega
        | some L =>
          go_wp2
          go_roundw
          case rel => exact ⟨k + 1, by omega, by go_num, by rw [DSk.out, ES.out]; simp, by rw [DSk.out, ES.out]; exact o4', HB4⟩
          case measure => simp [intOf]; omega
      · have ho : p % 2 = 1 := by omega
        rw [mv_odd ho] at ES
        have C := fun w hs => cShrS a' c' n ss (wrap64 ((p / 2 : Nat) : Int)) w hs (by omega)
        rw [shrR_yes DOk] at C
        have ht : ¬ (Int.tmod (p : Int) 2 = 0) := by rw [show Int.tmod (p : Int) 2 = ((p % 2 : Nat) : Int) from rfl, ho]; decide
        have ht2 : ¬ ((p : Int) % 2 = 0) := by omega
        generalize ((p / 2 : Nat) : Int) = hh at *
        generalize shr ss (wrap64 hh) = r' at *
        go_wp2_with fail
        refine (C _ (Spans.own owa)).mono ?_
        rintro e w4 ⟨v4, rfl, o4, hb4⟩
        have HB4 := btrans HBa hb4
        have oat := own_keep owa hb4
        have o4' := Go.Joins.ownsRow_le o4 hsa
        clear hb4 HBa owa o4 hsa
        cases r' with
        | none =>
          go_wp2
          go_roundw
          case rel => exact ⟨k + 1, by omega, by go_num, by rw [DSk.out, ES.out]; rfl, by rw [DSk.out, ES.out]; exact oat, HB4⟩
          case measure => simp [intOf]; omega
        | some L =>
          go_wp2
          go_roundw
          case rel => exact ⟨k + 1, by omega, by go_num, by rw [DSk.out, ES.out]; simp, by rw [DSk.out, ES.out]; exact o4', HB4⟩
          case measure => simp [intOf]; omega
    · obtain rfl : k = ms.length := by omega
      clear D0 DS DO DN hm
      go_wp2
      go_ret2
      exact ⟨_, by rw [R.out]; rfl, by rw [R.out]; exact hown, hb⟩
end Go.Proofs.YtnbfkkmjehhihaaDoor
