/- Drive of the program; a train put at a place, in the model. -/
import Derived.Test.YtnbfkkmjehhihaaDoorZB
namespace Go.Proofs.YtnbfkkmjehhihaaDoor
open Go.RowKit

set_option maxHeartbeats 3200000 in
theorem cDriveI (a am : Option Addr) (cap cm : Nat) (n : Int) (ts : List SpanV) (ms : List Int) (y : Int) (w : World) (he : Spans w a ts) (ha : a = none → cap = 0) (hspot : ∀ x, a = some x → x.spot = none) (hl : ts.length ≤ 1048576) (hm : Ints w am ms) (hml : ms.length ≤ 1048576) (hg : Glob w) :
    Calls Tryd.prog 27 #[.int .i64 n, .slice a ts.length cap, .slice am ms.length cm, .int .i64 y] w fun e w' => ∃ v, e = .returned (.tuple #[v, .int .i64 (drive n y ts ms).2]) ∧
      w'.ownsRow w.heap.size 52 2 v (drive n y ts ms).1.length (flatSpans (drive n y ts ms).1) ∧ Below w.heap.size w w' := by
  cases h : trainsOk n ts
  · have R := hide (drive_no (n := n) (y := y) (ts := ts) (ms := ms) (by unfold driveOk; rw [h]; rfl))
    generalize drive n y ts ms = r at *
    go_enter Tryd.func27, Tryd.ntmps27
    go_wp2_with fail
    refine (cLineNo a cap n ts _ he hl h).mono ?_
    rintro e w1 ⟨ev, rfl, hev, hb⟩
    go_wp2_with fail
    refine (cMayNot false ev _ hev (hg.below hb)).mono ?_
    rintro e w2 ⟨rfl, hb2⟩
    have HB := btrans hb hb2
    clear hb hb2
    go_wp2
    go_ret2
    exact ⟨_, by rw [R.out]; rfl, by rw [R.out]; exact nil_row _ _, HB⟩
  cases hy : inB y 0 3
  · have R := hide (drive_no (n := n) (y := y) (ts := ts) (ms := ms) (by unfold driveOk; rw [hy]; simp))
    generalize drive n y ts ms = r at *
    go_enter Tryd.func27, Tryd.ntmps27
    go_wp2_with fail
    refine (cLineYes a cap n ts _ he ha hspot hl h).mono ?_
    rintro e w1 ⟨b, v, rfl, hL, hb⟩
    go_wp2_with fail
    refine (cMayNot true .nilIface _ (.inl ⟨rfl, rfl⟩) (hg.below hb)).mono ?_
    rintro e w2 ⟨rfl, hb2⟩
    have HB := btrans hb hb2
    clear hb hb2 hL
    go_wp2_with fail
    refine (cAspectOk y _).mono ?_
    rintro e w3 ⟨rfl, hw⟩
    subst w3
    rw [hy]
    go_wp2
    go_ret2
    exact ⟨_, by rw [R.out]; rfl, by rw [R.out]; exact nil_row _ _, HB⟩
  by_cases h3 : 300 < ms.length
  · have R := hide (drive_no (n := n) (y := y) (ts := ts) (ms := ms) (by unfold driveOk; rw [decide_eq_false (p := ms.length ≤ 300) (by omega)]; simp))
    generalize drive n y ts ms = r at *
    have h3' : (300 : Int) < (ms.length : Int) := by omega
    go_enter Tryd.func27, Tryd.ntmps27
    go_wp2_with fail
    refine (cLineYes a cap n ts _ he ha hspot hl h).mono ?_
    rintro e w1 ⟨b, v, rfl, hL, hb⟩
    go_wp2_with fail
    refine (cMayNot true .nilIface _ (.inl ⟨rfl, rfl⟩) (hg.below hb)).mono ?_
    rintro e w2 ⟨rfl, hb2⟩
    have HB := btrans hb hb2
    clear hb hb2 hL
    go_wp2_with fail
    refine (cAspectOk y _).mono ?_
    rintro e w3 ⟨rfl, hw⟩
    subst w3
    rw [hy]
    go_wp2
    go_ret2
    exact ⟨_, by rw [R.out]; rfl, by rw [R.out]; exact nil_row _ _, HB⟩
  have h3' : ¬ ((300 : Int) < (ms.length : Int)) := by omega
  have R := hide (drive_yes (ts := ts) (ms := ms) h hy (by omega))
  generalize drive n y ts ms = r at *
  have hpos := hg.lt
  have D0 : driveTo n y ts ms 0 = (ts, 0) := rfl
  have DS : ∀ k (hk : k < ms.length), driveTo n y ts ms (k + 1) = stepD n y (driveTo n y ts ms k) ms[k] := fun k hk => driveTo_succ hk
  have DO := fun k => driveTo_ok (y := y) (ms := ms) h k
  have DN := driveTo_n n y ts ms
  generalize driveTo n y ts ms = DT at *
  go_enter Tryd.func27, Tryd.ntmps27
  go_wp2_with fail
  refine (cLineYes a cap n ts _ he ha hspot hl h).mono ?_
  rintro e w1 ⟨b, v, rfl, hL, hb⟩
  go_wp2_with fail
  refine (cMayNot true .nilIface _ (.inl ⟨rfl, rfl⟩) (hg.below hb)).mono ?_
  rintro e w2 ⟨rfl, hb2⟩
  have HB := btrans hb hb2
  have hL2 := hL.below hb2
  clear hb hb2 hL he ha hspot
  go_wp2_with fail
  refine (cAspectOk y _).mono ?_
  rintro e w3 ⟨rfl, hw⟩
  subst w3
  rw [hy]
  go_wp2
  go_loopw [12, 14, 35] (fun rf _ i wr => ∃ k : Nat, k ≤ ms.length ∧ i = .int .i64 k ∧ rf = .int .i64 (DT k).2 ∧ (∃ v, Line wr w.heap.size b n v (DT k).1) ∧ Below w.heap.size w wr) (fun _ _ i _ => ms.length - (intOf i).toNat)
  case atStart => exact ⟨0, Nat.zero_le _, rfl, by rw [D0], ⟨v, by rw [D0]; exact hL2⟩, HB⟩
  case round =>
    obtain ⟨k, hk, rfl, rfl, ⟨vk, hLk⟩, hb⟩ := hrel
    clear hL2 HB
    by_cases hlt : k < ms.length
    · rcases hm with hm | ⟨bm, om, rfl, hc⟩
      · simp [hm] at hlt
      have q0 := (hb.cell (p := ⟨bm, om + k, none⟩) (cell_lt (hc k hlt))).trans (hc k hlt)
      have e0 : ms.getD k 0 = ms[k] := by simp [List.getD, hlt]
      rw [e0] at q0
      have DSk := hide (DS k hlt)
      have DNk := DN k
      have CM := cMoveI w.heap.size b n vk (DT k).1 ms[k] y wr hLk (DO k)
      clear hc e0 D0 DS DO DN R
      generalize ms[k] = m at *
      generalize DT k = s at *
      obtain ⟨ss, c⟩ := s
      dsimp only at *
      have ES : Hid (stepD n y (ss, c) m = ((mv n y ss m).getD ss, c + if (mv n y ss m).isSome = true then 0 else 1)) := rfl
      generalize mv n y ss m = r' at *
      go_wp2_with fail
      refine CM.mono ?_
      rintro e w4 ⟨ev, rfl, hev, ⟨v', hL4⟩, hb4⟩
      have HB4 := hb.trans hb4
      clear hb hb4 CM hLk
      cases r' with
      | none =>
        go_wp2_with fail
        refine (cMayNot false ev _ hev (hg.under hpos HB4)).mono ?_
        rintro e w5 ⟨rfl, hb5⟩
        have HB5 := btrans HB4 hb5
        have hL5 := hL4.below hb5
        clear HB4 hb5 hL4
        go_wp2
        go_roundw
        case rel => exact ⟨k + 1, by omega, by go_num, by rw [DSk.out, ES.out]; rfl, ⟨_, by rw [DSk.out, ES.out]; exact hL5⟩, HB5⟩
        case measure => simp [intOf]; omega
      | some L =>
        go_wp2_with fail
        refine (cMayNot true ev _ hev (hg.under hpos HB4)).mono ?_
        rintro e w5 ⟨rfl, hb5⟩
        have HB5 := btrans HB4 hb5
        have hL5 := hL4.below hb5
        clear HB4 hb5 hL4
        go_wp2
        go_roundw
        case rel => exact ⟨k + 1, by omega, by go_num, by rw [DSk.out, ES.out]; simp, ⟨_, by rw [DSk.out, ES.out]; exact hL5⟩, HB5⟩
        case measure => simp [intOf]; omega
    · obtain rfl : k = ms.length := by omega
      obtain ⟨b0, b1⟩ := hLk.cells
      clear D0 DS DO DN hm
      go_wp2
      go_ret2
      exact ⟨_, by rw [R.out]; rfl, by rw [R.out]; exact hLk.own, hb⟩

/-- The trains with another one at place k, or without it where it is gone: the first m. -/
def putStep (ts : List SpanV) (k : Int) (t : SpanV) (gone : Bool) (i : Nat) : List SpanV := if (i : Int) = k then (if gone = true then [] else [t]) else [ts.getD i SpanV.zero]
def putTo (ts : List SpanV) (k : Int) (t : SpanV) (gone : Bool) (m : Nat) : List SpanV := (List.range m).flatMap (putStep ts k t gone)
theorem putTo_succ (ts : List SpanV) (k : Int) (t : SpanV) (gone : Bool) (m : Nat) : putTo ts k t gone (m + 1) = putTo ts k t gone m ++ putStep ts k t gone m := by simp [putTo, List.range_succ]
theorem putTo_len (ts : List SpanV) (k : Int) (t : SpanV) (gone : Bool) (m : Nat) : (putTo ts k t gone m).length ≤ m := by
  induction m with
  | zero => simp [putTo]
  | succ m ih =>
    rw [putTo_succ, List.length_append]
    have : (putStep ts k t gone m).length ≤ 1 := by
      unfold putStep
      split
      · split <;> simp
      · simp
    omega
theorem putTo_same {ts : List SpanV} {k : Int} {t : SpanV} {gone : Bool} : ∀ m, m ≤ ts.length → (∀ i : Nat, i < m → (i : Int) ≠ k) → putTo ts k t gone m = ts.take m
  | 0, _, _ => by simp [putTo]
  | m + 1, hm, h => by
    rw [putTo_succ, putTo_same m (by omega) (fun i hi => h i (by omega)), List.take_succ_eq_append_getElem (by omega)]
    unfold putStep
    rw [if_neg (h m (by omega))]
    simp [List.getD, show m < ts.length by omega]
theorem putTo_set {ts : List SpanV} {q : Nat} {t : SpanV} (hq : q < ts.length) : ∀ m, m ≤ ts.length → putTo ts (q : Int) t false m = (ts.set q t).take m
  | 0, _ => by simp [putTo]
  | m + 1, hm => by
    rw [putTo_succ, putTo_set hq m (by omega), List.take_succ_eq_append_getElem (by simp; omega)]
    congr 1
    unfold putStep
    by_cases e : m = q
    · subst e; rw [if_pos rfl]; simp
    · rw [if_neg (by omega)]
      have : q ≠ m := fun x => e x.symm
      simp [List.getD, show m < ts.length by omega, List.getElem_set_ne this]
theorem putTo_gone {ts : List SpanV} {q : Nat} {t : SpanV} (hq : q + 1 = ts.length) : putTo ts (q : Int) t true ts.length = ts.take q := by
  rw [← hq, putTo_succ, putTo_same q (by omega) (fun i hi => by omega)]
  unfold putStep
  rw [if_pos rfl, if_pos rfl, List.append_nil]

set_option maxRecDepth 20000 in
set_option maxHeartbeats 3200000 in
theorem cPut (a : Option Addr) (cap : Nat) (ts : List SpanV) (k : Int) (tr tf : Int) (gone : Bool) (w : World) (he : Spans w a ts) (hl : ts.length ≤ 1048576) :
    Calls Tryd.prog 39 #[.slice a ts.length cap, .int .i64 k, .agg #[.int .i64 tr, .int .i64 tf], .bool gone] w fun e w' => ∃ v, e = .returned v ∧
      w'.ownsRow w.heap.size 52 2 v (putTo ts k ⟨tr, tf⟩ gone ts.length).length (flatSpans (putTo ts k ⟨tr, tf⟩ gone ts.length)) ∧ Below w.heap.size w w' := by
  have P0 : putTo ts k ⟨tr, tf⟩ gone 0 = [] := rfl
  have PS := putTo_succ ts k ⟨tr, tf⟩ gone
  have PL := putTo_len ts k ⟨tr, tf⟩ gone
  have ST : ∀ i, Hid (putStep ts k ⟨tr, tf⟩ gone i = if (i : Int) = k then (if gone = true then [] else [⟨tr, tf⟩]) else [ts.getD i SpanV.zero]) := fun _ => rfl
  generalize putTo ts k ⟨tr, tf⟩ gone = PT at *
  generalize putStep ts k ⟨tr, tf⟩ gone = PP at *
  obtain ⟨i0, hi, hz0, hz1, hz2⟩ := info_parts2 infoSpans
  have hb0 := balloc w (.cells #[.int .i64 tr, .int .i64 tf] 52)
  have hc0 : (w.alloc (.cells #[.int .i64 tr, .int .i64 tf] 52)).cell? ⟨w.heap.size, 0, none⟩ = some (.int .i64 tr) := by simp
  have hc1 : (w.alloc (.cells #[.int .i64 tr, .int .i64 tf] 52)).cell? ⟨w.heap.size, 1, none⟩ = some (.int .i64 tf) := by simp
  have hm0 : World.ownsRow _ (w.heap.size + 1) 52 2 _ 0 [] := World.ownsRow_made (w.alloc (.cells #[.int .i64 tr, .int .i64 tf] 52)) #[] 0 (by rw [sz1]; exact Nat.le_refl _) (by omega) (by simp)
  rw [sz1] at hm0
  go_enter Tryd.func39, Tryd.ntmps39
  go_wp2
  go_loopw [9, 10] (fun o i wr => ∃ m : Nat, m ≤ ts.length ∧ i = .int .i64 m ∧ wr.ownsRow (w.heap.size + 1) 52 2 o (PT m).length (flatSpans (PT m)) ∧ wr.cell? ⟨w.heap.size, 0, none⟩ = some (.int .i64 tr) ∧ wr.cell? ⟨w.heap.size, 1, none⟩ = some (.int .i64 tf) ∧ Below w.heap.size w wr) (fun _ i _ => ts.length - (intOf i).toNat)
  case atStart => exact ⟨0, Nat.zero_le _, rfl, by rw [P0]; exact hm0, ble (balloc _ _) hc0, ble (balloc _ _) hc1, btrans hb0 (balloc _ _)⟩
  case round =>
    obtain ⟨m, hm, rfl, hown, c0, c1, hb⟩ := hrel
    clear hb0 hc0 hc1 hm0
    by_cases hlt : m < ts.length
    · have PSm := hide (PS m)
      have PLm := PL m
      have STm := ST m
      have hsz := hb.size
      have hsz2 := cell_lt c0
      clear P0 PS PL ST
      by_cases hk : (m : Int) = k
      · rw [if_pos hk] at STm
        subst hk
        cases gone
        · rw [if_neg (by decide)] at STm
          go_wp2_with (at_builtin; refine wpList_append_own _ rfl _ _ 25 rfl (w.heap.size + 1) 52 i0 (.agg #[.int .i64 0, .int .i64 0]) 2 16 Tryd.underlying25 hi hz0 hz1 hz2 rfl (by decide) _ _ _ rfl (hown.alloc _) ⟨wr.heap.size, 0, none⟩ 1 1 [.int .i64 tr, .int .i64 tf] rfl rfl ?c1 ?c2 ?c3 ?c4 ?c5 ?_)
          case c1 =>
            intro j u hj
            match j, hj with
            | 0, hj => simp at hj; subst hj; simp [Addr.add]
            | 1, hj => simp at hj; subst hj; simp [Addr.add]
          case c2 => intro u hu; simp at hu; rcases hu with rfl | rfl <;> rfl
          case c3 => unfold maxLen; omega
          case c4 => omega
          case c5 => simp; omega
          intro v' w5 hown' hgrow _
          have hfrom := own_from hown (Nat.le_refl _)
          have hbel' : Below w.heap.size w w5 := (hb.alloc hsz _).grown hgrow (by simp; omega) (fun j e => by have := hfrom j e; omega)
          have d0 : w5.cell? ⟨w.heap.size, 0, none⟩ = some (.int .i64 tr) := (World.cell?_of_block (hgrow.block w.heap.size (by simp; omega) (fun e => by have := hfrom _ e.symm; omega))).trans (ble (balloc _ _) c0)
          have d1 : w5.cell? ⟨w.heap.size, 1, none⟩ = some (.int .i64 tf) := (World.cell?_of_block (hgrow.block w.heap.size (by simp; omega) (fun e => by have := hfrom _ e.symm; omega))).trans (ble (balloc _ _) c1)
          have hown2 : w5.ownsRow (w.heap.size + 1) 52 2 v' (PT (m + 1)).length (flatSpans (PT (m + 1))) := by
            rw [PSm.out, STm.out, flatSpans_app, List.length_append]; exact hown'
          clear hown hown' hgrow hb hfrom c0 c1
          go_wp2
          go_roundw
          case rel => exact ⟨m + 1, by omega, by go_num, hown2, d0, d1, hbel'⟩
          case measure => simp [intOf]; omega
        · rw [if_pos rfl] at STm
          have hown2 : wr.ownsRow (w.heap.size + 1) 52 2 u9 (PT (m + 1)).length (flatSpans (PT (m + 1))) := by
            rw [PSm.out, STm.out, List.append_nil]; exact hown
          go_wp2
          go_roundw
          case rel => exact ⟨m + 1, by omega, by go_num, hown2, c0, c1, hb⟩
          case measure => simp [intOf]; omega
      · rw [if_neg hk] at STm
        rcases he with he | ⟨bb, off, rfl, hc⟩
        · simp [he] at hlt
        obtain ⟨q0, q1⟩ := hc m hlt
        have p0 := (hb.cell (p := ⟨bb, off + m * 2, none⟩) (cell_lt q0)).trans q0
        have p1 := (hb.cell (p := ⟨bb, off + m * 2 + 1, none⟩) (cell_lt q1)).trans q1
        clear hc q0 q1
        generalize ts.getD m SpanV.zero = e0 at *
        obtain ⟨x, y⟩ := e0
        dsimp only at p0 p1
        go_wp2_with (at_builtin; refine wpList_append_own _ rfl _ _ 25 rfl (w.heap.size + 1) 52 i0 (.agg #[.int .i64 0, .int .i64 0]) 2 16 Tryd.underlying25 hi hz0 hz1 hz2 rfl (by decide) _ _ _ rfl (hown.alloc _) ⟨wr.heap.size, 0, none⟩ 1 1 [.int .i64 x, .int .i64 y] rfl rfl ?c1 ?c2 ?c3 ?c4 ?c5 ?_)
        case c1 =>
          intro j u hj
          match j, hj with
          | 0, hj => simp at hj; subst hj; simp [Addr.add]
          | 1, hj => simp at hj; subst hj; simp [Addr.add]
        case c2 => intro u hu; simp at hu; rcases hu with rfl | rfl <;> rfl
        case c3 => unfold maxLen; omega
        case c4 => omega
        case c5 => simp; omega
        intro v' w5 hown' hgrow _
        have hfrom := own_from hown (Nat.le_refl _)
        have hbel' : Below w.heap.size w w5 := (hb.alloc hsz _).grown hgrow (by simp; omega) (fun j e => by have := hfrom j e; omega)
        have d0 : w5.cell? ⟨w.heap.size, 0, none⟩ = some (.int .i64 tr) := (World.cell?_of_block (hgrow.block w.heap.size (by simp; omega) (fun e => by have := hfrom _ e.symm; omega))).trans (ble (balloc _ _) c0)
        have d1 : w5.cell? ⟨w.heap.size, 1, none⟩ = some (.int .i64 tf) := (World.cell?_of_block (hgrow.block w.heap.size (by simp; omega) (fun e => by have := hfrom _ e.symm; omega))).trans (ble (balloc _ _) c1)
        have hown2 : w5.ownsRow (w.heap.size + 1) 52 2 v' (PT (m + 1)).length (flatSpans (PT (m + 1))) := by
          rw [PSm.out, STm.out, flatSpans_app, List.length_append]; exact hown'
        clear hown hown' hgrow hb hfrom c0 c1
        go_wp2
        go_roundw
        case rel => exact ⟨m + 1, by omega, by go_num, hown2, d0, d1, hbel'⟩
        case measure => simp [intOf]; omega
    · obtain rfl : m = ts.length := by omega
      go_wp2
      go_ret
      exact ⟨_, rfl, Go.Joins.ownsRow_le hown (by omega), hb⟩
end Go.Proofs.YtnbfkkmjehhihaaDoor
