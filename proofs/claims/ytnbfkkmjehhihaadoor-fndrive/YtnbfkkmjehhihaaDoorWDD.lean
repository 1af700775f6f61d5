/- The walk of the law on drives. -/
import Derived.Test.YtnbfkkmjehhihaaDoorDR
namespace Go.Proofs.YtnbfkkmjehhihaaDoor
open Go.RowKit

theorem own_safe {w : World} {B e sz n c : Nat} {a : Option Addr} {xs : List Value} (h : w.ownsRow B e sz (.slice a n c) n xs) : (a = none → c = 0) ∧ (∀ x, a = some x → x.spot = none) := by
  rcases h.2 with ⟨he, _⟩ | ⟨g, c', cur, he, _⟩
  · simp only [Value.slice.injEq] at he
    obtain ⟨rfl, _, rfl⟩ := he
    exact ⟨fun _ => rfl, (fun x h => by cases h)⟩
  · simp only [Value.slice.injEq] at he
    obtain ⟨rfl, _, rfl⟩ := he
    exact ⟨(fun h => by cases h), (fun x h => by cases h; rfl)⟩
theorem cDriveIn (a am : Option Addr) (cap cm LT L : Nat) (n : Int) (ts : List SpanV) (ms : List Int) (y : Int) (w : World) (B : Nat) (he : w.ownsRow B 52 2 (.slice a LT cap) LT (flatSpans ts)) (hLT : ts.length = LT) (hm : Ints w am ms) (hL : ms.length = L) (hL3 : L ≤ 300) (h : trainsOk n ts = true) (hy : inB y 0 3 = true) (hg : Glob w) :
    Calls Tryd.prog 27 #[.int .i64 n, .slice a LT cap, .slice am L cm, .int .i64 y] w fun e w' => ∃ v, e = .returned (.tuple #[v, .int .i64 (driveTo n y ts ms ms.length).2]) ∧
      w'.ownsRow w.heap.size 52 2 v (driveTo n y ts ms ms.length).1.length (flatSpans (driveTo n y ts ms ms.length).1) ∧ Below w.heap.size w w' := by
  subst hL hLT
  obtain ⟨s1, s2⟩ := own_safe he
  have := (trains_of h).2.1
  have c := cDriveI a am cap cm n ts ms y w (Spans.own he) s1 s2 (by omega) hm (by omega) hg
  rw [drive_yes h hy hL3] at c
  exact c
theorem cDriveSn (a am : Option Addr) (cap cm LT L : Nat) (n : Int) (ts : List SpanV) (ms : List Int) (y : Int) (w : World) (he : Spans w a ts) (hLT : ts.length = LT) (hm : Ints w am ms) (hL : ms.length = L) (hL3 : L ≤ 300) (h : trainsOk n ts = true) (hy : inB y 0 3 = true) :
    Calls Tryd.prog 25 #[.int .i64 n, .slice a LT cap, .slice am L cm, .int .i64 y] w fun e w' => ∃ v, e = .returned (.tuple #[v, .int .i64 (driveTo n y ts ms ms.length).2]) ∧
      w'.ownsRow w.heap.size 52 2 v (driveTo n y ts ms ms.length).1.length (flatSpans (driveTo n y ts ms ms.length).1) ∧ Below w.heap.size w w' := by
  subst hL hLT
  have := (trains_of h).2.1
  have c := cDriveS a am cap cm n ts ms y w he (by omega) hm (by omega)
  rw [drive_yes h hy hL3] at c
  exact c
theorem cTrainsIn (a : Option Addr) (cap LT : Nat) (n : Int) (ts : List SpanV) (w : World) (B : Nat) (he : w.ownsRow B 52 2 (.slice a LT cap) LT (flatSpans ts)) (hLT : ts.length = LT) (h : trainsOk n ts = true) (hg : Glob w) :
    Calls Tryd.prog 12 #[.int .i64 n, .slice a LT cap] w fun e w' => e = .returned (.bool true) ∧ Below w.heap.size w w' := by
  subst hLT
  obtain ⟨s1, s2⟩ := own_safe he
  have := (trains_of h).2.1
  have c := cTrainsI a cap n ts w (Spans.own he) s1 s2 (by omega) hg
  rw [h] at c
  exact c

set_option maxRecDepth 20000 in
set_option maxHeartbeats 6400000 in
theorem walkFnDrive (a : Option Addr) (cap : Nat) (bs : List Int) (w : World) (hz : Bytes w a bs) (hm : bs.length ≤ maxLen) (hg : Glob w) :
    Calls Tryd.prog 8 #[.slice a bs.length cap] w fun e w' => e = .returned (.bool true) ∧ Below w.heap.size w w' := by
  by_cases hl2 : 1048576 < bs.length
  · go_enter Tryd.func8, Tryd.ntmps8
    go_wp2_with fail
    refine (cbig a cap bs.length _ hm).mono ?_
    rintro e w1 ⟨rfl, hw⟩
    subst w1
    rw [decide_eq_true hl2]
    go_wp2
    go_ret
    exact ⟨rfl, Below.refl _ _⟩
  have hl : bs.length ≤ 1048576 := by omega
  go_enter Tryd.func8, Tryd.ntmps8
  go_wp2_with fail
  refine (cbig a cap bs.length _ hm).mono ?_
  rintro e w1 ⟨rfl, hw⟩
  subst w1
  rw [decide_eq_false hl2]
  go_wp2_with fail
  refine (cDrawRight a cap bs _ hz hl).mono ?_
  rintro e w2 ⟨n, u, v, ts, ms, rfl, n2, n15, ht, hms, ⟨gv, cv, rfl⟩, Ou, Ov, HB2⟩
  obtain ⟨au, cu, rfl⟩ := own_form Ou
  have hat4 := atZ_in hz 4
  have hat5 := atZ_in hz 5
  go_wp2_with fail
  refine (cat a cap bs 4 _ (hz.below HB2) hl (by omega)).mono ?_
  rintro e w3 ⟨rfl, hw⟩
  subst w3
  have hcv : ms.length ≤ cv := by
    rcases Ov.2 with ⟨h, _⟩ | ⟨g', c', cur, hv, _, _, hc, _⟩
    · simp at h
    · simp only [Value.slice.injEq, Option.some.injEq, Addr.mk.injEq, and_true, true_and] at hv
      omega
  have Mp : Ints w2 (some ⟨gv, 0, none⟩) ms := Ints.of_owns Ov
  have hlt2 := own_blk_lt Ou
  generalize atZ bs 4 = z4 at *
  generalize hz5 : atZ bs 5 = z5 at *
  obtain ⟨q1, q2, q3⟩ := rem_in (x := z4) (n := 4) hat4.1 (by omega) (by omega)
  generalize hy4 : z4 % 4 = y at *
  have hy : inB y 0 3 = true := inB_yes (by omega) (by omega)
  have hlt12 := (trains_of ht).2.1
  -- the first drive
  have C1 := fun w B he hm hg => cDriveIn au (some ⟨gv, 0, none⟩) cu cv ts.length ms.length n ts ms y w B he rfl hm rfl (by omega) ht hy hg
  have CW := fun cm w he hm => cDriveSn au (some ⟨gv, 0, none⟩) cu cm ts.length ms.length n ts ms y w he rfl hm rfl (by omega) ht hy
  have hTok := driveTo_ok (y := y) (ms := ms) ht ms.length
  have hTlen : (driveTo n y ts ms ms.length).1.length ≤ ts.length := by
    have := foldl_len (n := n) (y := y) (ms.take ms.length) (ts, 0)
    exact this
  have hTn := driveTo_n n y ts ms ms.length
  have hTm : y = 0 → Mono ts (driveTo n y ts ms ms.length).1 := fun h => by
    subst h; exact foldl_mono (n := n) (ms.take ms.length) (ts, 0)
  have hsplit := fun k => hide (drive_split n y ts ms k)
  generalize driveTo n y ts ms ms.length = DT at *
  obtain ⟨T, c⟩ := DT
  dsimp only at *
  generalize hTl : T.length = tl at *
  have hTL := hide hTl
  clear hTl
  go_wp2_with fail
  refine (C1 _ _ Ou Mp (hg.below HB2)).mono ?_
  rintro e w4 ⟨v1, rfl, o1, hb⟩
  have HB4 := btrans HB2 hb
  have Ou4 := own_keep Ou hb
  have Mp4 := Mp.below hb
  obtain ⟨a1, c1, rfl⟩ := own_form o1
  clear hb Ou Mp HB2 C1 Ov
  have t1 : ¬ (c < 0) := by omega
  have t2 : ¬ ((ms.length : Int) < c) := by omega
  have t3 : ¬ ((ts.length : Int) < (tl : Int)) := by omega
  go_wp2_with fail
  refine (cTrainsIn a1 c1 tl n T _ _ o1 hTL.out hTok (hg.below HB4)).mono ?_
  rintro e w5 ⟨rfl, hb⟩
  have HB5 := btrans HB4 hb
  have Ou5 := own_keep Ou4 hb
  have Mp5 := Mp4.below hb
  have o15 := own_keep o1 hb
  clear hb Ou4 Mp4 HB4 o1 hTok
  have hTlen' : y = 0 → (tl : Int) = (ts.length : Int) := fun h => by have := (hTm h).1; have := hTL.out; omega
  by_cases hms0 : 0 < ms.length
  · have hms1 : (0 : Int) < (ms.length : Int) := by omega
    obtain ⟨r1, r2, r3⟩ := rem_in (x := z5) (n := (ms.length : Int) + 1) hat5.1 (by omega) (by omega)
    obtain ⟨k, hk⟩ : ∃ k : Nat, z5 % ((ms.length : Int) + 1) = k := ⟨(z5 % ((ms.length : Int) + 1)).toNat, by omega⟩
    have r2' : (0 : Int) ≤ (k : Int) := by omega
    have r3' : (k : Int) < (ms.length : Int) + 1 := by omega
    clear r1 r2 r3
    have hkl : k ≤ ms.length := by omega
    have hp := hsplit k
    clear hsplit
    have i1 : (0 : Int) ≤ (k : Int) := by omega
    have i2 : (k : Int) ≤ (cv : Int) := by omega
    have i3 : (k : Int) ≤ (ms.length : Int) := by omega
    have hLt : (ms.take k).length = k := by simp; omega
    have hLd : (ms.drop k).length = ms.length - k := by simp
    have C2 := fun w B he hm hg => cDriveIn au (some ⟨gv, 0, none⟩) cu cv ts.length k n ts (ms.take k) y w B he rfl hm hLt (by omega) ht hy hg
    have P1 := driveTo_ok (y := y) (ms := ms.take k) ht (ms.take k).length
    have P2 := driveTo_n n y ts (ms.take k) (ms.take k).length
    have P3 := driveTo_n n y (driveTo n y ts (ms.take k) (ms.take k).length).1 (ms.drop k) (ms.drop k).length
    have C3 := fun a cap am cm w B LP he hLP hm hg => cDriveIn a am cap cm LP (ms.length - k) n (driveTo n y ts (ms.take k) (ms.take k).length).1 (ms.drop k) y w B he hLP hm hLd (by omega) P1 hy hg
    generalize driveTo n y ts (ms.take k) (ms.take k).length = PP at *
    obtain ⟨P, ca⟩ := PP
    dsimp only at *
    generalize driveTo n y P (ms.drop k) (ms.drop k).length = QQ at *
    obtain ⟨Q, cb⟩ := QQ
    dsimp only at *
    have hp1 : T = Q := (Prod.mk.inj hp.out).1
    have hp2 := (Prod.mk.inj hp.out).2
    subst hp1
    clear hp
    have t4 : ca + cb = c := hp2.symm
    clear hp2
    have hlenms : (ms.take k).length ≤ 100 := by omega
    by_cases hy0 : y = 0
    · subst hy0
      have hMono := hTm rfl
      have hdl : ¬ ((tl : Int) ≠ (ts.length : Int)) := fun h => h (hTlen' rfl)
      have hdl2 : ((tl : Int) == (ts.length : Int)) = true := by simpa using hTlen' rfl
      clear hTm
      go_wp2_with fail
      refine (cat a cap bs 5 _ (hz.below HB5) hl (by omega)).mono ?_
      rintro e w6 ⟨rfl, hw⟩
      subst w6
      rw [hz5]
      go_wp2_with fail
      refine (C2 _ _ Ou5 (Mp5.upto k) (hg.below HB5)).mono ?_
      rintro e w7 ⟨v2, rfl, o2, hb⟩
      have HB7 := btrans HB5 hb
      have Ou7 := own_keep Ou5 hb
      have Mp7 := Mp5.below hb
      have o17 := own_keep o15 hb
      obtain ⟨a2, c2, rfl⟩ := own_form o2
      clear hb Ou5 Mp5 HB5 o15 C2
      have Md : ∀ am, (¬ cv = k → am = some (⟨gv, k, none⟩ : Addr)) → Ints w7 am (ms.drop k) := fun am h => by
        by_cases hc : cv = k
        · left
          exact List.drop_eq_nil_of_le (by omega)
        · rw [h hc]
          rcases Mp7.part k with hd | ⟨b', off', ha, hd⟩
          · left; exact hd
          · simp only [Option.some.injEq, Addr.mk.injEq, and_true] at ha
            obtain ⟨rfl, rfl⟩ := ha
            rw [Nat.zero_add] at hd; exact hd
      have t5 : IntKind.i64.wrap (ca + cb) = ca + cb := wrap_in _ (by omega) (by omega)
      have hszT : tl ≤ 12 := by omega
      go_wp2_with fail
      all_goals (
        refine (C3 _ _ _ _ _ _ P.length o2 rfl (by first | exact Md _ (fun _ => rfl) | exact Md _ (fun h => absurd (by assumption) h)) (hg.below HB7)).mono ?_
        rintro e w8 ⟨v3, rfl, o3, hb⟩
        rw [hTL.out] at o3
        have HB8 := btrans HB7 hb
        have Ou8 := own_keep Ou7 hb
        have Mp8 := Mp7.below hb
        have o18 := own_keep o17 hb
        obtain ⟨a3, c3, rfl⟩ := own_form o3
        clear hb Ou7 Mp7 HB7 o17 C3 Md o2
        have SA : Spans w8 a1 T := Spans.own o18
        have SR : Spans w8 a3 T := Spans.own o3
        have ST : Spans w8 au ts := Spans.own Ou8
        go_wp2
        go_loopw [14] (fun i wr => ∃ j : Nat, j ≤ tl ∧ i = .int .i64 j ∧ Below w8.heap.size w8 wr) (fun i _ => tl - (intOf i).toNat)
        case atStart => exact ⟨0, Nat.zero_le _, rfl, Below.refl _ _⟩
        case round =>
          obtain ⟨j, hj, rfl, hb⟩ := hrel
          by_cases hlt : j < tl
          · have hjT : j < T.length := by rw [hTL.out]; exact hlt
            have hjt : j < ts.length := by omega
            rcases SA with SA | ⟨bA, oA, rfl, hA⟩
            · rw [SA, List.length_nil] at hjT; omega
            rcases SR with SR | ⟨bR, oR, rfl, hR⟩
            · rw [SR, List.length_nil] at hjT; omega
            rcases ST with ST | ⟨bT, oT, rfl, hT⟩
            · rw [ST, List.length_nil] at hjt; omega
            have e1 : wr.cell? ⟨bA, oA + j * 2, none⟩ = some (.int .i64 (rAt T j)) := ble hb (hA j hjT).1
            have e2 : wr.cell? ⟨bA, oA + j * 2 + 1, none⟩ = some (.int .i64 (fAt T j)) := ble hb (hA j hjT).2
            have e3 : wr.cell? ⟨bR, oR + j * 2, none⟩ = some (.int .i64 (rAt T j)) := ble hb (hR j hjT).1
            have e4 : wr.cell? ⟨bR, oR + j * 2 + 1, none⟩ = some (.int .i64 (fAt T j)) := ble hb (hR j hjT).2
            have e5 : wr.cell? ⟨bT, oT + j * 2, none⟩ = some (.int .i64 (rAt ts j)) := ble hb (hT j hjt).1
            have e6 : wr.cell? ⟨bT, oT + j * 2 + 1, none⟩ = some (.int .i64 (fAt ts j)) := ble hb (hT j hjt).2
            have hMo := hMono.2 j
            have m1 : ¬ (fAt T j < fAt ts j) := by omega
            have m2 : ¬ (rAt T j < rAt ts j) := by omega
            have m3 : decide (fAt T j < fAt ts j) = false := decide_eq_false m1
            have m4 : decide (rAt T j < rAt ts j) = false := decide_eq_false m2
            have hj1 : (j : Int) < (tl : Int) := by omega
            have hj2 : (j : Int) < (ts.length : Int) := by omega
            clear hA hR hT
            generalize rAt T j = xr at *
            generalize fAt T j = xf at *
            generalize rAt ts j = tr at *
            generalize fAt ts j = tf at *
            go_wp2
            go_quiet (fail)
            go_wp2
            go_roundw
            case rel => exact ⟨j + 1, by omega, by go_num, bdraw hb _⟩
            case measure => simp [intOf]; omega
          · have ej : j = tl := by omega
            subst j
            have HB9 := btrans HB8 hb
            go_wp2_with fail
            refine (CW _ _ (ST.below hb) (Mp8.below hb)).mono ?_
            rintro e w9 ⟨v5, rfl, o5, hb9⟩
            obtain ⟨a5, c5, rfl⟩ := own_form o5
            have HB10 := btrans HB9 hb9
            go_wp2
            go_ret
            exact ⟨rfl, HB10⟩)
    · have hdy : decide (y = 0) = false := decide_eq_false hy0
      have hdy2 : (y == 0) = false := hdy
      go_wp2_with fail
      refine (cat a cap bs 5 _ (hz.below HB5) hl (by omega)).mono ?_
      rintro e w6 ⟨rfl, hw⟩
      subst w6
      rw [hz5]
      go_wp2_with fail
      refine (C2 _ _ Ou5 (Mp5.upto k) (hg.below HB5)).mono ?_
      rintro e w7 ⟨v2, rfl, o2, hb⟩
      have HB7 := btrans HB5 hb
      have Ou7 := own_keep Ou5 hb
      have Mp7 := Mp5.below hb
      have o17 := own_keep o15 hb
      obtain ⟨a2, c2, rfl⟩ := own_form o2
      clear hb Ou5 Mp5 HB5 o15 C2
      have Md : ∀ am, (¬ cv = k → am = some (⟨gv, k, none⟩ : Addr)) → Ints w7 am (ms.drop k) := fun am h => by
        by_cases hc : cv = k
        · left
          exact List.drop_eq_nil_of_le (by omega)
        · rw [h hc]
          rcases Mp7.part k with hd | ⟨b', off', ha, hd⟩
          · left; exact hd
          · simp only [Option.some.injEq, Addr.mk.injEq, and_true] at ha
            obtain ⟨rfl, rfl⟩ := ha
            rw [Nat.zero_add] at hd; exact hd
      have t5 : IntKind.i64.wrap (ca + cb) = ca + cb := wrap_in _ (by omega) (by omega)
      have hszT : tl ≤ 12 := by omega
      go_wp2_with fail
      all_goals (
        refine (C3 _ _ _ _ _ _ P.length o2 rfl (by first | exact Md _ (fun _ => rfl) | exact Md _ (fun h => absurd (by assumption) h)) (hg.below HB7)).mono ?_
        rintro e w8 ⟨v3, rfl, o3, hb⟩
        rw [hTL.out] at o3
        have HB8 := btrans HB7 hb
        have Ou8 := own_keep Ou7 hb
        have Mp8 := Mp7.below hb
        have o18 := own_keep o17 hb
        obtain ⟨a3, c3, rfl⟩ := own_form o3
        clear hb Ou7 Mp7 HB7 o17 C3 Md o2
        have SA : Spans w8 a1 T := Spans.own o18
        have SR : Spans w8 a3 T := Spans.own o3
        have ST : Spans w8 au ts := Spans.own Ou8
        go_wp2
        go_loopw [14] (fun i wr => ∃ j : Nat, j ≤ tl ∧ i = .int .i64 j ∧ Below w8.heap.size w8 wr) (fun i _ => tl - (intOf i).toNat)
        case atStart => exact ⟨0, Nat.zero_le _, rfl, Below.refl _ _⟩
        case round =>
          obtain ⟨j, hj, rfl, hb⟩ := hrel
          by_cases hlt : j < tl
          · have hjT : j < T.length := by rw [hTL.out]; exact hlt
            have hjt : j < ts.length := by omega
            rcases SA with SA | ⟨bA, oA, rfl, hA⟩
            · rw [SA, List.length_nil] at hjT; omega
            rcases SR with SR | ⟨bR, oR, rfl, hR⟩
            · rw [SR, List.length_nil] at hjT; omega
            rcases ST with ST | ⟨bT, oT, rfl, hT⟩
            · rw [ST, List.length_nil] at hjt; omega
            have e1 : wr.cell? ⟨bA, oA + j * 2, none⟩ = some (.int .i64 (rAt T j)) := ble hb (hA j hjT).1
            have e2 : wr.cell? ⟨bA, oA + j * 2 + 1, none⟩ = some (.int .i64 (fAt T j)) := ble hb (hA j hjT).2
            have e3 : wr.cell? ⟨bR, oR + j * 2, none⟩ = some (.int .i64 (rAt T j)) := ble hb (hR j hjT).1
            have e4 : wr.cell? ⟨bR, oR + j * 2 + 1, none⟩ = some (.int .i64 (fAt T j)) := ble hb (hR j hjT).2
            have e5 : wr.cell? ⟨bT, oT + j * 2, none⟩ = some (.int .i64 (rAt ts j)) := ble hb (hT j hjt).1
            have e6 : wr.cell? ⟨bT, oT + j * 2 + 1, none⟩ = some (.int .i64 (fAt ts j)) := ble hb (hT j hjt).2
            have hj1 : (j : Int) < (tl : Int) := by omega
            have hj2 : (j : Int) < (ts.length : Int) := by omega
            clear hA hR hT
            generalize rAt T j = xr at *
            generalize fAt T j = xf at *
            generalize rAt ts j = tr at *
            generalize fAt ts j = tf at *
            go_wp2
            go_quiet (fail)
            go_wp2
            go_roundw
            case rel => exact ⟨j + 1, by omega, by go_num, bdraw hb _⟩
            case measure => simp [intOf]; omega
          · have ej : j = tl := by omega
            subst j
            have HB9 := btrans HB8 hb
            go_wp2_with fail
            refine (CW _ _ (ST.below hb) (Mp8.below hb)).mono ?_
            rintro e w9 ⟨v5, rfl, o5, hb9⟩
            obtain ⟨a5, c5, rfl⟩ := own_form o5
            have HB10 := btrans HB9 hb9
            go_wp2
            go_ret
            exact ⟨rfl, HB10⟩)
  · have hms1 : ¬ ((0 : Int) < (ms.length : Int)) := by omega
    have hp := hsplit 0
    clear hsplit hz5
    have i2 : (0 : Int) ≤ (cv : Int) := by omega
    have i3 : (0 : Int) ≤ (ms.length : Int) := by omega
    have hLt : (ms.take 0).length = 0 := by simp
    have hLd : (ms.drop 0).length = ms.length - 0 := by simp
    have C2 := fun w B he hm hg => cDriveIn au (some ⟨gv, 0, none⟩) cu cv ts.length 0 n ts (ms.take 0) y w B he rfl hm hLt (by omega) ht hy hg
    have P1 := driveTo_ok (y := y) (ms := ms.take 0) ht (ms.take 0).length
    have P2 := driveTo_n n y ts (ms.take 0) (ms.take 0).length
    have P3 := driveTo_n n y (driveTo n y ts (ms.take 0) (ms.take 0).length).1 (ms.drop 0) (ms.drop 0).length
    have C3 := fun a cap am cm w B LP he hLP hm hg => cDriveIn a am cap cm LP (ms.length - 0) n (driveTo n y ts (ms.take 0) (ms.take 0).length).1 (ms.drop 0) y w B he hLP hm hLd (by omega) P1 hy hg
    generalize driveTo n y ts (ms.take 0) (ms.take 0).length = PP at *
    obtain ⟨P, ca⟩ := PP
    dsimp only at *
    generalize driveTo n y P (ms.drop 0) (ms.drop 0).length = QQ at *
    obtain ⟨Q, cb⟩ := QQ
    dsimp only at *
    have hp1 : T = Q := (Prod.mk.inj hp.out).1
    have hp2 := (Prod.mk.inj hp.out).2
    subst hp1
    clear hp
    have t4 : ca + cb = c := hp2.symm
    clear hp2
    have hlenms : (ms.take 0).length ≤ 100 := by omega
    by_cases hy0 : y = 0
    · subst hy0
      have hMono := hTm rfl
      have hdl : ¬ ((tl : Int) ≠ (ts.length : Int)) := fun h => h (hTlen' rfl)
      have hdl2 : ((tl : Int) == (ts.length : Int)) = true := by simpa using hTlen' rfl
      clear hTm
      go_wp2_with fail
      refine (C2 _ _ Ou5 (Mp5.upto 0) (hg.below HB5)).mono ?_
      rintro e w7 ⟨v2, rfl, o2, hb⟩
      have HB7 := btrans HB5 hb
      have Ou7 := own_keep Ou5 hb
      have Mp7 := Mp5.below hb
      have o17 := own_keep o15 hb
      obtain ⟨a2, c2, rfl⟩ := own_form o2
      clear hb Ou5 Mp5 HB5 o15 C2
      have Md : ∀ am, (¬ cv = 0 → am = some (⟨gv, 0, none⟩ : Addr)) → Ints w7 am (ms.drop 0) := fun am h => by
        by_cases hc : cv = 0
        · left
          exact List.drop_eq_nil_of_le (by omega)
        · rw [h hc]
          rcases Mp7.part 0 with hd | ⟨b', off', ha, hd⟩
          · left; exact hd
          · simp only [Option.some.injEq, Addr.mk.injEq, and_true] at ha
            obtain ⟨rfl, rfl⟩ := ha
            rw [Nat.zero_add] at hd; exact hd
      have t5 : IntKind.i64.wrap (ca + cb) = ca + cb := wrap_in _ (by omega) (by omega)
      have hszT : tl ≤ 12 := by omega
      go_wp2_with fail
      all_goals (
        refine (C3 _ _ _ _ _ _ P.length o2 rfl (by first | exact Md _ (fun _ => rfl) | exact Md _ (fun h => absurd (by assumption) h)) (hg.below HB7)).mono ?_
        rintro e w8 ⟨v3, rfl, o3, hb⟩
        rw [hTL.out] at o3
        have HB8 := btrans HB7 hb
        have Ou8 := own_keep Ou7 hb
        have Mp8 := Mp7.below hb
        have o18 := own_keep o17 hb
        obtain ⟨a3, c3, rfl⟩ := own_form o3
        clear hb Ou7 Mp7 HB7 o17 C3 Md o2
        have SA : Spans w8 a1 T := Spans.own o18
        have SR : Spans w8 a3 T := Spans.own o3
        have ST : Spans w8 au ts := Spans.own Ou8
        go_wp2
        go_loopw [14] (fun i wr => ∃ j : Nat, j ≤ tl ∧ i = .int .i64 j ∧ Below w8.heap.size w8 wr) (fun i _ => tl - (intOf i).toNat)
        case atStart => exact ⟨0, Nat.zero_le _, rfl, Below.refl _ _⟩
        case round =>
          obtain ⟨j, hj, rfl, hb⟩ := hrel
          by_cases hlt : j < tl
          · have hjT : j < T.length := by rw [hTL.out]; exact hlt
            have hjt : j < ts.length := by omega
            rcases SA with SA | ⟨bA, oA, rfl, hA⟩
            · rw [SA, List.length_nil] at hjT; omega
            rcases SR with SR | ⟨bR, oR, rfl, hR⟩
            · rw [SR, List.length_nil] at hjT; omega
            rcases ST with ST | ⟨bT, oT, rfl, hT⟩
            · rw [ST, List.length_nil] at hjt; omega
            have e1 : wr.cell? ⟨bA, oA + j * 2, none⟩ = some (.int .i64 (rAt T j)) := ble hb (hA j hjT).1
            have e2 : wr.cell? ⟨bA, oA + j * 2 + 1, none⟩ = some (.int .i64 (fAt T j)) := ble hb (hA j hjT).2
            have e3 : wr.cell? ⟨bR, oR + j * 2, none⟩ = some (.int .i64 (rAt T j)) := ble hb (hR j hjT).1
            have e4 : wr.cell? ⟨bR, oR + j * 2 + 1, none⟩ = some (.int .i64 (fAt T j)) := ble hb (hR j hjT).2
            have e5 : wr.cell? ⟨bT, oT + j * 2, none⟩ = some (.int .i64 (rAt ts j)) := ble hb (hT j hjt).1
            have e6 : wr.cell? ⟨bT, oT + j * 2 + 1, none⟩ = some (.int .i64 (fAt ts j)) := ble hb (hT j hjt).2
            have hMo := hMono.2 j
            have m1 : ¬ (fAt T j < fAt ts j) := by omega
            have m2 : ¬ (rAt T j < rAt ts j) := by omega
            have m3 : decide (fAt T j < fAt ts j) = false := decide_eq_false m1
            have m4 : decide (rAt T j < rAt ts j) = false := decide_eq_false m2
            have hj1 : (j : Int) < (tl : Int) := by omega
            have hj2 : (j : Int) < (ts.length : Int) := by omega
            clear hA hR hT
            generalize rAt T j = xr at *
            generalize fAt T j = xf at *
            generalize rAt ts j = tr at *
            generalize fAt ts j = tf at *
            go_wp2
            go_quiet (fail)
            go_wp2
            go_roundw
            case rel => exact ⟨j + 1, by omega, by go_num, bdraw hb _⟩
            case measure => simp [intOf]; omega
          · have ej : j = tl := by omega
            subst j
            have HB9 := btrans HB8 hb
            go_wp2_with fail
            refine (CW _ _ (ST.below hb) (Mp8.below hb)).mono ?_
            rintro e w9 ⟨v5, rfl, o5, hb9⟩
            obtain ⟨a5, c5, rfl⟩ := own_form o5
            have HB10 := btrans HB9 hb9
            go_wp2
            go_ret
            exact ⟨rfl, HB10⟩)
    · have hdy : decide (y = 0) = false := decide_eq_false hy0
      have hdy2 : (y == 0) = false := hdy
      go_wp2_with fail
      refine (C2 _ _ Ou5 (Mp5.upto 0) (hg.below HB5)).mono ?_
      rintro e w7 ⟨v2, rfl, o2, hb⟩
      have HB7 := btrans HB5 hb
      have Ou7 := own_keep Ou5 hb
      have Mp7 := Mp5.below hb
      have o17 := own_keep o15 hb
      obtain ⟨a2, c2, rfl⟩ := own_form o2
      clear hb Ou5 Mp5 HB5 o15 C2
      have Md : ∀ am, (¬ cv = 0 → am = some (⟨gv, 0, none⟩ : Addr)) → Ints w7 am (ms.drop 0) := fun am h => by
        by_cases hc : cv = 0
        · left
          exact List.drop_eq_nil_of_le (by omega)
        · rw [h hc]
          rcases Mp7.part 0 with hd | ⟨b', off', ha, hd⟩
          · left; exact hd
          · simp only [Option.some.injEq, Addr.mk.injEq, and_true] at ha
            obtain ⟨rfl, rfl⟩ := ha
            rw [Nat.zero_add] at hd; exact hd
      have t5 : IntKind.i64.wrap (ca + cb) = ca + cb := wrap_in _ (by omega) (by omega)
      have hszT : tl ≤ 12 := by omega
      go_wp2_with fail
      all_goals (
        refine (C3 _ _ _ _ _ _ P.length o2 rfl (by first | exact Md _ (fun _ => rfl) | exact Md _ (fun h => absurd (by assumption) h)) (hg.below HB7)).mono ?_
        rintro e w8 ⟨v3, rfl, o3, hb⟩
        rw [hTL.out] at o3
        have HB8 := btrans HB7 hb
        have Ou8 := own_keep Ou7 hb
        have Mp8 := Mp7.below hb
        have o18 := own_keep o17 hb
        obtain ⟨a3, c3, rfl⟩ := own_form o3
        clear hb Ou7 Mp7 HB7 o17 C3 Md o2
        have SA : Spans w8 a1 T := Spans.own o18
        have SR : Spans w8 a3 T := Spans.own o3
        have ST : Spans w8 au ts := Spans.own Ou8
        go_wp2
        go_loopw [14] (fun i wr => ∃ j : Nat, j ≤ tl ∧ i = .int .i64 j ∧ Below w8.heap.size w8 wr) (fun i _ => tl - (intOf i).toNat)
        case atStart => exact ⟨0, Nat.zero_le _, rfl, Below.refl _ _⟩
        case round =>
          obtain ⟨j, hj, rfl, hb⟩ := hrel
          by_cases hlt : j < tl
          · have hjT : j < T.length := by rw [hTL.out]; exact hlt
            have hjt : j < ts.length := by omega
            rcases SA with SA | ⟨bA, oA, rfl, hA⟩
            · rw [SA, List.length_nil] at hjT; omega
            rcases SR with SR | ⟨bR, oR, rfl, hR⟩
            · rw [SR, List.length_nil] at hjT; omega
            rcases ST with ST | ⟨bT, oT, rfl, hT⟩
            · rw [ST, List.length_nil] at hjt; omega
            have e1 : wr.cell? ⟨bA, oA + j * 2, none⟩ = some (.int .i64 (rAt T j)) := ble hb (hA j hjT).1
            have e2 : wr.cell? ⟨bA, oA + j * 2 + 1, none⟩ = some (.int .i64 (fAt T j)) := ble hb (hA j hjT).2
            have e3 : wr.cell? ⟨bR, oR + j * 2, none⟩ = some (.int .i64 (rAt T j)) := ble hb (hR j hjT).1
            have e4 : wr.cell? ⟨bR, oR + j * 2 + 1, none⟩ = some (.int .i64 (fAt T j)) := ble hb (hR j hjT).2
            have e5 : wr.cell? ⟨bT, oT + j * 2, none⟩ = some (.int .i64 (rAt ts j)) := ble hb (hT j hjt).1
            have e6 : wr.cell? ⟨bT, oT + j * 2 + 1, none⟩ = some (.int .i64 (fAt ts j)) := ble hb (hT j hjt).2
            have hj1 : (j : Int) < (tl : Int) := by omega
            have hj2 : (j : Int) < (ts.length : Int) := by omega
            clear hA hR hT
            generalize rAt T j = xr at *
            generalize fAt T j = xf at *
            generalize rAt ts j = tr at *
            generalize fAt ts j = tf at *
            go_wp2
            go_quiet (fail)
            go_wp2
            go_roundw
            case rel => exact ⟨j + 1, by omega, by go_num, bdraw hb _⟩
            case measure => simp [intOf]; omega
          · have ej : j = tl := by omega
            subst j
            have HB9 := btrans HB8 hb
            go_wp2_with fail
            refine (CW _ _ (ST.below hb) (Mp8.below hb)).mono ?_
            rintro e w9 ⟨v5, rfl, o5, hb9⟩
            obtain ⟨a5, c5, rfl⟩ := own_form o5
            have HB10 := btrans HB9 hb9
            go_wp2
            go_ret
            exact ⟨rfl, HB10⟩)
end Go.Proofs.YtnbfkkmjehhihaaDoor
