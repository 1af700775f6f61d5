/- HumpPass and HumpSort of the model. -/
import Derived.Test.YtipechbhhpagiaaCH
namespace Go.Proofs.Ytipechbhhpagiaa
open Go.RowKit
set_option maxHeartbeats 1600000 in
theorem cCopyInts (a : Option Addr) (cap : Nat) (zs : List Int) (w : World) (hz : Ints w a zs) (hl : zs.length ≤ 1048576) :
    Calls Try.prog 72 #[.slice a zs.length cap] w fun e w' => ∃ v, e = .returned v ∧ w'.ownsRow w.heap.size 3 1 v zs.length (zs.map (.int .i64)) ∧ Below w.heap.size w w' := by
  obtain ⟨i0, hi, hz0, hz1, hz2⟩ := info_parts infoInts
  go_enter Try.func72, Try.ntmps72
  go_wp2
  go_loopw [3, 4] (fun o i wr => ∃ k : Nat, k ≤ zs.length ∧ i = .int .i64 k ∧ wr.ownsRow w.heap.size 3 1 o k ((zs.take k).map (.int .i64)) ∧ Below w.heap.size w wr) (fun _ i _ => zs.length - (intOf i).toNat)
  case atStart => exact ⟨0, Nat.zero_le _, rfl, by simpa using World.ownsRow_made w #[] 0 (Nat.le_refl _) (by omega) rfl, balloc _ _⟩
  case round =>
    obtain ⟨k, hk, rfl, hown, hb⟩ := hrel
    by_cases hlt : k < zs.length
    · rcases hz with h | ⟨b, off, rfl, hc⟩
      · simp [h] at hlt
      have q0 := ble hb (hc k hlt)
      have e0 : zs.getD k 0 = zs[k] := by simp [List.getD, hlt]
      rw [e0] at q0
      have hst := hide (List.take_succ_eq_append_getElem hlt)
      generalize zs[k] = y at *
      have hsz := hb.size
      clear hc e0
      go_wp2_with (at_builtin; refine wpList_append_own _ rfl _ _ 24 rfl w.heap.size 3 i0 (.int .i64 0) 1 8 Try.underlying24 hi hz0 hz1 hz2 rfl (by decide) _ _ _ rfl (hown.alloc _) ⟨wr.heap.size, 0, none⟩ 1 1 [.int .i64 y] rfl rfl ?c1 ?c2 ?c3 ?c4 ?c5 ?_)
      case c1 =>
        intro j u hj
        match j, hj with
        | 0, hj => simp at hj; subst hj; simp [Addr.add]
      case c2 => intro u hu; simp at hu; subst hu; rfl
      case c3 => unfold maxLen; omega
      case c4 => omega
      case c5 => simp; omega
      intro v' w5 hown' hgrow _
      have hfrom := own_from hown (Nat.le_refl _)
      have hbel' : Below w.heap.size w w5 := (hb.alloc hsz _).grown hgrow (by simp; omega) (fun j e => by have := hfrom j e; omega)
      have hown2 : w5.ownsRow w.heap.size 3 1 v' (k + 1) ((zs.take (k + 1)).map (.int .i64)) := by
        rw [hst.out, List.map_append, List.map_take]; exact hown'
      clear hown hown' hgrow hb hfrom
      go_wp2
      go_roundw
      case rel => exact ⟨k + 1, by omega, by go_num, hown2, hbel'⟩
      case measure => simp [intOf]; omega
    · obtain rfl : k = zs.length := by omega
      rw [List.take_length] at hown
      clear hz
      go_wp2
      go_ret
      exact ⟨_, rfl, hown, hb⟩


theorem trk_take {b wt : Int} {t : Nat} {zs : List Int} {i : Nat} (hi : i < zs.length) : trk b wt t (zs.take (i + 1)) = if dg b wt zs[i] = (t : Int) then trk b wt t (zs.take i) ++ [zs[i]] else trk b wt t (zs.take i) := by
  rw [List.take_succ_eq_append_getElem hi, trk_snoc]

set_option maxRecDepth 20000 in
set_option maxHeartbeats 6400000 in
theorem cPassS (a : Option Addr) (cap : Nat) (zs : List Int) (b d : Int) (w : World) (hz : Ints w a zs) (hl : zs.length ≤ 1048576) :
    Calls Try.prog 45 #[.slice a zs.length cap, .int .i64 b, .int .i64 d] w (AnsL w (PassR zs b d)) := by
  cases hT : trainB zs
  · have hR := hide (PassR.no (show okP zs b d = false by simp [okP, hT]))
    go_enter Try.func45, Try.ntmps45
    go_wp2_with (first | (go_at_call 65; refine (cTrainS a cap zs _ hz hl).mono ?_; rintro e w9 ⟨rfl, hw9⟩; subst w9) | (go_at_call 68; refine (cIn _ _ _ _).mono ?_; rintro e w9 ⟨rfl, hw9⟩; subst w9))
    go_ret
    exact ansL_no hR.out
  cases hB : inB b 2 10
  · have hR := hide (PassR.no (show okP zs b d = false by simp [okP, hT, hB]))
    go_enter Try.func45, Try.ntmps45
    go_wp2_with (first | (go_at_call 65; refine (cTrainS a cap zs _ hz hl).mono ?_; rintro e w9 ⟨rfl, hw9⟩; subst w9) | (go_at_call 68; refine (cIn _ _ _ _).mono ?_; rintro e w9 ⟨rfl, hw9⟩; subst w9))
    go_ret
    exact ansL_no hR.out
  cases hD : inB d 0 13
  · have hR := hide (PassR.no (show okP zs b d = false by simp [okP, hT, hB, hD]))
    go_enter Try.func45, Try.ntmps45
    go_wp2_with (first | (go_at_call 65; refine (cTrainS a cap zs _ hz hl).mono ?_; rintro e w9 ⟨rfl, hw9⟩; subst w9) | (go_at_call 68; refine (cIn _ _ _ _).mono ?_; rintro e w9 ⟨rfl, hw9⟩; subst w9))
    go_ret
    exact ansL_no hR.out
  have hok := hide (show okP zs b d = true by simp [okP, hT, hB, hD])
  have h40 := trainB_len hT
  obtain ⟨hb2, hb10⟩ := inB_true hB
  obtain ⟨hd0, hd13⟩ := inB_true hD
  obtain ⟨bn, rfl⟩ : ∃ bn : Nat, b = bn := ⟨b.toNat, by omega⟩
  obtain ⟨dn, rfl⟩ : ∃ dn : Nat, d = dn := ⟨d.toNat, by omega⟩
  have hdn : dn ≤ 13 := by omega
  have hbn : 2 ≤ bn := by omega
  have hbn10 : bn ≤ 10 := by omega
  have hR : Hid (PassR zs bn dn (humpL bn (pw bn dn) zs)) := hide ⟨fun g => by (rw [hok.out] at g; cases g), fun _ => rfl⟩
  obtain ⟨i0, hi, hz0, hz1, hz2⟩ := infoI2
  have O0 : (w.alloc (.cells #[] 3)).ownsRow w.heap.size 3 1 (.slice (some ⟨w.heap.size, 0, none⟩) 0 0) 0 (enc (coup bn (pw bn dn) zs 0)) := World.ownsRow_made _ #[] 0 (Nat.le_refl _) (by unfold maxLen; omega) rfl
  have hal := balloc w (.cells #[] 3)
  have hn3 : (bn : Int) ≠ 0 := by omega
  have hn4 : (bn : Int) ≠ -1 := by omega
  go_enter Try.func45, Try.ntmps45
  go_wp2_with (first | (go_at_call 65; refine (cTrainS a cap zs _ hz hl).mono ?_; rintro e w9 ⟨rfl, hw9⟩; subst w9) | (go_at_call 68; refine (cIn _ _ _ _).mono ?_; rintro e w9 ⟨rfl, hw9⟩; subst w9))
  go_loopw [7, 8, 9, 10, 11] (fun v i _ _ _ wr => ∃ t : Nat, t ≤ bn ∧ i = .int .i64 t ∧ wr.ownsRow w.heap.size 3 1 v (coup bn (pw bn dn) zs t).length (enc (coup bn (pw bn dn) zs t)) ∧ Below w.heap.size w wr) (fun _ i _ _ _ _ => bn - (intOf i).toNat)
  case atStart => exact ⟨0, Nat.zero_le _, rfl, O0, hal⟩
  case round =>
    obtain ⟨t, ht, rfl, hO, hb⟩ := hrel
    clear O0 hal
    by_cases htb : t < bn
    · have hO1 : wr.ownsRow w.heap.size 3 1 u7 (coup bn (pw bn dn) zs t ++ trk bn (pw bn dn) t (zs.take 0)).length (enc (coup bn (pw bn dn) zs t ++ trk bn (pw bn dn) t (zs.take 0))) := by simpa [trk] using hO
      clear hO
      go_wp2
      generalize wr = wo at *
      go_loopw [7, 9, 10, 11] (fun v i _ _ wr => ∃ j : Nat, j ≤ zs.length ∧ i = .int .i64 j ∧ wr.ownsRow w.heap.size 3 1 v (coup bn (pw bn dn) zs t ++ trk bn (pw bn dn) t (zs.take j)).length (enc (coup bn (pw bn dn) zs t ++ trk bn (pw bn dn) t (zs.take j))) ∧ Below w.heap.size w wr) (fun _ i _ _ _ => zs.length - (intOf i).toNat)
      case atStart => exact ⟨0, Nat.zero_le _, rfl, hO1, hb⟩
      case round =>
        obtain ⟨j, hj, rfl, hO, hb3⟩ := hrel
        clear hO1
        by_cases hlt : j < zs.length
        · rcases hz with h | ⟨bb, off, rfl, hc⟩
          · simp [h] at hlt
          have q0 := ble hb3 (hc j hlt)
          have e0 : zs.getD j 0 = zs[j] := by simp [List.getD, hlt]
          rw [e0] at q0
          have hx := trainB_wag hT zs[j] (List.getElem_mem hlt)
          have hst := hide (trk_take (b := bn) (wt := pw bn dn) (t := t) hlt)
          have hln : (coup bn (pw bn dn) zs t ++ trk bn (pw bn dn) t (zs.take j)).length ≤ 80 := by
            have h1 := coup_len_le (b := bn) (w := pw bn dn) (xs := zs) (by omega) t (by omega)
            have h2 := trk_len (b := bn) (wt := pw bn dn) (t := t) (xs := zs.take j)
            rw [List.length_take] at h2
            rw [List.length_append]; omega
          generalize zs[j] = x at *
          clear hc e0
          go_wp2
          generalize wr = wp at *
          go_loop [10, 11] (fun y i => ∃ m : Nat, m ≤ dn ∧ i = .int .i64 m ∧ y = .int .i64 (x / pw bn m)) (fun _ i => dn - (intOf i).toNat)
          case atStart => exact ⟨0, Nat.zero_le _, rfl, by rw [pw_zero, Int.ediv_one]⟩
          case round =>
            obtain ⟨m, hm, rfl, rfl⟩ := hrel
            have hp0 : 0 < pw bn m := pw_pos (by omega)
            have hq0 : 0 ≤ x / pw bn m := Int.ediv_nonneg (by omega) (by omega)
            have hq1 : x / pw bn m ≤ 9999 := Int.le_trans (Int.ediv_le_self _ (by omega)) hx.2
            by_cases hmd : m < dn
            · have e1 : (x / pw bn m).tdiv bn = x / pw bn (m + 1) := (Int.tdiv_eq_ediv_of_nonneg hq0).trans (div_pw x bn m)
              have hq2 : x / pw bn (m + 1) ≤ 9999 := Int.le_trans (Int.ediv_le_self _ (by omega)) hx.2
              have hq3 : 0 ≤ x / pw bn (m + 1) := Int.ediv_nonneg (by omega) (Int.le_of_lt (pw_pos (by omega)))
              have v1 : IntKind.i64.wrap (x / pw bn (m + 1)) = x / pw bn (m + 1) := wrap_in _ (by omega) (by omega)
              clear hO hst q0
              generalize hQ1 : x / pw bn (m + 1) = Q1 at *
              replace hQ1 := hide hQ1
              generalize x / pw bn m = Q at *
              go_wp2
              go_round
              case rel => exact ⟨m + 1, by omega, by go_num, by rw [hQ1.out]⟩
              case measure => simp [intOf]; omega
            · obtain rfl : m = dn := by omega
              have e2 : (x / pw bn m).tmod bn = dg bn (pw bn m) x := Int.tmod_eq_emod_of_nonneg hq0
              have hg0 : 0 ≤ dg bn (pw bn m) x := Int.emod_nonneg _ hn3
              have hg1 : dg bn (pw bn m) x < bn := Int.emod_lt_of_pos _ (by omega)
              have v2 : IntKind.i64.wrap (dg bn (pw bn m) x) = dg bn (pw bn m) x := wrap_in _ (by omega) (by omega)
              generalize dg bn (pw bn m) x = G at *
              generalize x / pw bn m = Q at *
              by_cases hG : G = (t : Int)
              · have hst2 := hide (hst.out.trans (if_pos hG))
                obtain ⟨va, vc, hva⟩ := own_form hO
                clear hst
                generalize hL1 : (coup bn (pw bn m) zs t ++ trk bn (pw bn m) t (zs.take j)).length = N1 at *
                subst hva
                have hal9 := balloc wp (.cells #[.int .i64 x] 3)
                go_wp2_with (at_builtin; refine wpList_append_own _ rfl _ _ 24 rfl w.heap.size 3 i0 (.int .i64 0) 1 8 Try.underlying24 hi hz0 hz1 hz2 rfl (by decide) _ _ _ rfl (hO.alloc _) ⟨wp.heap.size, 0, none⟩ 1 1 [.int .i64 x] rfl rfl (World.news_of_block (heap_alloc_new wp _)) (fun u hu => by simp at hu; subst hu; rfl) (by unfold maxLen; omega) (by omega) (by have := hb3.size; simp; omega) ?_)
                intro v' w5 hown' hgrow _
                have hfrom := own_from hO (Nat.le_refl _)
                have hb5 : Below w.heap.size w w5 := (hb3.alloc hb3.size _).grown hgrow (by have := hb3.size; simp; omega) (fun j e => hfrom j e)
                have hO5 : w5.ownsRow w.heap.size 3 1 v' (coup bn (pw bn m) zs t ++ trk bn (pw bn m) t (zs.take (j + 1))).length (enc (coup bn (pw bn m) zs t ++ trk bn (pw bn m) t (zs.take (j + 1)))) := by
                  rw [hst2.out, ← List.append_assoc, List.length_append, hL1]
                  simpa [enc] using hown'
                obtain ⟨va5, vc5, rfl⟩ := own_form hO5
                clear hown' hgrow hO hb3 hfrom hal9 hst2
                go_wp2
                go_roundw
                case rel => exact ⟨j + 1, by omega, by go_num, hO5, hb5⟩
                case measure => simp [intOf]; omega
              · have hst2 := hide (hst.out.trans (if_neg hG))
                have hO5 := hO
                rw [← hst2.out] at hO5
                clear hst hst2 hO
                go_wp2
                go_roundw
                case rel => exact ⟨j + 1, by omega, by go_num, hO5, hb3⟩
                case measure => simp [intOf]; omega
        · obtain rfl : j = zs.length := by omega
          rw [List.take_length] at hO
          have hO5 : wr.ownsRow w.heap.size 3 1 _ (coup bn (pw bn dn) zs (t + 1)).length (enc (coup bn (pw bn dn) zs (t + 1))) := hO
          clear hO
          go_wp2
          go_roundw
          case rel => exact ⟨t + 1, by omega, by go_num, hO5, hb3⟩
          case measure => simp [intOf]; omega
    · obtain rfl : t = bn := by omega
      obtain ⟨va, vc, rfl⟩ := own_form hO
      go_wp2
      go_ret
      exact ⟨_, _, rfl, hR.out, hO, hb⟩

/-- How many digits are counted off: what is left of m behind k divisions. -/
theorem dg_zero {b k : Nat} {m : Int} (hb : 0 < b) (h0 : 0 ≤ m) : m / pw b k = 0 ↔ m < pw b k := by
  constructor
  · intro h
    have hp : 0 < pw b k := pw_pos hb
    have := Int.emod_add_mul_ediv m (pw b k)
    have := Int.emod_lt_of_pos m hp
    rw [h] at *
    omega
  · intro h; exact Int.ediv_eq_zero_of_lt h0 h

set_option maxRecDepth 20000 in
set_option maxHeartbeats 6400000 in
theorem cSortS (a : Option Addr) (cap : Nat) (zs : List Int) (b : Int) (w : World) (hz : Ints w a zs) (hl : zs.length ≤ 1048576) :
    Calls Try.prog 47 #[.slice a zs.length cap, .int .i64 b] w (AnsLN w (SortR zs b)) := by
  cases hT : trainB zs
  · have hR := hide (SortR.no (show okS zs b = false by simp [okS, hT]))
    go_enter Try.func47, Try.ntmps47
    go_wp2_with (first | (go_at_call 65; refine (cTrainS a cap zs _ hz hl).mono ?_; rintro e w9 ⟨rfl, hw9⟩; subst w9) | (go_at_call 68; refine (cIn _ _ _ _).mono ?_; rintro e w9 ⟨rfl, hw9⟩; subst w9))
    go_ret2
    exact ansLN_no hR.out
  cases hB : inB b 2 10
  · have hR := hide (SortR.no (show okS zs b = false by simp [okS, hT, hB]))
    go_enter Try.func47, Try.ntmps47
    go_wp2_with (first | (go_at_call 65; refine (cTrainS a cap zs _ hz hl).mono ?_; rintro e w9 ⟨rfl, hw9⟩; subst w9) | (go_at_call 68; refine (cIn _ _ _ _).mono ?_; rintro e w9 ⟨rfl, hw9⟩; subst w9))
    go_ret2
    exact ansLN_no hR.out
  have hok := hide (show okS zs b = true by simp [okS, hT, hB])
  have h40 := trainB_len hT
  obtain ⟨hb2, hb10⟩ := inB_true hB
  obtain ⟨bn, rfl⟩ : ∃ bn : Nat, b = bn := ⟨b.toNat, by omega⟩
  have hbn : 2 ≤ bn := by omega
  have hbn10 : bn ≤ 10 := by omega
  have hn3 : (bn : Int) ≠ 0 := by omega
  have hn4 : (bn : Int) ≠ -1 := by omega
  have CL := cCopyInts a cap zs w hz hl
  go_enter Try.func47, Try.ntmps47
  go_wp2_with (first | (go_at_call 65; refine (cTrainS a cap zs _ hz hl).mono ?_; rintro e w9 ⟨rfl, hw9⟩; subst w9) | (go_at_call 68; refine (cIn _ _ _ _).mono ?_; rintro e w9 ⟨rfl, hw9⟩; subst w9))
  go_loop [6, 7] (fun m i => ∃ j : Nat, j ≤ zs.length ∧ i = .int .i64 j ∧ m = .int .i64 (mxL (zs.take j))) (fun _ i => zs.length - (intOf i).toNat)
  case atStart => exact ⟨0, Nat.zero_le _, rfl, rfl⟩
  case round =>
    obtain ⟨j, hj, rfl, rfl⟩ := hrel
    by_cases hlt : j < zs.length
    · rcases hz with h | ⟨bb, off, rfl, hc⟩
      · simp [h] at hlt
      have q0 := hc j hlt
      have e0 : zs.getD j 0 = zs[j] := by simp [List.getD, hlt]
      rw [e0] at q0
      have hst : mxL (zs.take (j + 1)) = if mxL (zs.take j) < zs[j] then zs[j] else mxL (zs.take j) := by rw [List.take_succ_eq_append_getElem hlt, mx_snoc]
      replace hst := hide hst
      generalize zs[j] = x at *
      generalize mxL (zs.take j) = m at *
      clear hc e0 CL
      by_cases hmx : m < x
      · have hs2 := hide (hst.out.trans (if_pos hmx))
        clear hst
        go_wp2
        go_round
        case rel => exact ⟨j + 1, by omega, by go_num, by rw [hs2.out]⟩
        case measure => simp [intOf]; omega
      · have hs2 := hide (hst.out.trans (if_neg hmx))
        clear hst
        go_wp2
        go_round
        case rel => exact ⟨j + 1, by omega, by go_num, by rw [hs2.out]⟩
        case measure => simp [intOf]; omega
    · obtain rfl : j = zs.length := by omega
      rw [List.take_length]
      have hM9 := mx_le hT
      have hM0 := mx_nonneg zs
      generalize hM : mxL zs = M at *
      replace hM := hide hM
      go_wp2
      go_loop [6, 8] (fun m n => ∃ k : Nat, k ≤ 14 ∧ n = .int .i64 k ∧ m = .int .i64 (M / pw bn k) ∧ Hid (∀ j, j < k → pw bn j ≤ M)) (fun _ n => 14 - (intOf n).toNat)
      case atStart => exact ⟨0, by omega, rfl, by rw [pw_zero, Int.ediv_one], hide (fun j hj => by omega)⟩
      case round =>
        obtain ⟨k, hk, rfl, rfl, hlow⟩ := hrel
        have hp0 : 0 < pw bn k := pw_pos (by omega)
        have hq0 : 0 ≤ M / pw bn k := Int.ediv_nonneg (by omega) (by omega)
        have hq1 : M / pw bn k ≤ 9999 := Int.le_trans (Int.ediv_le_self _ (by omega)) hM9
        have hdz := dg_zero (b := bn) (k := k) (m := M) (by omega) hM0
        by_cases hle : pw bn k ≤ M
        · have hk13 : k ≤ 13 := low14 hbn hM9 hle
          have hpos : 0 < M / pw bn k := by omega
          have e1 : (M / pw bn k).tdiv bn = M / pw bn (k + 1) := (Int.tdiv_eq_ediv_of_nonneg hq0).trans (div_pw M bn k)
          have hq2 : M / pw bn (k + 1) ≤ 9999 := Int.le_trans (Int.ediv_le_self _ (by omega)) hM9
          have hq3 : 0 ≤ M / pw bn (k + 1) := Int.ediv_nonneg (by omega) (Int.le_of_lt (pw_pos (by omega)))
          have v1 : IntKind.i64.wrap (M / pw bn (k + 1)) = M / pw bn (k + 1) := wrap_in _ (by omega) (by omega)
          have hlow2 : Hid (∀ j, j < k + 1 → pw bn j ≤ M) := hide (fun j hj => by
            by_cases h9 : j = k
            · subst h9; exact hle
            · exact hlow.out j (by omega))
          clear hlow CL hdz
          generalize hQ1 : M / pw bn (k + 1) = Q1 at *
          replace hQ1 := hide hQ1
          generalize M / pw bn k = Q at *
          go_wp2
          go_round
          case rel => exact ⟨k + 1, by omega, by go_num, by rw [hQ1.out], hlow2⟩
          case measure => simp [intOf]; omega
        · have hzero : M / pw bn k = 0 := hdz.2 (by omega)
          have hDg : Hid (IsDg bn (mxL zs) k) := hide ⟨fun j hj => by rw [hM.out]; exact hlow.out j hj, by rw [hM.out]; omega⟩
          have hR : Hid (SortR zs bn (passL bn zs k) (k : Int)) := hide ⟨fun g => by (rw [hok.out] at g; cases g), fun _ => ⟨k, rfl, hDg.out, rfl⟩⟩
          rw [hzero]
          clear hlow hdz hq0 hq1 hzero hDg
          go_wp2_with fail
          refine CL.mono ?_
          rintro e w1 ⟨v0, rfl, hO0, hb0⟩
          clear CL
          go_wp2
          go_loopw [9, 10] (fun v i wr => ∃ j : Nat, j ≤ k ∧ i = .int .i64 j ∧ wr.ownsRow w.heap.size 3 1 v (passL bn zs j).length (enc (passL bn zs j)) ∧ Below w.heap.size w wr) (fun _ i _ => k - (intOf i).toNat)
          case atStart => exact ⟨0, by omega, rfl, hO0, hb0⟩
          case round =>
            obtain ⟨j, hj, rfl, hO, hb⟩ := hrel
            clear hO0 hb0
            obtain ⟨va, vc, rfl⟩ := own_form hO
            by_cases hjk : j < k
            · have hPL := pass_train (b := bn) (by omega) hT j
              have C := cPassS va vc (passL bn zs j) bn j wr (Ints.own hO rfl) (by rw [pass_len (by omega)]; exact hl)
              have hok2 : Hid (okP (passL bn zs j) bn j = true) := hide (by
                simp only [okP, hPL, Bool.true_and]
                rw [inB_yes (by omega) (by omega), inB_yes (by omega) (by omega)]; rfl)
              clear hO
              generalize hL : (passL bn zs j).length = N at *
              go_wp2_with fail
              refine C.mono ?_
              rintro e w5 ⟨v5, out, rfl, hPR, hO5, hb5⟩
              have hout : out = passL bn zs (j + 1) := hPR.good hok2.out
              subst hout
              have hO6 := RowI.own_below (B' := w.heap.size) hO5 hb.size
              have hB6 := btrans hb hb5
              clear hO5 hb5 C hb hPR hok2
              obtain ⟨va5, vc5, rfl⟩ := own_form hO6
              go_wp2
              go_roundw
              case rel => exact ⟨j + 1, by omega, by go_num, hO6, hB6⟩
              case measure => simp [intOf]; omega
            · obtain rfl : j = k := by omega
              go_wp2
              go_ret2
              exact ⟨_, _, _, rfl, hR.out, hO, hb⟩
end Go.Proofs.Ytipechbhhpagiaa
