/- Who is due, and nights, of the model. -/
import Derived.Test.YtbnhkkaiohmllaaSM
namespace Go.Proofs.Ytbnhkkaiohmllaa
open Go.RowKit Go.Lib

theorem UnA.congr {ts : List TaskV} {n : Int} {tell tell' : List Nat → Int} {zs : List Int} (h : UnA ts n tell zs) (he : ∀ ps, ps ≠ [] → tell ps = tell' ps) : UnA ts n tell' zs := by
  rcases h with ⟨h1, h2⟩ | ⟨h1, os, hh, h2, h3, h4⟩
  · exact .inl ⟨h1, h2⟩
  · refine .inr ⟨h1, os, hh, h2, h3, ?_⟩
    rw [h4]
    exact List.map_congr_left (fun u hu => he _ (h3.full u (List.mem_range.1 hu)))
def nodeOf (ts : List TaskV) (ps : List Nat) : Int := if ps = [] then 0 else nightOf ts ps
theorem nodeOf_snoc (ts : List TaskV) (ps : List Nat) (p : Nat) : nodeOf ts (ps ++ [p]) = (tkA ts p).d := by
  unfold nodeOf
  rw [if_neg (by simp), nightOf_snoc]
theorem pick_take {zs : List Int} {u : Nat} {os : List Nat} {i : Nat} (hi : i < os.length) : pick zs u (os.take (i + 1)) = if zs.getD (os.getD i 0) 0 = (u : Int) then pick zs u (os.take i) ++ [os.getD i 0] else pick zs u (os.take i) := by
  have e : os.getD i 0 = os[i] := by simp [List.getD, hi]
  rw [List.take_succ_eq_append_getElem hi, pick_snoc, e]
theorem pick_bound {ts : List TaskV} {zs : List Int} {os : List Nat} (hr : ts.all taskB = true) (hO : Ord ts os) (h40 : ts.length ≤ 40) (u i : Nat) : 0 ≤ kmOf ts (pick zs u (os.take i)) ∧ kmOf ts (pick zs u (os.take i)) ≤ 80000 := by
  have h1 := kmOf_bound (ts := ts) (ps := pick zs u (os.take i)) (fun p hp => tkA_ok hr ((hO.2 p).1 (by
    unfold pick at hp
    exact List.mem_of_mem_take (List.mem_filter.1 hp).1)))
  have h2 : (pick zs u (os.take i)).length ≤ os.length := by
    unfold pick
    have := List.length_filter_le (fun o => zs.getD o 0 == (u : Int)) (os.take i)
    rw [List.length_take] at this
    omega
  have := hO.len
  omega

set_option maxRecDepth 20000 in
set_option maxHeartbeats 6400000 in
theorem cDueS (a : Option Addr) (cap : Nat) (ts : List TaskV) (n lim : Int) (w : World) (hz : Tasks w a ts) (hl : ts.length ≤ 1048576) :
    Calls Try.prog 31 #[.slice a ts.length cap, .int .i64 n, .int .i64 lim] w (AnsZ (DueA ts n lim) w) := by
  obtain ⟨i0, hi, hz0, hz1, hz2⟩ := info_parts infoInts
  go_enter Try.func31, Try.ntmps31
  go_wp2_with fail
  refine (cIn lim 0 1000000 _).mono ?_
  rintro e w0 ⟨rfl, hw⟩
  subst w0
  cases hlim0 : inB lim 0 1000000
  · go_wp2
    go_ret
    exact ⟨_, [], rfl, .inl ⟨hlim0, rfl⟩, World.ownsRow_nil _ _ _ _, Below.refl _ _⟩
  replace hlim0 := hide hlim0
  go_wp2_with fail
  refine (cChainsS a cap ts n _ hz hl).mono ?_
  rintro e w1 ⟨v, zs, rfl, hA, O5, hb⟩
  have Z := ChZ.of hA
  obtain ⟨ua, uc, rfl⟩ := own_form O5
  have hlz := Z.len
  have hO := World.ownsRow_made (base := w1.heap.size) (e := 3) (size := 1) w1 #[] 0 (Nat.le_refl _) (by unfold maxLen; omega) rfl
  have HB := btrans hb (balloc w1 (.cells #[] 3))
  by_cases h0 : zs.length = 0
  · have hE := hide (Z.empty (dueOf ts lim 0) h0)
    obtain rfl : zs = [] := List.length_eq_zero_iff.1 h0
    clear hA Z h0 hO O5 hlz
    go_wp2
    go_ret
    exact ⟨_, [], rfl, .inr ⟨hlim0.out, hE.out⟩, World.ownsRow_nil _ _ _ _, HB⟩
  have hz0' : 0 < zs.length := by omega
  have hzt : Hid (zs.length = ts.length) := hide (Z.full hz0').1
  have hall := hide (Z.full hz0').2
  have hrg := hide (fun (z : Int) hz => (show z ≤ 1000 by have := Z.range z hz; omega))
  have hrun := hide (fun os ho => Z.run os ho (dueOf ts lim 0))
  have hc0 := (cntU_props zs).1
  have hc1 := Z.cnt
  have h40 : ts.length ≤ 40 := by have := hzt.out; omega
  have hbe : ((zs.length : Int) == 0) = false := beq_eq_false_iff_ne.2 (by omega)
  have bU := own_blk_lt O5
  have O5a := own_keep O5 (balloc w1 (.cells #[] 3))
  clear hA Z h0 O5
  have hCO := cOrder a cap ts (w1.alloc (.cells #[] 3)) (hz.below HB) h40
  go_wp2_with fail
  refine hCO.mono ?_
  rintro e w2 ⟨v9, os, rfl, O9, hOr, hb2⟩
  have hol := hide hOr.len
  rw [hol.out] at O9
  obtain ⟨oa, oc, rfl⟩ := own_form O9
  have hO2 := own_keep hO hb2
  have O5b := own_keep O5a hb2
  have HB2 := btrans HB hb2
  have hU := hide (hrun.out os hOr)
  have hpb := hide (fun u i => pick_bound (zs := zs) hall.out hOr h40 u i)
  have hap0 : Hid (∀ q, (Value.slice (some ⟨w1.heap.size, 0, none⟩) 0 0).ownBlock = some q → (Value.slice ua zs.length uc).ownBlock ≠ some q ∧ (Value.slice oa ts.length oc).ownBlock ≠ some q) := hide (fun q hq => by
    have e : w1.heap.size = q := by simpa [Value.ownBlock] using hq
    refine ⟨fun h => ?_, fun h => ?_⟩
    · have := bU q h; omega
    · have h3 := own_from O9 (Nat.le_refl _) q h
      rw [sz1] at h3
      omega)
  clear hO O5a hrun hCO
  have CU := fun (V : World) (O : V.ownsRow w.heap.size 3 1 (.slice ua zs.length uc) zs.length (zs.map (Value.int .i64))) => cUnitsS ua uc zs V (Ints.own O rfl) hlz hrg.out
  obtain ⟨K, hK⟩ : ∃ K : Nat, cntU zs = K := ⟨(cntU zs).toNat, by omega⟩
  rw [hK] at hU CU hc1
  rw [Int.toNat_natCast] at hU
  clear hK hc0
  have hwb : w.heap.size ≤ w1.heap.size := hb.size
  go_wp2
  rw [sz1] at O9
  go_loopw [8, 10] (fun v i wr => ∃ k : Nat, k ≤ K ∧ i = .int .i64 k ∧ wr.ownsRow w1.heap.size 3 1 v k (((List.range k).map (fun u => (dueOf ts lim 0) (pick zs u os))).map (Value.int .i64)) ∧ wr.ownsRow w.heap.size 3 1 (.slice ua zs.length uc) zs.length (zs.map (Value.int .i64)) ∧ wr.ownsRow (w1.heap.size + 1) 3 1 (.slice oa ts.length oc) ts.length ((intsOf os).map (Value.int .i64)) ∧ Hid (∀ q, v.ownBlock = some q → (Value.slice ua zs.length uc).ownBlock ≠ some q ∧ (Value.slice oa ts.length oc).ownBlock ≠ some q) ∧ Below w.heap.size w wr ∧ w1.heap.size ≤ wr.heap.size) (fun _ i _ => K - (intOf i).toNat)
  case atStart => exact ⟨0, Nat.zero_le _, rfl, by simpa using hO2, O5b, O9, hap0, HB2, by have := hb2.size; rw [sz1] at this; omega⟩
  case round =>
    obtain ⟨k, hk, rfl, ho, OU, OO, hap, hbw, hsz⟩ := hrel
    clear hO2 O5b O9 hap0 HB2
    obtain ⟨va, vc, rfl⟩ := own_form ho
    by_cases hlt : k < K
    · have hlt' : (k : Int) < (K : Int) := by omega
      have hrk : Hid ((List.range (k + 1)).map (fun u => (dueOf ts lim 0) (pick zs u os)) = (List.range k).map (fun u => (dueOf ts lim 0) (pick zs u os)) ++ [(dueOf ts lim 0) (pick zs k os)]) := hide (by rw [List.range_succ, List.map_append]; rfl)
      have C1 := CU wr OU
      have IU : Ints wr ua zs := Ints.own OU rfl
      have IO : Ints wr oa (intsOf os) := Ints.own OO (by rw [← hol.out]; simp [intsOf])
      go_wp2_with fail
      refine C1.mono ?_
      rintro e w3 ⟨rfl, hw⟩
      subst w3
      clear C1
      go_wp2
      go_loop [11, 12, 13] (fun s t i => ∃ q : Nat, q ≤ ts.length ∧ s = .int .i64 (kmOf ts (pick zs k (os.take q))) ∧ t = .int .i64 (dueOf ts lim 0 (pick zs k (os.take q))) ∧ i = .int .i64 q) (fun _ _ i => ts.length - (intOf i).toNat)
      case atStart => exact ⟨0, Nat.zero_le _, by simp [pick, kmOf], by simp [pick, dueOf], rfl⟩
      case round =>
        obtain ⟨q, hq, rfl, rfl, rfl⟩ := hrel
        by_cases hqt : q < ts.length
        · have hqt' : (q : Int) < (ts.length : Int) := by omega
          have hqo : q < os.length := by rw [hol.out]; exact hqt
          have hoo : os.getD q 0 < ts.length := by
            rw [show os.getD q 0 = os[q] by simp [List.getD, hqo]]
            exact (hOr.2 _).1 (List.getElem_mem hqo)
          rcases IO with h | ⟨bo, oo, rfl, hco⟩
          · have h9 := congrArg List.length h
            simp [intsOf] at h9; subst h9; simp at hqo
          have p0 := hco q (by simpa [intsOf] using hqo)
          rw [intsOf_get os hqo] at p0
          rcases IU with h | ⟨b5, o5, rfl, hc5⟩
          · subst h; simp at hz0'
          have hoz : os.getD q 0 < zs.length := by rw [hzt.out]; exact hoo
          have p1 := hc5 (os.getD q 0) hoz
          rcases hz with h | ⟨b, off, rfl, hc⟩
          · simp [h] at hqt
          have hcell := hc (os.getD q 0) hoo
          have p4 := ble hbw hcell.2.2.2.2
          have hpt := hide (pick_take (zs := zs) (u := k) hqo)
          have hs1 := (hpb.out k q)
          have hs3 : 0 ≤ (ts.getD (os.getD q 0) TaskV.zero).p ∧ (ts.getD (os.getD q 0) TaskV.zero).p ≤ 2000 := by
            have hs2 := taskB_iff.1 (tkA_ok hall.out hoo)
            unfold tkA at hs2; omega
          have hdr := (dueOf_range ts lim (pick zs k (os.take q)) 0).1
          have hsn := hide (dueOf_snoc ts lim (pick zs k (os.take q)) (os.getD q 0) 0)
          have hkm := hide (kmOf_snoc ts (pick zs k (os.take q)) (os.getD q 0))
          have htp : Hid ((tkA ts (os.getD q 0)).p = (ts.getD (os.getD q 0) TaskV.zero).p) := rfl
          rw [htp.out, Int.zero_add] at hsn
          rw [htp.out] at hkm
          have hoz' : ((os.getD q 0 : Nat) : Int) < (zs.length : Int) := by omega
          have hoo' : ((os.getD q 0 : Nat) : Int) < (ts.length : Int) := by omega
          clear hc hc5 hco hcell htp
          generalize os.getD q 0 = o at *
          generalize zs.getD o 0 = z at *
          generalize (ts.getD o TaskV.zero).p = y at *
          generalize pick zs k (os.take q) = ps at *
          generalize hks : kmOf ts ps = s at *
          generalize hds : dueOf ts lim 0 ps = at' at *
          replace hks := hide hks
          replace hds := hide hds
          by_cases hzk : z = (k : Int)
          · rw [if_pos hzk] at hpt
            subst hzk
            have hw : IntKind.i64.wrap (s + y) = s + y := wrap_in _ (by omega) (by omega)
            by_cases hlim : lim < s + y
            · by_cases hat : at' < 0
              · have hf := hide (show dueOf ts lim 0 (ps ++ [o]) = (o : Int) by rw [hsn.out, if_pos hat, if_pos hlim])
                clear hsn
                go_wp2
                go_round
                case rel => exact ⟨q + 1, by omega, by rw [hpt.out, hkm.out], by rw [hpt.out, hf.out], by go_num⟩
                case measure => simp [intOf]; omega
              · have hf := hide (show dueOf ts lim 0 (ps ++ [o]) = at' by rw [hsn.out, if_neg hat])
                clear hsn
                go_wp2
                go_round
                case rel => exact ⟨q + 1, by omega, by rw [hpt.out, hkm.out], by rw [hpt.out, hf.out], by go_num⟩
                case measure => simp [intOf]; omega
            · have hf := hide (show dueOf ts lim 0 (ps ++ [o]) = at' by
                rw [hsn.out]
                by_cases hat : at' < 0
                · rw [if_pos hat, if_neg hlim]; omega
                · rw [if_neg hat])
              clear hsn
              go_wp2
              go_round
              case rel => exact ⟨q + 1, by omega, by rw [hpt.out, hkm.out], by rw [hpt.out, hf.out], by go_num⟩
              case measure => simp [intOf]; omega
          · rw [if_neg hzk] at hpt
            clear hsn hkm
            go_wp2
            go_round
            case rel => exact ⟨q + 1, by omega, by rw [hpt.out, hks.out], by rw [hpt.out, hds.out], by go_num⟩
            case measure => simp [intOf]; omega
        · obtain rfl : q = ts.length := by omega
          have hqt' : ¬ ((ts.length : Int) < (ts.length : Int)) := by omega
          have htl : Hid ((dueOf ts lim 0) (pick zs k (os.take ts.length)) = (dueOf ts lim 0) (pick zs k os)) := hide (by rw [List.take_of_length_le (Nat.le_of_eq hol.out)])
          rw [htl.out]
          generalize (dueOf ts lim 0) (pick zs k os) = x at *
          generalize (List.range k).map (fun u => (dueOf ts lim 0) (pick zs u os)) = xs at *
          have bUr := own_blk_lt OU
          have bOr := own_blk_lt OO
          have ho1 := own_keep ho (balloc wr (.cells #[.int .i64 x] 3))
          have OU1 := own_keep OU (balloc wr (.cells #[.int .i64 x] 3))
          have OO1 := own_keep OO (balloc wr (.cells #[.int .i64 x] 3))
          have hb3 := btrans hbw (balloc wr (.cells #[.int .i64 x] 3))
          clear IU IO
          go_wp2_with (at_builtin; refine wpList_append_lies _ rfl _ _ 27 rfl w1.heap.size 3 i0 _ 1 8 Try.underlying27 hi hz0 hz1 hz2 rfl (by decide) _ _ _ rfl ho1 ⟨wr.heap.size, 0, none⟩ 1 1 [.int .i64 x] rfl rfl (World.news_of_block (heap_alloc_new wr _)) (by simp [Value.oneCell']) (by omega) (by unfold maxLen; omega) (by omega) (by simp; omega) (wr.heap.size + 1) (by simp) ?_)
          intro g2 c2 w5 hown hgrow hat hlt5
          have OU2 := own_far OU1 hgrow (fun q hq e => (hap.out q e.symm).1 hq)
          have OO2 := own_far OO1 hgrow (fun q hq e => (hap.out q e.symm).2 hq)
          have hb5 := below_grown' hb3 ho1 hwb (Nat.le_refl _) hgrow
          have hown2 : w5.ownsRow w1.heap.size 3 1 (.slice (some ⟨g2, 0, none⟩) (k + 1) c2) (k + 1) ((xs ++ [x]).map (Value.int .i64)) := by rw [List.map_append]; exact hown
          rw [← hrk.out] at hown2
          have hap2 : Hid (∀ q, (Value.slice (some ⟨g2, 0, none⟩) (k + 1) c2).ownBlock = some q → (Value.slice ua zs.length uc).ownBlock ≠ some q ∧ (Value.slice oa ts.length oc).ownBlock ≠ some q) := hide (fun q hq => by
            have e : g2 = q := by simpa [Value.ownBlock] using hq
            subst e
            rcases hat with hat | hat
            · exact hap.out _ hat
            · exact ⟨fun h => by have := bUr _ h; omega, fun h => by have := bOr _ h; omega⟩)
          have hsz5 : w1.heap.size ≤ w5.heap.size := by have := hgrow.size; rw [sz1] at this; omega
          clear hgrow hown ho1 hb3 ho OU OO OU1 OO1 hat hap
          go_wp2
          go_roundw
          case rel => exact ⟨k + 1, by omega, by go_num, hown2, OU2, OO2, hap2, hb5, hsz5⟩
          case measure => simp [intOf]; omega
    · obtain rfl : k = K := by omega
      have hlt' : ¬ ((k : Int) < (k : Int)) := by omega
      have C1 := CU wr OU
      have ho2 := Go.Joins.ownsRow_le ho hwb
      have hlen : Hid (((List.range k).map (fun u => (dueOf ts lim 0) (pick zs u os))).length = k) := hide (by simp)
      clear CU ho
      go_wp2_with fail
      refine C1.mono ?_
      rintro e w3 ⟨rfl, hw⟩
      subst w3
      go_wp2
      go_ret
      exact ⟨_, _, rfl, .inr ⟨hlim0.out, hU.out⟩, by rw [hlen.out]; exact ho2, hbw⟩

set_option maxRecDepth 20000 in
set_option maxHeartbeats 6400000 in
theorem cNightS (a : Option Addr) (cap : Nat) (ts : List TaskV) (n : Int) (w : World) (hz : Tasks w a ts) (hl : ts.length ≤ 1048576) :
    Calls Try.prog 48 #[.slice a ts.length cap, .int .i64 n] w (AnsZ (UnA ts n (nightOf ts)) w) := by
  obtain ⟨i0, hi, hz0, hz1, hz2⟩ := info_parts infoInts
  go_enter Try.func48, Try.ntmps48
  go_wp2_with fail
  refine (cChainsS a cap ts n _ hz hl).mono ?_
  rintro e w1 ⟨v, zs, rfl, hA, O5, hb⟩
  have Z := ChZ.of hA
  obtain ⟨ua, uc, rfl⟩ := own_form O5
  have hlz := Z.len
  have hO := World.ownsRow_made (base := w1.heap.size) (e := 3) (size := 1) w1 #[] 0 (Nat.le_refl _) (by unfold maxLen; omega) rfl
  have HB := btrans hb (balloc w1 (.cells #[] 3))
  by_cases h0 : zs.length = 0
  · have hE := hide (Z.empty (nodeOf ts) h0)
    obtain rfl : zs = [] := List.length_eq_zero_iff.1 h0
    clear hA Z h0 hO O5 hlz
    go_wp2
    go_ret
    exact ⟨_, [], rfl, UnA.congr (hE.out) (fun ps hps => if_neg hps), World.ownsRow_nil _ _ _ _, HB⟩
  have hz0' : 0 < zs.length := by omega
  have hzt : Hid (zs.length = ts.length) := hide (Z.full hz0').1
  have hall := hide (Z.full hz0').2
  have hrg := hide (fun (z : Int) hz => (show z ≤ 1000 by have := Z.range z hz; omega))
  have hrun := hide (fun os ho => Z.run os ho (nodeOf ts))
  have hc0 := (cntU_props zs).1
  have hc1 := Z.cnt
  have h40 : ts.length ≤ 40 := by have := hzt.out; omega
  have hbe : ((zs.length : Int) == 0) = false := beq_eq_false_iff_ne.2 (by omega)
  have bU := own_blk_lt O5
  have O5a := own_keep O5 (balloc w1 (.cells #[] 3))
  clear hA Z h0 O5
  have hCO := cOrder a cap ts (w1.alloc (.cells #[] 3)) (hz.below HB) h40
  go_wp2_with fail
  refine hCO.mono ?_
  rintro e w2 ⟨v9, os, rfl, O9, hOr, hb2⟩
  have hol := hide hOr.len
  rw [hol.out] at O9
  obtain ⟨oa, oc, rfl⟩ := own_form O9
  have hO2 := own_keep hO hb2
  have O5b := own_keep O5a hb2
  have HB2 := btrans HB hb2
  have hU := hide (hrun.out os hOr)
  have hpb := hide (fun u i => pick_bound (zs := zs) hall.out hOr h40 u i)
  have hap0 : Hid (∀ q, (Value.slice (some ⟨w1.heap.size, 0, none⟩) 0 0).ownBlock = some q → (Value.slice ua zs.length uc).ownBlock ≠ some q ∧ (Value.slice oa ts.length oc).ownBlock ≠ some q) := hide (fun q hq => by
    have e : w1.heap.size = q := by simpa [Value.ownBlock] using hq
    refine ⟨fun h => ?_, fun h => ?_⟩
    · have := bU q h; omega
    · have h3 := own_from O9 (Nat.le_refl _) q h
      rw [sz1] at h3
      omega)
  clear hO O5a hrun hCO
  have CU := fun (V : World) (O : V.ownsRow w.heap.size 3 1 (.slice ua zs.length uc) zs.length (zs.map (Value.int .i64))) => cUnitsS ua uc zs V (Ints.own O rfl) hlz hrg.out
  obtain ⟨K, hK⟩ : ∃ K : Nat, cntU zs = K := ⟨(cntU zs).toNat, by omega⟩
  rw [hK] at hU CU hc1
  rw [Int.toNat_natCast] at hU
  clear hK hc0
  have hwb : w.heap.size ≤ w1.heap.size := hb.size
  go_wp2
  rw [sz1] at O9
  go_loopw [6, 8] (fun v i wr => ∃ k : Nat, k ≤ K ∧ i = .int .i64 k ∧ wr.ownsRow w1.heap.size 3 1 v k (((List.range k).map (fun u => (nodeOf ts) (pick zs u os))).map (Value.int .i64)) ∧ wr.ownsRow w.heap.size 3 1 (.slice ua zs.length uc) zs.length (zs.map (Value.int .i64)) ∧ wr.ownsRow (w1.heap.size + 1) 3 1 (.slice oa ts.length oc) ts.length ((intsOf os).map (Value.int .i64)) ∧ Hid (∀ q, v.ownBlock = some q → (Value.slice ua zs.length uc).ownBlock ≠ some q ∧ (Value.slice oa ts.length oc).ownBlock ≠ some q) ∧ Below w.heap.size w wr ∧ w1.heap.size ≤ wr.heap.size) (fun _ i _ => K - (intOf i).toNat)
  case atStart => exact ⟨0, Nat.zero_le _, rfl, by simpa using hO2, O5b, O9, hap0, HB2, by have := hb2.size; rw [sz1] at this; omega⟩
  case round =>
    obtain ⟨k, hk, rfl, ho, OU, OO, hap, hbw, hsz⟩ := hrel
    clear hO2 O5b O9 hap0 HB2
    obtain ⟨va, vc, rfl⟩ := own_form ho
    by_cases hlt : k < K
    · have hlt' : (k : Int) < (K : Int) := by omega
      have hrk : Hid ((List.range (k + 1)).map (fun u => (nodeOf ts) (pick zs u os)) = (List.range k).map (fun u => (nodeOf ts) (pick zs u os)) ++ [(nodeOf ts) (pick zs k os)]) := hide (by rw [List.range_succ, List.map_append]; rfl)
      have C1 := CU wr OU
      have IU : Ints wr ua zs := Ints.own OU rfl
      have IO : Ints wr oa (intsOf os) := Ints.own OO (by rw [← hol.out]; simp [intsOf])
      go_wp2_with fail
      refine C1.mono ?_
      rintro e w3 ⟨rfl, hw⟩
      subst w3
      clear C1
      go_wp2
      go_loop [9, 10] (fun s i => ∃ q : Nat, q ≤ ts.length ∧ s = .int .i64 (nodeOf ts (pick zs k (os.take q))) ∧ i = .int .i64 q) (fun _ i => ts.length - (intOf i).toNat)
      case atStart => exact ⟨0, Nat.zero_le _, by simp [pick, nodeOf], rfl⟩
      case round =>
        obtain ⟨q, hq, rfl, rfl⟩ := hrel
        by_cases hqt : q < ts.length
        · have hqt' : (q : Int) < (ts.length : Int) := by omega
          have hqo : q < os.length := by rw [hol.out]; exact hqt
          have hoo : os.getD q 0 < ts.length := by
            rw [show os.getD q 0 = os[q] by simp [List.getD, hqo]]
            exact (hOr.2 _).1 (List.getElem_mem hqo)
          rcases IO with h | ⟨bo, oo, rfl, hco⟩
          · have h9 := congrArg List.length h
            simp [intsOf] at h9; subst h9; simp at hqo
          have p0 := hco q (by simpa [intsOf] using hqo)
          rw [intsOf_get os hqo] at p0
          rcases IU with h | ⟨b5, o5, rfl, hc5⟩
          · subst h; simp at hz0'
          have hoz : os.getD q 0 < zs.length := by rw [hzt.out]; exact hoo
          have p1 := hc5 (os.getD q 0) hoz
          rcases hz with h | ⟨b, off, rfl, hc⟩
          · simp [h] at hqt
          have hcell := hc (os.getD q 0) hoo
          have p4 := ble hbw hcell.2.1
          have hpt := hide (pick_take (zs := zs) (u := k) hqo)
          have hsn := hide (nodeOf_snoc ts (pick zs k (os.take q)) (os.getD q 0))
          have htp : Hid ((tkA ts (os.getD q 0)).d = (ts.getD (os.getD q 0) TaskV.zero).d) := rfl
          rw [htp.out] at hsn
          have hoz' : ((os.getD q 0 : Nat) : Int) < (zs.length : Int) := by omega
          have hoo' : ((os.getD q 0 : Nat) : Int) < (ts.length : Int) := by omega
          clear hc hc5 hco hcell htp
          generalize os.getD q 0 = o at *
          generalize zs.getD o 0 = z at *
          generalize (ts.getD o TaskV.zero).d = y at *
          generalize pick zs k (os.take q) = ps at *
          by_cases hzk : z = (k : Int)
          · rw [if_pos hzk] at hpt
            subst hzk
            go_wp2
            go_round
            case rel => exact ⟨q + 1, by omega, by rw [hpt.out, hsn.out], by go_num⟩
            case measure => simp [intOf]; omega
          · rw [if_neg hzk] at hpt
            clear hsn
            go_wp2
            go_round
            case rel => exact ⟨q + 1, by omega, by rw [hpt.out], by go_num⟩
            case measure => simp [intOf]; omega
        · obtain rfl : q = ts.length := by omega
          have hqt' : ¬ ((ts.length : Int) < (ts.length : Int)) := by omega
          have htl : Hid ((nodeOf ts) (pick zs k (os.take ts.length)) = (nodeOf ts) (pick zs k os)) := hide (by rw [List.take_of_length_le (Nat.le_of_eq hol.out)])
          rw [htl.out]
          generalize (nodeOf ts) (pick zs k os) = x at *
          generalize (List.range k).map (fun u => (nodeOf ts) (pick zs u os)) = xs at *
          have bUr := own_blk_lt OU
          have bOr := own_blk_lt OO
          have ho1 := own_keep ho (balloc wr (.cells #[.int .i64 x] 3))
          have OU1 := own_keep OU (balloc wr (.cells #[.int .i64 x] 3))
          have OO1 := own_keep OO (balloc wr (.cells #[.int .i64 x] 3))
          have hb3 := btrans hbw (balloc wr (.cells #[.int .i64 x] 3))
          clear IU IO
          go_wp2_with (at_builtin; refine wpList_append_lies _ rfl _ _ 27 rfl w1.heap.size 3 i0 _ 1 8 Try.underlying27 hi hz0 hz1 hz2 rfl (by decide) _ _ _ rfl ho1 ⟨wr.heap.size, 0, none⟩ 1 1 [.int .i64 x] rfl rfl (World.news_of_block (heap_alloc_new wr _)) (by simp [Value.oneCell']) (by omega) (by unfold maxLen; omega) (by omega) (by simp; omega) (wr.heap.size + 1) (by simp) ?_)
          intro g2 c2 w5 hown hgrow hat hlt5
          have OU2 := own_far OU1 hgrow (fun q hq e => (hap.out q e.symm).1 hq)
          have OO2 := own_far OO1 hgrow (fun q hq e => (hap.out q e.symm).2 hq)
          have hb5 := below_grown' hb3 ho1 hwb (Nat.le_refl _) hgrow
          have hown2 : w5.ownsRow w1.heap.size 3 1 (.slice (some ⟨g2, 0, none⟩) (k + 1) c2) (k + 1) ((xs ++ [x]).map (Value.int .i64)) := by rw [List.map_append]; exact hown
          rw [← hrk.out] at hown2
          have hap2 : Hid (∀ q, (Value.slice (some ⟨g2, 0, none⟩) (k + 1) c2).ownBlock = some q → (Value.slice ua zs.length uc).ownBlock ≠ some q ∧ (Value.slice oa ts.length oc).ownBlock ≠ some q) := hide (fun q hq => by
            have e : g2 = q := by simpa [Value.ownBlock] using hq
            subst e
            rcases hat with hat | hat
            · exact hap.out _ hat
            · exact ⟨fun h => by have := bUr _ h; omega, fun h => by have := bOr _ h; omega⟩)
          have hsz5 : w1.heap.size ≤ w5.heap.size := by have := hgrow.size; rw [sz1] at this; omega
          clear hgrow hown ho1 hb3 ho OU OO OU1 OO1 hat hap
          go_wp2
          go_roundw
          case rel => exact ⟨k + 1, by omega, by go_num, hown2, OU2, OO2, hap2, hb5, hsz5⟩
          case measure => simp [intOf]; omega
    · obtain rfl : k = K := by omega
      have hlt' : ¬ ((k : Int) < (k : Int)) := by omega
      have C1 := CU wr OU
      have ho2 := Go.Joins.ownsRow_le ho hwb
      have hlen : Hid (((List.range k).map (fun u => (nodeOf ts) (pick zs u os))).length = k) := hide (by simp)
      clear CU ho
      go_wp2_with fail
      refine C1.mono ?_
      rintro e w3 ⟨rfl, hw⟩
      subst w3
      go_wp2
      go_ret
      exact ⟨_, _, rfl, UnA.congr (hU.out) (fun ps hps => if_neg hps), by rw [hlen.out]; exact ho2, hbw⟩

end Go.Proofs.Ytbnhkkaiohmllaa
