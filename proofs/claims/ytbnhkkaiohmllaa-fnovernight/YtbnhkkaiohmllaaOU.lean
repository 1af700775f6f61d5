/- What the program tells of each unit of Chains. -/
import Derived.Test.YtbnhkkaiohmllaaCH
namespace Go.Proofs.Ytbnhkkaiohmllaa
open Go.RowKit Go.Lib

theorem kmOf_take {ts : List TaskV} {ps : List Nat} {k : Nat} (hk : k < ps.length) : kmOf ts (ps.take (k + 1)) = kmOf ts (ps.take k) + (tkA ts (ps.getD k 0)).p := by
  rw [List.take_succ_eq_append_getElem hk, kmOf_snoc]
  simp [List.getD, hk]
theorem pls_get (ts : List TaskV) (ps : List Nat) {k : Nat} (hk : k < ps.length) : (ps.map (plOf ts)).getD k PlV.zero = plOf ts (ps.getD k 0) := by simp [List.getD, hk]
theorem right_take {ts : List TaskV} {ps : List Nat} (h : ∀ p ∈ ps, taskB (tkA ts p) = true) (k : Nat) : 0 ≤ kmOf ts (ps.take k) ∧ kmOf ts (ps.take k) ≤ 2000 * ps.length := by
  have := kmOf_bound (ts := ts) (ps := ps.take k) (fun p hp => h p (List.mem_of_mem_take hp))
  rw [List.length_take] at this
  omega
theorem right_get {ts : List TaskV} {ps : List Nat} (h : ∀ p ∈ ps, taskB (tkA ts p) = true) {k : Nat} (hk : k < ps.length) : 0 ≤ (tkA ts (ps.getD k 0)).p ∧ (tkA ts (ps.getD k 0)).p ≤ 2000 := by
  have hm : ps.getD k 0 ∈ ps := by rw [show ps.getD k 0 = ps[k] by simp [List.getD, hk]]; exact List.getElem_mem hk
  have := taskB_iff.1 (h _ hm)
  omega
theorem dueOf_drop {ts : List TaskV} {lim s : Int} {ps : List Nat} {k : Nat} (hk : k < ps.length) : dueOf ts lim s (ps.drop k) = if lim < s + (tkA ts (ps.getD k 0)).p then ((ps.getD k 0 : Nat) : Int) else dueOf ts lim (s + (tkA ts (ps.getD k 0)).p) (ps.drop (k + 1)) := by
  rw [List.drop_eq_getElem_cons hk, dueOf]
  simp [List.getD, hk]

set_option maxHeartbeats 1600000 in
theorem cKm (a : Option Addr) (cap : Nat) (ts : List TaskV) (ps : List Nat) (w : World) (hz : Pls w a (ps.map (plOf ts))) (hr : ∀ p ∈ ps, taskB (tkA ts p) = true) (hl : ps.length ≤ 40) :
    Calls Try.prog 65 #[.slice a ps.length cap] w fun e w' => e = .returned (.int .i64 (kmOf ts ps)) ∧ Below w.heap.size w w' := by
  have hR := hide (right_take hr)
  have hG := hide (fun k (hk : k < ps.length) => right_get hr hk)
  clear hr
  go_enter Try.func65, Try.ntmps65
  go_wp2
  go_loopw [3, 8] (fun s i wr => ∃ k : Nat, k ≤ ps.length ∧ s = .int .i64 (kmOf ts (ps.take k)) ∧ i = .int .i64 k ∧ Below w.heap.size w wr) (fun _ i _ => ps.length - (intOf i).toNat)
  case atStart => exact ⟨0, Nat.zero_le _, by simp [kmOf], rfl, Below.refl _ _⟩
  case round =>
    obtain ⟨k, hk, rfl, rfl, hb⟩ := hrel
    by_cases hlt : k < ps.length
    · have hlt' : (k : Int) < (ps.length : Int) := by omega
      rcases hz with h | ⟨b, off, rfl, hc⟩
      · have : ps.length = 0 := by simpa using congrArg List.length h
        omega
      obtain ⟨q0, q1, q2, q3, q4, q5⟩ := hc k (by rw [List.length_map]; exact hlt)
      rw [pls_get ts ps hlt] at q0 q1 q2 q3 q4 q5
      replace q0 := ble hb q0
      replace q1 := ble hb q1
      replace q2 := ble hb q2
      replace q3 := ble hb q3
      replace q4 := ble hb q4
      replace q5 := ble hb q5
      have hT := hide (kmOf_take (ts := ts) hlt)
      have hb1 := hR.out k
      have hb2 := hG.out k hlt
      unfold plOf at q0 q1 q2 q3 q4 q5
      dsimp only at q0 q1 q2 q3 q4 q5
      generalize ps.getD k 0 = o at *
      generalize tkA ts o = y at *
      obtain ⟨ye, yd, yf, yt, yp⟩ := y
      dsimp only at *
      generalize kmOf ts (ps.take k) = s at *
      have hb3 := btrans hb (balloc wr (.cells #[.int .i64 ye, .int .i64 yd, .int .i64 yf, .int .i64 yt, .int .i64 yp, .int .i64 o] 68))
      have hw : IntKind.i64.wrap (s + yp) = s + yp := wrap_in _ (by omega) (by omega)
      clear hc
      go_wp2
      go_roundw
      case rel => exact ⟨k + 1, by omega, by rw [hT.out], by go_num, hb3⟩
      case measure => simp [intOf]; omega
    · obtain rfl : k = ps.length := by omega
      have hf := hide (show kmOf ts (ps.take ps.length) = kmOf ts ps by rw [List.take_length])
      clear hz
      go_wp2
      go_ret
      exact ⟨ret_int hf.out, hb⟩

set_option maxHeartbeats 1600000 in
theorem cDueB (a : Option Addr) (cap : Nat) (ts : List TaskV) (ps : List Nat) (lim : Int) (w : World) (hz : Pls w a (ps.map (plOf ts))) (hr : ∀ p ∈ ps, taskB (tkA ts p) = true) (hl : ps.length ≤ 40) :
    Calls Try.prog 70 #[.slice a ps.length cap, .int .i64 lim] w fun e w' => e = .returned (.int .i64 (dueOf ts lim 0 ps)) ∧ Below w.heap.size w w' := by
  have hG := hide (fun k (hk : k < ps.length) => right_get hr hk)
  clear hr
  generalize hres : dueOf ts lim 0 ps = res
  have hr0 : Hid (dueOf ts lim 0 (ps.drop 0) = res) := hide (by rw [List.drop_zero]; exact hres)
  clear hres
  go_enter Try.func70, Try.ntmps70
  go_wp2
  go_loopw [5, 10] (fun s i wr => ∃ (k : Nat) (sm : Int), k ≤ ps.length ∧ s = .int .i64 sm ∧ i = .int .i64 k ∧ Hid (dueOf ts lim sm (ps.drop k) = res) ∧ 0 ≤ sm ∧ sm ≤ 2000 * k ∧ Below w.heap.size w wr) (fun _ i _ => ps.length - (intOf i).toNat)
  case atStart => exact ⟨0, 0, Nat.zero_le _, rfl, rfl, hr0, by omega, by omega, Below.refl _ _⟩
  case round =>
    obtain ⟨k, s, hk, rfl, rfl, hD, hs0, hs1, hb⟩ := hrel
    clear hr0
    by_cases hlt : k < ps.length
    · have hlt' : (k : Int) < (ps.length : Int) := by omega
      rcases hz with h | ⟨b, off, rfl, hc⟩
      · have : ps.length = 0 := by simpa using congrArg List.length h
        omega
      obtain ⟨q0, q1, q2, q3, q4, q5⟩ := hc k (by rw [List.length_map]; exact hlt)
      rw [pls_get ts ps hlt] at q0 q1 q2 q3 q4 q5
      replace q0 := ble hb q0
      replace q1 := ble hb q1
      replace q2 := ble hb q2
      replace q3 := ble hb q3
      replace q4 := ble hb q4
      replace q5 := ble hb q5
      have hT := hide ((dueOf_drop (ts := ts) (lim := lim) (s := s) hlt).symm.trans hD.out)
      have hb2 := hG.out k hlt
      unfold plOf at q0 q1 q2 q3 q4 q5
      dsimp only at q0 q1 q2 q3 q4 q5
      generalize ps.getD k 0 = o at *
      generalize tkA ts o = y at *
      obtain ⟨ye, yd, yf, yt, yp⟩ := y
      dsimp only at *
      have hb3 := btrans hb (balloc wr (.cells #[.int .i64 ye, .int .i64 yd, .int .i64 yf, .int .i64 yt, .int .i64 yp, .int .i64 o] 68))
      have hw : IntKind.i64.wrap (s + yp) = s + yp := wrap_in _ (by omega) (by omega)
      clear hc
      by_cases hd : lim < s + yp
      · have hf := hide (show res = (o : Int) by rw [← hT.out, if_pos hd])
        clear hT hD
        go_wp2
        go_ret
        exact ⟨ret_int hf.out.symm, hb3⟩
      · have hf := hide (show dueOf ts lim (s + yp) (ps.drop (k + 1)) = res by rw [← hT.out, if_neg hd])
        clear hT hD
        go_wp2
        go_roundw
        case rel => exact ⟨k + 1, s + yp, by omega, rfl, by go_num, hf, by omega, by omega, hb3⟩
        case measure => simp [intOf]; omega
    · obtain rfl : k = ps.length := by omega
      have hf := hide (show res = -1 by rw [← hD.out, List.drop_length]; rfl)
      clear hz hD
      go_wp2
      go_ret
      exact ⟨ret_int hf.out.symm, hb⟩

set_option maxRecDepth 20000 in
set_option maxHeartbeats 1600000 in
theorem cNightN (a : Option Addr) (cap : Nat) (ts : List TaskV) (ps : List Nat) (w : World) (hz : Pls w a (ps.map (plOf ts))) (h0 : 0 < ps.length) (hl : ps.length ≤ 40) :
    Calls Try.prog 66 #[.slice a ps.length cap] w fun e w' => e = .returned (.int .i64 (nightOf ts ps)) ∧ Below w.heap.size w w' := by
  have CL := cLast a cap (ps.map (plOf ts)) w hz (by rw [List.length_map]; exact h0) (by rw [List.length_map]; omega)
  have e : (lastP (ps.map (plOf ts))).u = tkA ts (ps.getLastD 0) := by
    unfold lastP
    rw [List.getLastD_eq_getLast?, List.getLastD_eq_getLast?, List.getLast?_map]
    cases hg : ps.getLast? with
    | none => rw [List.getLast?_eq_none_iff] at hg; subst hg; simp at h0
    | some x => rfl
  rw [e, List.length_map] at CL
  have hN : Hid (nightOf ts ps = (tkA ts (ps.getLastD 0)).d) := rfl
  generalize tkA ts (ps.getLastD 0) = y at *
  obtain ⟨ye, yd, yf, yt, yp⟩ := y
  unfold TaskV.val at CL
  dsimp only at *
  clear e
  have hfd : ∀ w, (Instr.field 32 (.agg #[.int .i64 ye, .int .i64 yd, .int .i64 yf, .int .i64 yt, .int .i64 yp]) 1).run Try.prog w = .ok (.int .i64 yd) w := fun _ => by kernel_rfl
  go_enter Try.func66, Try.ntmps66
  go_wp2_with fail
  refine CL.mono ?_
  rintro e w1 ⟨rfl, hb⟩
  go_wp2
  go_ret
  exact ⟨ret_int hN.out.symm, hb⟩

set_option maxRecDepth 20000 in
set_option maxHeartbeats 3200000 in
theorem cOfKm (tell : List Nat → Int) (a : Option Addr) (cap : Nat) (ts : List TaskV) (n : Int) (w : World) (hz : Tasks w a ts) (hl : ts.length ≤ 1048576)
    (CT : ∀ (ps : List Nat) (va : Option Addr) (vc : Nat) (V : World), Pls V va (ps.map (plOf ts)) → (∀ p ∈ ps, taskB (tkA ts p) = true) → ps.length ≤ 40 → 0 < ps.length → Below w.heap.size w V → Calls Try.prog 65 #[.slice va ps.length vc] V fun e w' => e = .returned (.int .i64 (tell ps)) ∧ Below V.heap.size V w') :
    Calls Try.prog 64 #[.slice a ts.length cap, .int .i64 n, .func (.func 65) #[] #[]] w (AnsZ (UnA ts n tell) w) := by
  obtain ⟨i0, hi, hz0, hz1, hz2⟩ := info_parts infoInts
  go_enter Try.func64, Try.ntmps64
  go_wp2_with fail
  refine (cChained a cap ts n _ hz hl).mono ?_
  rintro e w1 ⟨r, m, zs, h, vu, vr, vs, rfl, hR, hA, hb⟩
  obtain ⟨⟨c0, c1, c2⟩, -⟩ := blk3 hR.blk
  obtain ⟨ra, rc, rfl⟩ := own_form hR.hr
  have hU : Hid (UnA ts n tell ((List.range (nU h)).map (fun u => tell (runU h u)))) := hide (by
    rcases hA with ⟨h1, h2, h3⟩ | ⟨h1, os, h2, h3, h4⟩
    · exact .inl ⟨h1, by rw [h2]; rfl⟩
    · exact .inr ⟨h1, os, h, h2, h3, rfl⟩)
  have hP : Hid (∀ u, u < nU h → (∀ p ∈ runU h u, taskB (tkA ts p) = true) ∧ (runU h u).length ≤ 40 ∧ 0 < (runU h u).length) := hide (by
    intro u hu
    rcases hA with ⟨h1, h2, h3⟩ | ⟨h1, os, h2, h3, h4⟩
    · subst h2; simp [nU] at hu
    · have h5 : ts.length ≤ 40 ∧ ts.all taskB = true := by simp only [Bool.and_eq_true, tasksB, decide_eq_true_eq] at h1; exact h1.1
      refine ⟨fun p hp => tkA_ok h5.2 ?_, ?_, List.length_pos_iff.2 (h3.full u hu)⟩
      · exact (h2.2 p).1 (by rw [← h3.places]; exact List.mem_map.2 ⟨_, runU_mem.1 hp, rfl⟩)
      · have h6 := runU_le h u
        have h7 := congrArg List.length h3.places
        rw [List.length_map] at h7
        have h8 := h2.len
        omega)
  have hn40 : nU h ≤ 40 := by
    rcases hA with ⟨h1, h2, h3⟩ | ⟨h1, os, h2, h3, h4⟩
    · subst h2; simp [nU]
    · have h5 : ts.length ≤ 40 := by simp only [Bool.and_eq_true, tasksB, decide_eq_true_eq] at h1; exact h1.1.1
      have h6 := h3.nU_le
      have h7 := congrArg List.length h3.places
      rw [List.length_map] at h7
      have h8 := h2.len
      omega
  clear hA
  generalize hMM : nU h = M at *
  replace hMM := hide hMM
  go_wp2
  go_loopw [7, 17] (fun v i wr => ∃ k : Nat, k ≤ M ∧ i = .int .i64 k ∧ wr.ownsRow w1.heap.size 3 1 v k (((List.range k).map (fun u => tell (runU h u))).map (Value.int .i64)) ∧ Below w1.heap.size w1 wr) (fun _ i _ => M - (intOf i).toNat)
  case atStart => exact ⟨0, Nat.zero_le _, rfl, World.ownsRow_nil _ _ _ _, Below.refl _ _⟩
  case round =>
    obtain ⟨k, hk, rfl, ho, hbr⟩ := hrel
    obtain ⟨ta, tc, rfl⟩ := own_form ho
    by_cases hlt : k < M
    · have hlt' : (k : Int) < (M : Int) := by omega
      have RR := hR.below hbr
      have hlv := RR.len
      obtain ⟨va, hv⟩ : ∃ va, vs[k]? = some va := ⟨vs[k]'(by omega), List.getElem?_eq_getElem (by omega)⟩
      obtain ⟨gr, cap2, hra, hgrb, hgrl⟩ := RR.hr.form (by omega)
      simp only [Value.slice.injEq, true_and] at hra
      obtain ⟨rfl, rfl⟩ := hra
      have q1 : wr.cell? ⟨gr, k, none⟩ = some va := by rw [RR.hr.cellAt k (by omega)]; exact hv
      have hev := RR.each k va hv
      obtain ⟨ea, ec, rfl⟩ := own_form hev
      obtain ⟨p1, p2, p3⟩ := hP.out k hlt
      have C1 := CT (runU h k) ea ec wr (Pls.own hev) p1 p2 p3 (btrans hb hbr)
      have hrk : Hid ((List.range (k + 1)).map (fun u => tell (runU h u)) = (List.range k).map (fun u => tell (runU h u)) ++ [tell (runU h k)]) := hide (by rw [List.range_succ, List.map_append]; rfl)
      clear CT p1
      generalize tell (runU h k) = x at *
      generalize (List.range k).map (fun u => tell (runU h u)) = xs at *
      go_wp2_with fail
      refine C1.mono ?_
      rintro e w2 ⟨rfl, hb2⟩
      have ho1 := own_keep (own_keep ho hb2) (balloc w2 (.cells #[.int .i64 x] 3))
      have hb3 := btrans (btrans hbr hb2) (balloc w2 (.cells #[.int .i64 x] 3))
      have hsz := (btrans hbr hb2).size
      clear RR hev C1 q1 hv
      go_wp2_with (at_builtin; refine wpList_append_own _ rfl _ _ 27 rfl w1.heap.size 3 i0 _ 1 8 Try.underlying27 hi hz0 hz1 hz2 rfl (by decide) _ _ _ rfl ho1 ⟨w2.heap.size, 0, none⟩ 1 1 [.int .i64 x] rfl rfl ?c1 ?c2 ?c3 ?c4 ?c5 ?_)
      case c1 => exact World.news_of_block (heap_alloc_new w2 _)
      case c2 => simp [Value.oneCell']
      case c3 => unfold maxLen; omega
      case c4 => omega
      case c5 => simp; omega
      intro v2 w5 hown hgrow _
      have hb5 := hb3.grown hgrow hb3.size (own_from ho1 (Nat.le_refl _))
      have hown2 : w5.ownsRow w1.heap.size 3 1 v2 (k + 1) ((xs ++ [x]).map (Value.int .i64)) := by rw [List.map_append]; exact hown
      rw [← hrk.out] at hown2
      obtain ⟨v2a, v2c, rfl⟩ := own_form hown2
      clear hgrow hown ho1 hb3 ho hb2
      go_wp2
      go_roundw
      case rel => exact ⟨k + 1, by omega, by go_num, hown2, hb5⟩
      case measure => simp [intOf]; omega
    · obtain rfl : k = M := by omega
      have hlt' : ¬ ((k : Int) < (k : Int)) := by omega
      have ho2 := Go.Joins.ownsRow_le ho hb.size
      have hb3 := btrans hb hbr
      have hlen : Hid (((List.range k).map (fun u => tell (runU h u))).length = k) := hide (by simp)
      clear CT ho
      go_wp2
      go_ret
      exact ⟨_, _, rfl, hU.out, by rw [hlen.out]; exact ho2, hb3⟩

set_option maxRecDepth 20000 in
set_option maxHeartbeats 3200000 in
theorem cOfNight (tell : List Nat → Int) (a : Option Addr) (cap : Nat) (ts : List TaskV) (n : Int) (w : World) (hz : Tasks w a ts) (hl : ts.length ≤ 1048576)
    (CT : ∀ (ps : List Nat) (va : Option Addr) (vc : Nat) (V : World), Pls V va (ps.map (plOf ts)) → (∀ p ∈ ps, taskB (tkA ts p) = true) → ps.length ≤ 40 → 0 < ps.length → Below w.heap.size w V → Calls Try.prog 66 #[.slice va ps.length vc] V fun e w' => e = .returned (.int .i64 (tell ps)) ∧ Below V.heap.size V w') :
    Calls Try.prog 64 #[.slice a ts.length cap, .int .i64 n, .func (.func 66) #[] #[]] w (AnsZ (UnA ts n tell) w) := by
  obtain ⟨i0, hi, hz0, hz1, hz2⟩ := info_parts infoInts
  go_enter Try.func64, Try.ntmps64
  go_wp2_with fail
  refine (cChained a cap ts n _ hz hl).mono ?_
  rintro e w1 ⟨r, m, zs, h, vu, vr, vs, rfl, hR, hA, hb⟩
  obtain ⟨⟨c0, c1, c2⟩, -⟩ := blk3 hR.blk
  obtain ⟨ra, rc, rfl⟩ := own_form hR.hr
  have hU : Hid (UnA ts n tell ((List.range (nU h)).map (fun u => tell (runU h u)))) := hide (by
    rcases hA with ⟨h1, h2, h3⟩ | ⟨h1, os, h2, h3, h4⟩
    · exact .inl ⟨h1, by rw [h2]; rfl⟩
    · exact .inr ⟨h1, os, h, h2, h3, rfl⟩)
  have hP : Hid (∀ u, u < nU h → (∀ p ∈ runU h u, taskB (tkA ts p) = true) ∧ (runU h u).length ≤ 40 ∧ 0 < (runU h u).length) := hide (by
    intro u hu
    rcases hA with ⟨h1, h2, h3⟩ | ⟨h1, os, h2, h3, h4⟩
    · subst h2; simp [nU] at hu
    · have h5 : ts.length ≤ 40 ∧ ts.all taskB = true := by simp only [Bool.and_eq_true, tasksB, decide_eq_true_eq] at h1; exact h1.1
      refine ⟨fun p hp => tkA_ok h5.2 ?_, ?_, List.length_pos_iff.2 (h3.full u hu)⟩
      · exact (h2.2 p).1 (by rw [← h3.places]; exact List.mem_map.2 ⟨_, runU_mem.1 hp, rfl⟩)
      · have h6 := runU_le h u
        have h7 := congrArg List.length h3.places
        rw [List.length_map] at h7
        have h8 := h2.len
        omega)
  have hn40 : nU h ≤ 40 := by
    rcases hA with ⟨h1, h2, h3⟩ | ⟨h1, os, h2, h3, h4⟩
    · subst h2; simp [nU]
    · have h5 : ts.length ≤ 40 := by simp only [Bool.and_eq_true, tasksB, decide_eq_true_eq] at h1; exact h1.1.1
      have h6 := h3.nU_le
      have h7 := congrArg List.length h3.places
      rw [List.length_map] at h7
      have h8 := h2.len
      omega
  clear hA
  generalize hMM : nU h = M at *
  replace hMM := hide hMM
  go_wp2
  go_loopw [7, 17] (fun v i wr => ∃ k : Nat, k ≤ M ∧ i = .int .i64 k ∧ wr.ownsRow w1.heap.size 3 1 v k (((List.range k).map (fun u => tell (runU h u))).map (Value.int .i64)) ∧ Below w1.heap.size w1 wr) (fun _ i _ => M - (intOf i).toNat)
  case atStart => exact ⟨0, Nat.zero_le _, rfl, World.ownsRow_nil _ _ _ _, Below.refl _ _⟩
  case round =>
    obtain ⟨k, hk, rfl, ho, hbr⟩ := hrel
    obtain ⟨ta, tc, rfl⟩ := own_form ho
    by_cases hlt : k < M
    · have hlt' : (k : Int) < (M : Int) := by omega
      have RR := hR.below hbr
      have hlv := RR.len
      obtain ⟨va, hv⟩ : ∃ va, vs[k]? = some va := ⟨vs[k]'(by omega), List.getElem?_eq_getElem (by omega)⟩
      obtain ⟨gr, cap2, hra, hgrb, hgrl⟩ := RR.hr.form (by omega)
      simp only [Value.slice.injEq, true_and] at hra
      obtain ⟨rfl, rfl⟩ := hra
      have q1 : wr.cell? ⟨gr, k, none⟩ = some va := by rw [RR.hr.cellAt k (by omega)]; exact hv
      have hev := RR.each k va hv
      obtain ⟨ea, ec, rfl⟩ := own_form hev
      obtain ⟨p1, p2, p3⟩ := hP.out k hlt
      have C1 := CT (runU h k) ea ec wr (Pls.own hev) p1 p2 p3 (btrans hb hbr)
      have hrk : Hid ((List.range (k + 1)).map (fun u => tell (runU h u)) = (List.range k).map (fun u => tell (runU h u)) ++ [tell (runU h k)]) := hide (by rw [List.range_succ, List.map_append]; rfl)
      clear CT p1
      generalize tell (runU h k) = x at *
      generalize (List.range k).map (fun u => tell (runU h u)) = xs at *
      go_wp2_with fail
      refine C1.mono ?_
      rintro e w2 ⟨rfl, hb2⟩
      have ho1 := own_keep (own_keep ho hb2) (balloc w2 (.cells #[.int .i64 x] 3))
      have hb3 := btrans (btrans hbr hb2) (balloc w2 (.cells #[.int .i64 x] 3))
      have hsz := (btrans hbr hb2).size
      clear RR hev C1 q1 hv
      go_wp2_with (at_builtin; refine wpList_append_own _ rfl _ _ 27 rfl w1.heap.size 3 i0 _ 1 8 Try.underlying27 hi hz0 hz1 hz2 rfl (by decide) _ _ _ rfl ho1 ⟨w2.heap.size, 0, none⟩ 1 1 [.int .i64 x] rfl rfl ?c1 ?c2 ?c3 ?c4 ?c5 ?_)
      case c1 => exact World.news_of_block (heap_alloc_new w2 _)
      case c2 => simp [Value.oneCell']
      case c3 => unfold maxLen; omega
      case c4 => omega
      case c5 => simp; omega
      intro v2 w5 hown hgrow _
      have hb5 := hb3.grown hgrow hb3.size (own_from ho1 (Nat.le_refl _))
      have hown2 : w5.ownsRow w1.heap.size 3 1 v2 (k + 1) ((xs ++ [x]).map (Value.int .i64)) := by rw [List.map_append]; exact hown
      rw [← hrk.out] at hown2
      obtain ⟨v2a, v2c, rfl⟩ := own_form hown2
      clear hgrow hown ho1 hb3 ho hb2
      go_wp2
      go_roundw
      case rel => exact ⟨k + 1, by omega, by go_num, hown2, hb5⟩
      case measure => simp [intOf]; omega
    · obtain rfl : k = M := by omega
      have hlt' : ¬ ((k : Int) < (k : Int)) := by omega
      have ho2 := Go.Joins.ownsRow_le ho hb.size
      have hb3 := btrans hb hbr
      have hlen : Hid (((List.range k).map (fun u => tell (runU h u))).length = k) := hide (by simp)
      clear CT ho
      go_wp2
      go_ret
      exact ⟨_, _, rfl, hU.out, by rw [hlen.out]; exact ho2, hb3⟩

set_option maxRecDepth 20000 in
set_option maxHeartbeats 3200000 in
theorem cOfDue (lb : Nat) (tell : List Nat → Int) (a : Option Addr) (cap : Nat) (ts : List TaskV) (n : Int) (w : World) (hz : Tasks w a ts) (hl : ts.length ≤ 1048576)
    (CT : ∀ (ps : List Nat) (va : Option Addr) (vc : Nat) (V : World), Pls V va (ps.map (plOf ts)) → (∀ p ∈ ps, taskB (tkA ts p) = true) → ps.length ≤ 40 → 0 < ps.length → Below w.heap.size w V → Calls Try.prog 69 #[.slice va ps.length vc, .pointer (some ⟨lb, 0, none⟩)] V fun e w' => e = .returned (.int .i64 (tell ps)) ∧ Below V.heap.size V w') :
    Calls Try.prog 64 #[.slice a ts.length cap, .int .i64 n, .func (.func 69) #[] #[.pointer (some ⟨lb, 0, none⟩)]] w (AnsZ (UnA ts n tell) w) := by
  obtain ⟨i0, hi, hz0, hz1, hz2⟩ := info_parts infoInts
  go_enter Try.func64, Try.ntmps64
  go_wp2_with fail
  refine (cChained a cap ts n _ hz hl).mono ?_
  rintro e w1 ⟨r, m, zs, h, vu, vr, vs, rfl, hR, hA, hb⟩
  obtain ⟨⟨c0, c1, c2⟩, -⟩ := blk3 hR.blk
  obtain ⟨ra, rc, rfl⟩ := own_form hR.hr
  have hU : Hid (UnA ts n tell ((List.range (nU h)).map (fun u => tell (runU h u)))) := hide (by
    rcases hA with ⟨h1, h2, h3⟩ | ⟨h1, os, h2, h3, h4⟩
    · exact .inl ⟨h1, by rw [h2]; rfl⟩
    · exact .inr ⟨h1, os, h, h2, h3, rfl⟩)
  have hP : Hid (∀ u, u < nU h → (∀ p ∈ runU h u, taskB (tkA ts p) = true) ∧ (runU h u).length ≤ 40 ∧ 0 < (runU h u).length) := hide (by
    intro u hu
    rcases hA with ⟨h1, h2, h3⟩ | ⟨h1, os, h2, h3, h4⟩
    · subst h2; simp [nU] at hu
    · have h5 : ts.length ≤ 40 ∧ ts.all taskB = true := by simp only [Bool.and_eq_true, tasksB, decide_eq_true_eq] at h1; exact h1.1
      refine ⟨fun p hp => tkA_ok h5.2 ?_, ?_, List.length_pos_iff.2 (h3.full u hu)⟩
      · exact (h2.2 p).1 (by rw [← h3.places]; exact List.mem_map.2 ⟨_, runU_mem.1 hp, rfl⟩)
      · have h6 := runU_le h u
        have h7 := congrArg List.length h3.places
        rw [List.length_map] at h7
        have h8 := h2.len
        omega)
  have hn40 : nU h ≤ 40 := by
    rcases hA with ⟨h1, h2, h3⟩ | ⟨h1, os, h2, h3, h4⟩
    · subst h2; simp [nU]
    · have h5 : ts.length ≤ 40 := by simp only [Bool.and_eq_true, tasksB, decide_eq_true_eq] at h1; exact h1.1.1
      have h6 := h3.nU_le
      have h7 := congrArg List.length h3.places
      rw [List.length_map] at h7
      have h8 := h2.len
      omega
  clear hA
  generalize hMM : nU h = M at *
  replace hMM := hide hMM
  go_wp2
  go_loopw [7, 17] (fun v i wr => ∃ k : Nat, k ≤ M ∧ i = .int .i64 k ∧ wr.ownsRow w1.heap.size 3 1 v k (((List.range k).map (fun u => tell (runU h u))).map (Value.int .i64)) ∧ Below w1.heap.size w1 wr) (fun _ i _ => M - (intOf i).toNat)
  case atStart => exact ⟨0, Nat.zero_le _, rfl, World.ownsRow_nil _ _ _ _, Below.refl _ _⟩
  case round =>
    obtain ⟨k, hk, rfl, ho, hbr⟩ := hrel
    obtain ⟨ta, tc, rfl⟩ := own_form ho
    by_cases hlt : k < M
    · have hlt' : (k : Int) < (M : Int) := by omega
      have RR := hR.below hbr
      have hlv := RR.len
      obtain ⟨va, hv⟩ : ∃ va, vs[k]? = some va := ⟨vs[k]'(by omega), List.getElem?_eq_getElem (by omega)⟩
      obtain ⟨gr, cap2, hra, hgrb, hgrl⟩ := RR.hr.form (by omega)
      simp only [Value.slice.injEq, true_and] at hra
      obtain ⟨rfl, rfl⟩ := hra
      have q1 : wr.cell? ⟨gr, k, none⟩ = some va := by rw [RR.hr.cellAt k (by omega)]; exact hv
      have hev := RR.each k va hv
      obtain ⟨ea, ec, rfl⟩ := own_form hev
      obtain ⟨p1, p2, p3⟩ := hP.out k hlt
      have C1 := CT (runU h k) ea ec wr (Pls.own hev) p1 p2 p3 (btrans hb hbr)
      have hrk : Hid ((List.range (k + 1)).map (fun u => tell (runU h u)) = (List.range k).map (fun u => tell (runU h u)) ++ [tell (runU h k)]) := hide (by rw [List.range_succ, List.map_append]; rfl)
      clear CT p1
      generalize tell (runU h k) = x at *
      generalize (List.range k).map (fun u => tell (runU h u)) = xs at *
      go_wp2_with fail
      refine C1.mono ?_
      rintro e w2 ⟨rfl, hb2⟩
      have ho1 := own_keep (own_keep ho hb2) (balloc w2 (.cells #[.int .i64 x] 3))
      have hb3 := btrans (btrans hbr hb2) (balloc w2 (.cells #[.int .i64 x] 3))
      have hsz := (btrans hbr hb2).size
      clear RR hev C1 q1 hv
      go_wp2_with (at_builtin; refine wpList_append_own _ rfl _ _ 27 rfl w1.heap.size 3 i0 _ 1 8 Try.underlying27 hi hz0 hz1 hz2 rfl (by decide) _ _ _ rfl ho1 ⟨w2.heap.size, 0, none⟩ 1 1 [.int .i64 x] rfl rfl ?c1 ?c2 ?c3 ?c4 ?c5 ?_)
      case c1 => exact World.news_of_block (heap_alloc_new w2 _)
      case c2 => simp [Value.oneCell']
      case c3 => unfold maxLen; omega
      case c4 => omega
      case c5 => simp; omega
      intro v2 w5 hown hgrow _
      have hb5 := hb3.grown hgrow hb3.size (own_from ho1 (Nat.le_refl _))
      have hown2 : w5.ownsRow w1.heap.size 3 1 v2 (k + 1) ((xs ++ [x]).map (Value.int .i64)) := by rw [List.map_append]; exact hown
      rw [← hrk.out] at hown2
      obtain ⟨v2a, v2c, rfl⟩ := own_form hown2
      clear hgrow hown ho1 hb3 ho hb2
      go_wp2
      go_roundw
      case rel => exact ⟨k + 1, by omega, by go_num, hown2, hb5⟩
      case measure => simp [intOf]; omega
    · obtain rfl : k = M := by omega
      have hlt' : ¬ ((k : Int) < (k : Int)) := by omega
      have ho2 := Go.Joins.ownsRow_le ho hb.size
      have hb3 := btrans hb hbr
      have hlen : Hid (((List.range k).map (fun u => tell (runU h u))).length = k) := hide (by simp)
      clear CT ho
      go_wp2
      go_ret
      exact ⟨_, _, rfl, hU.out, by rw [hlen.out]; exact ho2, hb3⟩

set_option maxHeartbeats 1600000 in
theorem cMilI (a : Option Addr) (cap : Nat) (ts : List TaskV) (n : Int) (w : World) (hz : Tasks w a ts) (hl : ts.length ≤ 1048576) :
    Calls Try.prog 23 #[.slice a ts.length cap, .int .i64 n] w (AnsZ (UnA ts n (kmOf ts)) w) := by
  have C := cOfKm (kmOf ts) a cap ts n w hz hl (fun ps va vc V h1 h2 h3 _ _ => cKm va vc ts ps V h1 h2 h3)
  go_enter Try.func23, Try.ntmps23
  go_wp2_with fail
  refine C.mono ?_
  rintro e w1 ⟨v, zs, rfl, h1, h2, h3⟩
  obtain ⟨ua, uc, rfl⟩ := own_form h2
  go_wp2
  go_ret
  exact ⟨_, zs, rfl, h1, h2, h3⟩

set_option maxHeartbeats 1600000 in
theorem cNightI (a : Option Addr) (cap : Nat) (ts : List TaskV) (n : Int) (w : World) (hz : Tasks w a ts) (hl : ts.length ≤ 1048576) :
    Calls Try.prog 26 #[.slice a ts.length cap, .int .i64 n] w (AnsZ (UnA ts n (nightOf ts)) w) := by
  have C := cOfNight (nightOf ts) a cap ts n w hz hl (fun ps va vc V h1 _ h3 h4 _ => cNightN va vc ts ps V h1 h4 h3)
  go_enter Try.func26, Try.ntmps26
  go_wp2_with fail
  refine C.mono ?_
  rintro e w1 ⟨v, zs, rfl, h1, h2, h3⟩
  obtain ⟨ua, uc, rfl⟩ := own_form h2
  go_wp2
  go_ret
  exact ⟨_, zs, rfl, h1, h2, h3⟩

/-- What Due answers. -/
def DueA (ts : List TaskV) (n lim : Int) (zs : List Int) : Prop := (inB lim 0 1000000 = false ∧ zs = []) ∨ (inB lim 0 1000000 = true ∧ UnA ts n (dueOf ts lim 0) zs)
theorem DueA.uniq {ts : List TaskV} {n lim : Int} {a b : List Int} (h : DueA ts n lim a) (g : DueA ts n lim b) : a = b := by
  rcases h with ⟨h1, h2⟩ | ⟨h1, h2⟩ <;> rcases g with ⟨g1, g2⟩ | ⟨g1, g2⟩
  · rw [h2, g2]
  · rw [h1] at g1; cases g1
  · rw [h1] at g1; cases g1
  · exact h2.uniq g2
set_option maxHeartbeats 1600000 in
theorem cDueC (lb : Nat) (a : Option Addr) (cap : Nat) (ts : List TaskV) (ps : List Nat) (lim : Int) (w : World) (hz : Pls w a (ps.map (plOf ts))) (hr : ∀ p ∈ ps, taskB (tkA ts p) = true) (hl : ps.length ≤ 40) (hb : w.cell? ⟨lb, 0, none⟩ = some (.int .i64 lim)) :
    Calls Try.prog 69 #[.slice a ps.length cap, .pointer (some ⟨lb, 0, none⟩)] w fun e w' => e = .returned (.int .i64 (dueOf ts lim 0 ps)) ∧ Below w.heap.size w w' := by
  have C := cDueB a cap ts ps lim w hz hr hl
  go_enter Try.func69, Try.ntmps69
  go_wp2_with fail
  refine C.mono ?_
  rintro e w1 ⟨rfl, h3⟩
  go_wp2
  go_ret
  exact ⟨rfl, h3⟩
set_option maxHeartbeats 1600000 in
theorem cDueI (a : Option Addr) (cap : Nat) (ts : List TaskV) (n lim : Int) (w : World) (hz : Tasks w a ts) (hl : ts.length ≤ 1048576) :
    Calls Try.prog 30 #[.slice a ts.length cap, .int .i64 n, .int .i64 lim] w (AnsZ (DueA ts n lim) w) := by
  have hb := balloc w (.cells #[.int .i64 lim] 3)
  have c0 : (w.alloc (.cells #[.int .i64 lim] 3)).cell? ⟨w.heap.size, 0, none⟩ = some (.int .i64 lim) := blk_at (one_block w _) 0
  have hz1 := hz.below hb
  have C := cOfDue w.heap.size (dueOf ts lim 0) a cap ts n _ hz1 hl (fun ps va vc V h1 h2 h3 _ h5 => cDueC w.heap.size va vc ts ps lim V h1 h2 h3 (ble h5 c0))
  go_enter Try.func30, Try.ntmps30
  go_wp2_with fail
  refine (cWithin lim 0 1000000 _).mono ?_
  rintro e w1 ⟨rfl, hw⟩
  subst w1
  cases hi : inB lim 0 1000000
  · go_wp2
    go_ret
    exact ⟨_, [], rfl, .inl ⟨hi, rfl⟩, World.ownsRow_nil _ _ _ _, hb⟩
  · replace hi := hide hi
    go_wp2_with fail
    refine C.mono ?_
    rintro e w1 ⟨v, zs, rfl, h1, h2, h3⟩
    have h4 := Go.Joins.ownsRow_le h2 hb.size
    have h5 := btrans hb h3
    obtain ⟨ua, uc, rfl⟩ := own_form h2
    clear h2 h3
    go_wp2
    go_ret
    exact ⟨_, zs, rfl, .inr ⟨hi.out, h1⟩, h4, h5⟩
end Go.Proofs.Ytbnhkkaiohmllaa
