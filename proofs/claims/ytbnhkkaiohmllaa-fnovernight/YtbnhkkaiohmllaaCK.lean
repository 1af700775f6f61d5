/- ChainOk of the program: numbers, the choice of units, all runs. -/
import Derived.Test.YtbnhkkaiohmllaaLK
namespace Go.Proofs.Ytbnhkkaiohmllaa
open Go.RowKit Go.Lib

set_option maxHeartbeats 400000 in
theorem cNum39 (x : Int) (w : World) : Calls Try.prog 53 #[.int .i64 x] w fun e w' => e = .returned (.bool (inB x 0 39)) ∧ w' = w := by
  go_enter Try.func53, Try.ntmps53
  go_wp2_with fail
  refine (cWithin x 0 39 _).mono ?_
  rintro e w1 ⟨rfl, hw⟩
  subst w1
  go_wp2
  go_ret
  exact ⟨rfl, rfl⟩
def okU (z : Int) : Bool := inB z 0 39

set_option maxHeartbeats 800000 in
theorem cAllNum (a : Option Addr) (cap : Nat) (zs : List Int) (w : World) (hz : Ints w a zs) (hl : zs.length ≤ 1048576) :
    Calls Try.prog 56 #[.slice a zs.length cap, .func (.func 53) #[] #[]] w fun e w' => e = .returned (.bool (zs.all okU)) ∧ w' = w := by
  generalize hr : zs.all okU = res
  have hr0 : Hid ((zs.drop 0).all okU = res) := hr
  clear hr
  go_enter Try.func56, Try.ntmps56
  go_wp2
  go_loop [9] (fun i => ∃ k : Nat, k ≤ zs.length ∧ i = .int .i64 k ∧ Hid ((zs.drop k).all okU = res)) (fun i => zs.length - (intOf i).toNat)
  case atStart => exact ⟨0, Nat.zero_le _, rfl, hr0⟩
  case round =>
    obtain ⟨k, hk, rfl, hres⟩ := hrel
    clear hr0
    by_cases hlt : k < zs.length
    · rcases hz with h | ⟨b, off, rfl, hc⟩
      · simp [h] at hlt
      have q0 := hc k hlt
      have e0 : zs.getD k 0 = zs[k] := by simp [List.getD, hlt]
      rw [e0] at q0
      have hd := hide ((all_drop (P := okU) hlt).symm.trans hres.out)
      generalize zs[k] = y at *
      clear hc e0 hres
      go_wp2_with fail
      refine (cNum39 y _).mono ?_
      rintro e w1 ⟨rfl, hw⟩
      subst w1
      change Hid ((inB y 0 39 && _) = _) at hd
      cases hy : inB y 0 39
      · have hf := hide (show res = false by rw [← hd.out, hy]; rfl)
        clear hd hy
        go_wp2
        go_ret
        exact ⟨ret_bool hf.out.symm, rfl⟩
      · have hf := hide (show (zs.drop (k + 1)).all okU = res by rw [← hd.out, hy]; rfl)
        clear hd hy
        go_wp2
        go_round
        case rel => exact ⟨k + 1, by omega, by go_num, hf⟩
        case measure => simp [intOf]; omega
    · obtain rfl : k = zs.length := by omega
      have hf := hide (show res = true by rw [← hres.out, List.drop_length]; rfl)
      clear hz
      go_wp2
      go_ret
      exact ⟨ret_bool hf.out.symm, rfl⟩

set_option maxHeartbeats 1600000 in
theorem cChoose (cb r : Nat) (ua : Option Addr) (uc : Nat) (us : List Int) (ts : List TaskV) (t : Nat) (w : World) (hu : Ints w ua us) (ht : t < us.length) (hcb : w.cell? ⟨cb, 0, none⟩ = some (.slice ua us.length uc)) :
    Calls Try.prog 58 #[.pointer (some ⟨r, 0, none⟩), (plOf ts t).val, .pointer (some ⟨cb, 0, none⟩)] w fun e w' => e = .returned (.int .i64 (us.getD t 0)) ∧ Below w.heap.size w w' := by
  have hb := balloc w (.cells (plOf ts t).cs.toArray 68)
  have hX := one_block w (.cells (plOf ts t).cs.toArray 68)
  have hpk : Hid ((plOf ts t).k = (t : Int)) := rfl
  generalize plOf ts t = X at *
  obtain ⟨⟨xe, xd, xf, xt, xp⟩, xk⟩ := X
  have hxk : xk = (t : Int) := hpk.out
  subst hxk
  unfold PlV.val PlV.cs at *
  dsimp only at *
  have hcb1 := ble hb hcb
  have hbl : cb < w.heap.size := cell_lt hcb
  obtain ⟨x0, x1, x2, x3, x4, x5⟩ := pl_parts (x := ⟨⟨xe, xd, xf, xt, xp⟩, t⟩) hX
  dsimp only at x5
  rcases hu with h | ⟨b, off, rfl, hc⟩
  · simp [h] at ht
  have q0 := ble hb (hc t ht)
  have ht' : (t : Int) < (us.length : Int) := by omega
  have hbl2 := cell_lt (hc t ht)
  clear hc x0 x1 x2 x3 x4 hX
  generalize us.getD t 0 = z at *
  go_enter Try.func58, Try.ntmps58
  go_wp2
  go_ret
  exact ⟨rfl, hb⟩

set_option maxHeartbeats 800000 in
theorem cLinkC (nb : Nat) (a : Option Addr) (cap : Nat) (ts : List TaskV) (ps : List Nat) (n : Int) (w : World) (hz : Pls w a (ps.map (plOf ts))) (hl : ps.length ≤ 40) (hb : w.cell? ⟨nb, 0, none⟩ = some (.int .i64 n)) :
    Calls Try.prog 60 #[.slice a ps.length cap, .pointer (some ⟨nb, 0, none⟩)] w fun e w' => e = .returned (.bool (linkB ts n ps)) ∧ Below w.heap.size w w' := by
  have C := cLinked a cap ts ps n w hz hl
  go_enter Try.func60, Try.ntmps60
  go_wp2_with fail
  refine C.mono ?_
  rintro e w1 ⟨rfl, h3⟩
  go_wp2
  go_ret
  exact ⟨rfl, h3⟩
def allL (ts : List TaskV) (n : Int) (h : Hist) (k m : Nat) : Bool := ((List.range m).drop k).all (fun u => linkB ts n (runU h u))
theorem allL_drop {ts : List TaskV} {n : Int} {h : Hist} {k m : Nat} (hk : k < m) : allL ts n h k m = (linkB ts n (runU h k) && allL ts n h (k + 1) m) := by
  unfold allL
  rw [all_drop (P := fun u => linkB ts n (runU h u)) (by simpa using hk)]
  simp
theorem allL_end (ts : List TaskV) (n : Int) (h : Hist) (m : Nat) : allL ts n h m m = true := by
  unfold allL
  rw [List.drop_of_length_le (by simp)]; rfl
theorem allL_iff {ts : List TaskV} {n : Int} {h : Hist} : allL ts n h 0 (nU h) = true ↔ AllLink ts n h := by
  unfold allL AllLink
  rw [List.drop_zero, List.all_eq_true]
  constructor
  · intro g u
    by_cases hu : u < nU h
    · exact g u (List.mem_range.2 hu)
    · rw [runU_beyond (by omega)]; rfl
  · intro g u _; exact g u

set_option maxRecDepth 20000 in
set_option maxHeartbeats 1600000 in
theorem cAllRuns (nb base r : Nat) (ts : List TaskV) (m n : Int) (zs : List Int) (h : Hist) (M : Nat) (vu : Value) (ra : Option Addr) (rc : Nat) (vs : List Value) (w : World) (R : Ros w base r ts m zs h M vu (.slice ra M rc) vs) (hlen : ∀ u, (runU h u).length ≤ 40) (hM : M ≤ 40) (hn : w.cell? ⟨nb, 0, none⟩ = some (.int .i64 n)) :
    Calls Try.prog 59 #[.slice ra M rc, .func (.func 60) #[] #[.pointer (some ⟨nb, 0, none⟩)]] w fun e w' => e = .returned (.bool (allL ts n h 0 M)) ∧ Below w.heap.size w w' := by
  generalize hr : allL ts n h 0 M = res
  have hr0 : Hid (allL ts n h 0 M = res) := hr
  clear hr
  go_enter Try.func59, Try.ntmps59
  go_wp2
  go_loopw [9] (fun i wr => ∃ k : Nat, k ≤ M ∧ i = .int .i64 k ∧ Hid (allL ts n h k M = res) ∧ Below w.heap.size w wr) (fun i _ => M - (intOf i).toNat)
  case atStart => exact ⟨0, Nat.zero_le _, rfl, hr0, Below.refl _ _⟩
  case round =>
    obtain ⟨k, hk, rfl, hD, hb⟩ := hrel
    clear hr0
    by_cases hlt : k < M
    · have hlt' : (k : Int) < (M : Int) := by omega
      have RR := R.below hb
      have hlv := RR.len
      obtain ⟨va, hv⟩ : ∃ va, vs[k]? = some va := ⟨vs[k]'(by omega), List.getElem?_eq_getElem (by omega)⟩
      obtain ⟨gr, cap2, hra, hgrb, hgrl⟩ := RR.hr.form (by omega)
      simp only [Value.slice.injEq, true_and] at hra
      obtain ⟨rfl, rfl⟩ := hra
      have q1 : wr.cell? ⟨gr, k, none⟩ = some va := by rw [RR.hr.cellAt k (by omega)]; exact hv
      have hev := RR.each k va hv
      obtain ⟨ea, ec, rfl⟩ := own_form hev
      have C1 := cLinkC nb ea ec ts (runU h k) n wr (Pls.own hev) (hlen k) (ble hb hn)
      have hT := hide ((allL_drop (ts := ts) (n := n) (h := h) hlt).symm.trans hD.out)
      clear RR hev hv
      go_wp2_with fail
      refine C1.mono ?_
      rintro e w1 ⟨rfl, hb1⟩
      have hb2 := btrans hb hb1
      cases hy : linkB ts n (runU h k)
      · have hf := hide (show res = false by rw [← hT.out, hy]; rfl)
        clear hT hD hy
        go_wp2
        go_ret
        exact ⟨ret_bool hf.out.symm, hb2⟩
      · have hf := hide (show allL ts n h (k + 1) M = res by rw [← hT.out, hy]; rfl)
        clear hT hD hy
        go_wp2
        go_roundw
        case rel => exact ⟨k + 1, by omega, by go_num, hf, hb2⟩
        case measure => simp [intOf]; omega
    · obtain rfl : k = M := by omega
      have hlt' : ¬ ((k : Int) < (k : Int)) := by omega
      have hf := hide (show res = true by rw [← hD.out, allL_end])
      clear hD
      go_wp2
      go_ret
      exact ⟨ret_bool hf.out.symm, hb⟩

set_option maxRecDepth 20000 in
set_option maxHeartbeats 6400000 in
theorem cDealtC (cb : Nat) (a : Option Addr) (cap : Nat) (ts : List TaskV) (n : Int) (Pk : Hist → Nat → Nat → Prop) (w : World) (hz : Tasks w a ts) (hl : ts.length ≤ 40)
    (CC : ∀ (base r : Nat) (zs : List Int) (os : List Nat) (h : Hist) (t : Nat) (vu vr : Value) (vs : List Value) (V : World), Ros V base r ts n zs h (nU h) vu vr vs → Dl Pk os h → t < ts.length → h.length < 40 → Below w.heap.size w V → Calls Try.prog 58 #[.pointer (some ⟨r, 0, none⟩), (plOf ts t).val, .pointer (some ⟨cb, 0, none⟩)] V fun e w' => ∃ u : Nat, e = .returned (.int .i64 u) ∧ Pk h t u ∧ u ≤ 39 ∧ Below V.heap.size V w')
    (hnu : ∀ os h, Dl Pk os h → h.length ≤ 40 → nU h ≤ 40) :
    Calls Try.prog 57 #[.slice a ts.length cap, .int .i64 n, .func (.func 58) #[] #[.pointer (some ⟨cb, 0, none⟩)]] w (DealtPost w ts n Pk) := by
  have hb0 := balloc w (.cells #[.slice none 0 0] 91)
  have hR0 : RkAt (w.alloc (.cells #[.slice none 0 0] 91)) w.heap.size w.heap.size ts 0 (.slice none 0 0) [] := ⟨one_block w _, World.ownsRow_nil _ _ _ _, RkTo.nil ts⟩
  replace hnu := hide hnu
  go_enter Try.func57, Try.ntmps57
  go_wp2
  go_loopw [15] (fun i wr => ∃ (k : Nat) (v : Value) (rs : List PlV), k ≤ ts.length ∧ i = .int .i64 k ∧ RkAt wr w.heap.size w.heap.size ts k v rs ∧ Below w.heap.size w wr) (fun i _ => ts.length - (intOf i).toNat)
  case atStart => exact ⟨0, _, [], Nat.zero_le _, rfl, hR0, hb0⟩
  case round =>
    obtain ⟨k, v, rs, hk, rfl, hR, hb⟩ := hrel
    clear hR0 hb0
    by_cases hlt : k < ts.length
    · have hlt' : (k : Int) < (ts.length : Int) := by omega
      rcases hz with h | ⟨b, off, rfl, hc⟩
      · simp [h] at hlt
      obtain ⟨q0, q1, q2, q3, q4⟩ := hc k hlt
      replace q0 := ble hb q0
      replace q1 := ble hb q1
      replace q2 := ble hb q2
      replace q3 := ble hb q3
      replace q4 := ble hb q4
      have hrl := hR.rk.2.2.2
      have hu : Hid (plOf ts k = ⟨ts.getD k TaskV.zero, k⟩) := rfl
      generalize ts.getD k TaskV.zero = y at *
      obtain ⟨ye, yd, yf, yt, yp⟩ := y
      dsimp only at *
      have hbA := balloc wr (.cells #[.int .i64 ye, .int .i64 yd, .int .i64 yf, .int .i64 yt, .int .i64 yp] 32)
      have hRA := hR.below hbA
      have hb2 := btrans hb hbA
      have CA := cAdd 91 (by decide) w.heap.size w.heap.size 0 #[v] v rs ⟨⟨ye, yd, yf, yt, yp⟩, k⟩ _ hRA.blk rfl hRA.own (by omega) hRA.rk.1 hb2.size
      unfold PlV.val at CA
      dsimp only at CA
      clear hc CC
      go_wp2_with fail
      refine CA.mono ?_
      rintro e w3 ⟨rfl, hA⟩
      have hb3 := hA.below hRA.own hb2 (Nat.le_refl _)
      rw [← hu.out] at hA
      obtain ⟨v', rs', hR3⟩ := hRA.add hA
      clear hA CA hRA hb2 hbA hR hb q0 q1 q2 q3 q4
      go_wp2
      go_roundw
      case rel => exact ⟨k + 1, v', rs', by omega, by go_num, hR3, hb3⟩
      case measure => simp [intOf]; omega
    · obtain rfl : k = ts.length := by omega
      have hlt' : ¬ ((ts.length : Int) < (ts.length : Int)) := by omega
      obtain ⟨os, hO, hrs⟩ := hR.rk.ord
      have hol := hO.len
      have c0 : wr.cell? ⟨w.heap.size, 0, none⟩ = some v := blk_at hR.blk 0
      have hown := hR.own
      rw [hrs, List.length_map, hol] at hown
      obtain ⟨va, vc, rfl⟩ := own_form hown
      have hP := Pls.own hown
      obtain ⟨i0, hi, hz0, hz1, hz2⟩ := info_parts infoInts
      have hwl : w.heap.size < wr.heap.size := cell_lt c0
      clear hR hrs rs hown
      go_wp2_with (at_make; refine wpList_make_full _ rfl _ _ 27 rfl wr.heap.size 3 i0 (.int .i64 0) 1 Try.underlying27 hi hz0 hz1 _ _ _ _ ts.length rfl rfl rfl rfl (by rw [hz2]; omega) (by unfold maxLen; omega) (Nat.le_refl _) ?_; intro w1 hmk hgrow; have hbm : Below wr.heap.size wr w1 := (Below.refl _ _).grown hgrow (Nat.le_refl _) (fun k hk => by cases hk); have c1 := ble hbm c0; have hl1 : w.heap.size < w1.heap.size := cell_lt c1)
      have hbr := balloc w1 (.cells #[.int .i64 n, .slice (some ⟨wr.heap.size, 0, none⟩) ts.length ts.length, .slice none 0 0] 59)
      have hm1 : w1.ownsRow wr.heap.size 3 1 (.slice (some ⟨wr.heap.size, 0, none⟩) ts.length ts.length) (uL [] 0 ts.length).length ((uL [] 0 ts.length).map (Value.int .i64)) := by
        rw [uL_len, uL_nil]
        simpa [toList_madeCells_one, Value.cells] using hmk
      have R0 : Ros (w1.alloc (.cells #[.int .i64 n, .slice (some ⟨wr.heap.size, 0, none⟩) ts.length ts.length, .slice none 0 0] 59)) wr.heap.size w1.heap.size ts n (uL [] 0 ts.length) [] (nU []) (.slice (some ⟨wr.heap.size, 0, none⟩) ts.length ts.length) (.slice none 0 0) [] :=
        ⟨one_block w1 _, own_keep hm1 hbr, World.ownsRow_nil _ _ _ _, fun u v hv => by simp at hv, fun u u' v v' b _ hv => by simp at hv, hbm.size⟩
      have hB0 := btrans hbm hbr
      clear hm1 hmk hgrow c1 hbm hbr
      generalize w1.alloc (.cells #[.int .i64 n, .slice (some ⟨wr.heap.size, 0, none⟩) ts.length ts.length, .slice none 0 0] 59) = W at *
      generalize w1.heap.size = r at *
      generalize wr = wo at *
      go_loopw [34] (fun i wq => ∃ (j : Nat) (h : Hist) (vu vr : Value) (vs : List Value), j ≤ ts.length ∧ i = .int .i64 j ∧ Dl Pk (os.take j) h ∧ Ros wq wo.heap.size r ts n (uL h 0 ts.length) h (nU h) vu vr vs ∧ Below wo.heap.size wo wq) (fun i _ => ts.length - (intOf i).toNat)
      case atStart => exact ⟨0, [], _, _, _, Nat.zero_le _, rfl, .nil, R0, hB0⟩
      case round =>
        obtain ⟨j, h, vu, vr, vs, hj, rfl, hD, R, hbq⟩ := hrel
        clear R0 hB0
        have hbw := btrans hb hbq
        by_cases hjl : j < ts.length
        · have hjl' : (j : Int) < (ts.length : Int) := by omega
          have hjo : j < os.length := by omega
          have hpj := hD.places
          have hhl : h.length = j := by have := congrArg List.length hpj; simp at this; omega
          rcases hP with hP | ⟨pb, po, rfl, hc⟩
          · simp at hP; subst hP; simp at hjo
          have hcj := hc j (by rw [List.length_map]; exact hjo)
          rw [show (os.map (plOf ts)).getD j PlV.zero = plOf ts os[j] by simp [List.getD, hjo]] at hcj
          have htk : Hid (os.take (j + 1) = os.take j ++ [os[j]]) := hide (List.take_succ_eq_append_getElem hjo)
          have hol2 : os[j] < ts.length := (hO.2 _).1 (List.getElem_mem hjo)
          have hnew : os[j] ∉ h.map (·.1) := by
            rw [hpj]
            intro hm
            have hnd := hO.nodup
            rw [← List.take_append_drop j os, List.nodup_append] at hnd
            exact hnd.2.2 _ hm os[j] (by rw [List.drop_eq_getElem_cons hjo]; exact List.mem_cons_self ..) rfl
          generalize os[j] = o at *
          obtain ⟨p0, p1, p2, p3, p4, p5⟩ := hcj.below hbq
          have hlq : pb < wr.heap.size := cell_lt p0
          have CV := CC wo.heap.size r (uL h 0 ts.length) (os.take j) h o vu vr vs
          have hset := hide (fun u : Nat => uL_set h 0 ts.length o u hnew)
          have CG := fun (u : Nat) (V : World) (RV : Ros V wo.heap.size r ts n (uL h 0 ts.length) h (nU h) vu vr vs) (hu : u ≤ 39) (hB : wo.heap.size ≤ V.heap.size) => gave_out (cGive wo.heap.size r ts n (uL h 0 ts.length) h vu vr vs o u V RV (by rw [uL_len]; exact hol2) (by rw [uL_len]; exact hl) hu hB (by have := runU_le h u; omega) (hnu.out _ h hD (by omega)))
          have hpk : Hid ((plOf ts o).k = (o : Int)) := rfl
          generalize hx : plOf ts o = X at *
          replace hx := hide hx
          obtain ⟨⟨xe, xd, xf, xt, xp⟩, xk⟩ := X
          have hxk : xk = (o : Int) := hpk.out
          subst hxk
          unfold PlV.val at CV CG
          dsimp only at *
          have hbA := balloc wr (.cells #[.int .i64 xe, .int .i64 xd, .int .i64 xf, .int .i64 xt, .int .i64 xp, .int .i64 o] 68)
          have hX := one_block wr (.cells #[.int .i64 xe, .int .i64 xd, .int .i64 xf, .int .i64 xt, .int .i64 xp, .int .i64 o] 68)
          have RA := R.below hbA
          have hbA2 := btrans hbq hbA
          clear hc CC
          go_wp2_with fail
          generalize wr.alloc (.cells #[.int .i64 xe, .int .i64 xd, .int .i64 xf, .int .i64 xt, .int .i64 xp, .int .i64 o] 68) = V at *
          obtain ⟨x0, x1, x2, x3, x4, x5⟩ := pl_parts (x := ⟨⟨xe, xd, xf, xt, xp⟩, o⟩) hX
          dsimp only at x0 x1 x2 x3 x4 x5
          have CV1 := CV V.drew (RA.below (bdraw (Below.refl _ _) 1)) hD hol2 (by omega) (bdraw (btrans hb hbA2) 1)
          have hVs : wo.heap.size ≤ V.heap.size := hbA2.size
          have RV : ∀ w4, Below V.heap.size V w4 → Ros w4 wo.heap.size r ts n (uL h 0 ts.length) h (nU h) vu vr vs := fun w4 h4 => RA.below h4
          clear R p0 p1 p2 p3 p4 p5 CV hX hbA hcj
          go_region_with (first
            | (go_at_call 82; with_reducible refine (CG u w4 (RV w4 hb4) hu39 (Nat.le_trans hVs hb4.size)).mono ?_; rintro e w5 ⟨rfl, vu5, vr5, vs5, R5, hb5⟩)
            | (go_at_call 58; with_reducible refine CV1.mono ?_; rintro e w4 ⟨u, rfl, hPu, hu39, hb4⟩; replace hb4 := undrew hb4; have z0 := ble hb4 x0; have z1 := ble hb4 x1; have z2 := ble hb4 x2; have z3 := ble hb4 x3; have z4 := ble hb4 x4; have z5 := ble hb4 x5))
          all_goals have hD5 := Dl.snoc hD hPu
          all_goals rw [hset.out u] at R5
          all_goals rw [← htk.out] at hD5
          all_goals have hb6 : Below wo.heap.size wo w5 := (hbA2.trans (hb4.mono hbA2.size)).trans hb5
          all_goals clear z0 z1 z2 z3 z4 z5 hb4 hb5 RV CG CV1 x0 x1 x2 x3 x4 x5 hPu
          all_goals go_wp2
          all_goals go_roundw
          all_goals first | exact ⟨j + 1, _, _, _, _, by omega, by go_num, hD5, R5, hb6⟩ | (simp [intOf]; omega)
        · obtain rfl : j = ts.length := by omega
          have hjl' : ¬ ((ts.length : Int) < (ts.length : Int)) := by omega
          rw [← hol, List.take_length] at hD
          have RF := R.base (Nat.le_of_lt hwl)
          clear R hP CC hlt'
          go_wp2
          go_ret
          exact ⟨r, os, h, vu, vr, vs, rfl, hO, hD, RF, hbw⟩


theorem Dl.hOf {us : List Int} {os : List Nat} {h : Hist} (c : Dl (fun _ t u => u = (us.getD t 0).toNat) os h) : h = hOf us os := by
  induction c with
  | nil => rfl
  | snoc _ m ih => rw [hOf_snoc, ih, m]
theorem nU_bound {h : Hist} {B : Nat} (hb : ∀ t u, (t, u) ∈ h → u < B) : nU h ≤ B := by
  induction h using snoc_ind with
  | h0 => simp [nU]
  | h1 h x ih =>
    obtain ⟨t, u⟩ := x
    rw [nU_snoc]
    have h1 := ih (fun t u hm => hb t u (List.mem_append.2 (.inl hm)))
    have h2 := hb t u (by simp)
    omega
theorem all_getD {us : List Int} (h : us.all okU = true) (t : Nat) : 0 ≤ us.getD t 0 ∧ us.getD t 0 ≤ 39 := by
  by_cases ht : t < us.length
  · rw [List.all_eq_true] at h
    have := inB_true (h (us.getD t 0) (by rw [show us.getD t 0 = us[t] by simp [List.getD, ht]]; exact List.getElem_mem ht))
    exact this
  · simp [List.getD, ht]
theorem no_iff {Q : Prop} (h : ¬ Q) : (false = true ↔ Q) := Iff.intro (fun e => nomatch e) (fun q => absurd q h)
/-- An answer true or false, and what true says. -/
def AnsIff (Q : Prop) (w : World) (e : Ending) (w' : World) : Prop := ∃ b : Bool, e = .returned (.bool b) ∧ (b = true ↔ Q) ∧ Below w.heap.size w w'

set_option maxRecDepth 20000 in
set_option maxHeartbeats 3200000 in
theorem cChainOkI (a : Option Addr) (cap : Nat) (ua : Option Addr) (uc : Nat) (ts : List TaskV) (n : Int) (us : List Int) (w : World) (hz : Tasks w a ts) (hu : Ints w ua us) (hl : ts.length ≤ 1048576) (hlu : us.length ≤ 1048576) :
    Calls Try.prog 19 #[.slice a ts.length cap, .int .i64 n, .slice ua us.length uc] w (AnsIff (ChOk ts n us) w) := by
  have hb0 := btrans (balloc w (.cells #[.int .i64 n] 3)) (balloc _ (.cells #[.slice ua us.length uc] 27))
  have hN := blk_keep (balloc _ (.cells #[.slice ua us.length uc] 27)) (one_block w (.cells #[.int .i64 n] 3))
  have hV := one_block (w.alloc (.cells #[.int .i64 n] 3)) (.cells #[.slice ua us.length uc] 27)
  rw [sz1] at hV
  go_enter Try.func19, Try.ntmps19
  have n0 : ((w.alloc (.cells #[.int .i64 n] 3)).alloc (.cells #[.slice ua us.length uc] 27)).cell? ⟨w.heap.size, 0, none⟩ = some (.int .i64 n) := blk_at hN 0
  have v0 : ((w.alloc (.cells #[.int .i64 n] 3)).alloc (.cells #[.slice ua us.length uc] 27)).cell? ⟨w.heap.size + 1, 0, none⟩ = some (.slice ua us.length uc) := blk_at hV 0
  have CC0 := cCircI a cap ts n _ (hz.below hb0) hl
  go_wp2_with fail
  refine CC0.mono ?_
  rintro e w1 ⟨rfl, hb1⟩
  have hb := btrans hb0 hb1
  replace n0 := ble hb1 n0
  replace v0 := ble hb1 v0
  clear CC0 hN hV hb0 hb1
  cases hok : (tasksB ts && turnB n)
  · have hF := hide (show ¬ ChOk ts n us from fun h => by rw [h.1] at hok; cases hok)
    go_wp2
    go_ret
    exact ⟨false, rfl, no_iff hF.out, hb⟩
  have h40 : ts.length ≤ 40 := by simp only [Bool.and_eq_true, tasksB, decide_eq_true_eq] at hok; exact hok.1.1
  replace hok := hide hok
  by_cases hle : us.length = ts.length
  rotate_left
  · have hF := hide (show ¬ ChOk ts n us from fun h => hle h.2.1)
    have hne : ((us.length : Int) != (ts.length : Int)) = true := by simp; omega
    clear hle
    go_wp2
    go_ret
    exact ⟨false, rfl, no_iff hF.out, hb⟩
  have hne : ((us.length : Int) != (ts.length : Int)) = false := by simp; omega
  replace hle := hide hle
  have CA := cAllNum ua uc us w1 (hu.below hb) hlu
  go_wp2_with fail
  refine CA.mono ?_
  rintro e w2 ⟨rfl, hw⟩
  subst w2
  cases hall : us.all okU
  · have hF := hide (show ¬ ChOk ts n us from fun h => by have h3 : us.all okU = true := h.2.2.1
                                                          rw [hall] at h3; cases h3)
    go_wp2
    go_ret
    exact ⟨false, rfl, no_iff hF.out, hb⟩
  replace hall := hide hall
  clear CA
  have CD := cDealtC (w.heap.size + 1) a cap ts n (fun _ t u => u = (us.getD t 0).toNat) w1 (hz.below hb) h40
    (fun base r zs os h t vu vr vs V R hD ht hh hVb => (cChoose (w.heap.size + 1) r ua uc us ts t V ((hu.below hb).below hVb) (by rw [hle.out]; exact ht) (ble hVb v0)).mono (fun e w' ⟨h1, h2⟩ => ⟨(us.getD t 0).toNat, by rw [h1]; exact ret_int (by have := all_getD hall.out t; omega), rfl, by have := all_getD hall.out t; omega, h2⟩))
    (fun os h hD hh => by
      refine nU_bound (fun t u hm => ?_)
      rw [hD.hOf] at hm
      unfold Go.Proofs.Ytbnhkkaiohmllaa.hOf at hm
      rw [List.mem_map] at hm
      obtain ⟨p, _, e⟩ := hm
      have h1 := all_getD hall.out p
      simp only [Prod.mk.injEq] at e
      omega)
  go_wp2_with fail
  refine CD.mono ?_
  rintro e w2 ⟨r, os, h, vu, vr, vs, rfl, hO, hD, hR, hb2⟩
  have hb3 := btrans hb hb2
  obtain ⟨⟨c0, c1, c2⟩, -⟩ := blk3 hR.blk
  obtain ⟨ra, rc, rfl⟩ := own_form hR.hr
  have hpl := congrArg List.length hD.places
  rw [List.length_map] at hpl
  have hol := hO.len
  have CR := cAllRuns w.heap.size _ r ts n n _ h (nU h) vu ra rc vs w2 hR (fun u => by have := runU_le h u; omega) (by
      refine nU_bound (fun t u hm => ?_)
      rw [hD.hOf] at hm
      unfold Go.Proofs.Ytbnhkkaiohmllaa.hOf at hm
      rw [List.mem_map] at hm
      obtain ⟨p, _, e⟩ := hm
      have h1 := all_getD hall.out p
      simp only [Prod.mk.injEq] at e
      omega) (ble hb2 n0)
  have hI : Hid (allL ts n h 0 (nU h) = true ↔ ChOk ts n us) := hide (by
    rw [allL_iff]
    have e1 := hD.hOf
    constructor
    · intro g
      refine ⟨hok.out, hle.out, hall.out, os, hO, ?_⟩
      rw [← e1]; exact g
    · rintro ⟨_, _, _, os', ho', g⟩
      rw [ho'.uniq hO, ← e1] at g; exact g)
  generalize allL ts n h 0 (nU h) = res at *
  clear CD hR hD hpl hol
  go_wp2_with fail
  refine CR.mono ?_
  rintro e w4 ⟨rfl, hb4⟩
  have hb5 := btrans hb3 hb4
  go_wp2
  go_ret
  exact ⟨res, rfl, hI.out, hb5⟩
end Go.Proofs.Ytbnhkkaiohmllaa
