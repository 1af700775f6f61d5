/- Tasks dealt to units in the order of their departure. -/
import Derived.Test.YtbnhkkaiohmllaaMT
namespace Go.Proofs.Ytbnhkkaiohmllaa
open Go.RowKit Go.Lib

theorem Added.keep {ty : TypeId} {w w' : World} {base rb ro : Nat} {cs : Array Value} {v : Value} {es : List PlV} {t : PlV} (hA : Added ty w w' base rb ro cs v es t) (ho : w.ownsRow base 68 6 v es.length (flatPls es)) {g : Nat} {c : Array Value} {tt : TypeId} {f : Nat × Nat} (h : w.heap[g]? = some (.cells c tt f)) (ht : tt ≠ 68) (hg : g ≠ rb) : w'.heap[g]? = some (.cells c tt f) := by
  rw [hA.block g (lt_of_block h) hg ?_]
  · exact h
  · intro hv
    rcases ho.2 with ⟨rfl, _⟩ | ⟨g', cap', cur, rfl, _, hh, _⟩
    · simp [Value.ownBlock] at hv
    · simp only [Value.ownBlock, Option.some.injEq] at hv
      subst hv
      rw [h] at hh
      simp only [Option.some.injEq, Obj.cells.injEq] at hh
      exact ht hh.2.1
theorem Added.below {ty : TypeId} {w0 w w' : World} {rb ro : Nat} {cs : Array Value} {v : Value} {es : List PlV} {t : PlV} (hA : Added ty w w' w0.heap.size rb ro cs v es t) (ho : w.ownsRow w0.heap.size 68 6 v es.length (flatPls es)) (hb : Below w0.heap.size w0 w) (hrb : w0.heap.size ≤ rb) : Below w0.heap.size w0 w' :=
  ⟨hA.os.trans hb.os, hA.tape.trans hb.tape, hA.output.trans hb.output, Nat.le_trans hb.size hA.size, fun k hk => (hA.block k (Nat.lt_of_lt_of_le hk hb.size) (by omega) (fun e => by have := own_from ho (Nat.le_refl _) k e.symm; omega)).trans (hb.block k hk)⟩

/-- What was dealt when each unit was chosen by Pk. -/
inductive Dl (Pk : Hist → Nat → Nat → Prop) : List Nat → Hist → Prop
  | nil : Dl Pk [] []
  | snoc {os : List Nat} {h : Hist} {t u : Nat} : Dl Pk os h → Pk h t u → Dl Pk (os ++ [t]) (h ++ [(t, u)])
theorem Dl.places {Pk : Hist → Nat → Nat → Prop} {os : List Nat} {h : Hist} (c : Dl Pk os h) : h.map (·.1) = os := by
  induction c with
  | nil => rfl
  | snoc _ _ ih => simp [ih]
theorem Dl.chn {ts : List TaskV} {n : Int} {os : List Nat} {h : Hist} (c : Dl (IsMatch ts n) os h) : Chn ts n os h := by
  induction c with
  | nil => exact .nil
  | snoc _ m ih => exact .snoc ih m
theorem runU_le (h : Hist) (u : Nat) : (runU h u).length ≤ h.length := by
  unfold runU
  rw [List.length_map]
  exact List.length_filter_le _ _
theorem Chn.nU_le {ts : List TaskV} {n : Int} {os : List Nat} {h : Hist} (c : Chn ts n os h) : nU h ≤ h.length := by
  induction c with
  | nil => simp [nU]
  | @snoc os h t u _ m ih =>
    rw [nU_snoc, List.length_append, List.length_singleton]
    have := m.le
    omega
/-- The rank of the tasks in block rb. -/
structure RkAt (w : World) (base rb : Nat) (ts : List TaskV) (k : Nat) (v : Value) (rs : List PlV) : Prop where
  blk : w.heap[rb]? = some (.cells #[v] 91 (0, 0))
  own : w.ownsRow base 68 6 v rs.length (flatPls rs)
  rk : RkTo ts k rs
theorem RkAt.below {w w1 : World} {base rb : Nat} {ts : List TaskV} {k : Nat} {v : Value} {rs : List PlV} (h : RkAt w base rb ts k v rs) (hb : Below w.heap.size w w1) : RkAt w1 base rb ts k v rs := ⟨blk_keep hb h.blk, own_keep h.own hb, h.rk⟩
theorem RkAt.add {w w' : World} {base rb : Nat} {ts : List TaskV} {k : Nat} {v : Value} {rs : List PlV} (h : RkAt w base rb ts k v rs) (hA : Added 91 w w' base rb 0 #[v] v rs (plOf ts k)) : ∃ v' rs', RkAt w' base rb ts (k + 1) v' rs' := by
  obtain ⟨⟨v', p, q1, q2, q3, q4, q5, q6⟩, -⟩ := hA
  have hl : (putAt rs p (plOf ts k)).length = rs.length + 1 := by unfold putAt; simp; omega
  exact ⟨v', putAt rs p (plOf ts k), ⟨by simpa using q1, by rw [hl]; exact q2, h.rk.add q3 q4 q5⟩⟩
theorem infoRos : (Try.prog.info? 59).map (fun i => (i.zero, i.size)) = some (some (.agg #[.int .i64 0, .slice none 0 0, .slice none 0 0]), 3) := by kernel_rfl
theorem gave_out {P : Program} {f : FuncId} {args : Array Value} {w : World} {base r : Nat} {ts : List TaskV} {n : Int} {zs : List Int} {h : Hist} {t u : Nat} (c : Calls P f args w (GavePost w base r ts n zs h t u)) : Calls P f args w fun e w' => e = .returned (.tuple #[]) ∧ ∃ vu vr vs, Ros w' base r ts n (zs.set t (u : Int)) (h ++ [(t, u)]) (nU (h ++ [(t, u)])) vu vr vs ∧ Below base w w' := c
/-- What dealt answers: a roster of its own, with all tasks in their order. -/
def DealtPost (w : World) (ts : List TaskV) (n : Int) (Pk : Hist → Nat → Nat → Prop) (e : Ending) (w' : World) : Prop :=
  ∃ r os h vu vr vs, e = .returned (.pointer (some ⟨r, 0, none⟩)) ∧ Ord ts os ∧ Dl Pk os h ∧ Ros w' w.heap.size r ts n (uL h 0 ts.length) h (nU h) vu vr vs ∧ Below w.heap.size w w'
theorem Ros.base {w : World} {base base' r : Nat} {ts : List TaskV} {n : Int} {zs : List Int} {h : Hist} {M : Nat} {vu vr : Value} {vs : List Value} (R : Ros w base r ts n zs h M vu vr vs) (hb : base' ≤ base) : Ros w base' r ts n zs h M vu vr vs :=
  ⟨R.blk, Go.Joins.ownsRow_le R.hu hb, Go.Joins.ownsRow_le R.hr hb, fun u v hv => Go.Joins.ownsRow_le (R.each u v hv) hb, R.apart, Nat.le_trans hb R.rb⟩

set_option maxRecDepth 20000 in
set_option maxHeartbeats 6400000 in
theorem cDealtM (a : Option Addr) (cap : Nat) (ts : List TaskV) (n : Int) (Pk : Hist → Nat → Nat → Prop) (w : World) (hz : Tasks w a ts) (hl : ts.length ≤ 40)
    (CC : ∀ (base r : Nat) (zs : List Int) (os : List Nat) (h : Hist) (t : Nat) (vu vr : Value) (vs : List Value) (V : World), Ros V base r ts n zs h (nU h) vu vr vs → Dl Pk os h → t < ts.length → h.length < 40 → Below w.heap.size w V → Calls Try.prog 80 #[.pointer (some ⟨r, 0, none⟩), (plOf ts t).val] V fun e w' => ∃ u : Nat, e = .returned (.int .i64 u) ∧ Pk h t u ∧ u ≤ 39 ∧ Below V.heap.size V w')
    (hnu : ∀ os h, Dl Pk os h → h.length ≤ 40 → nU h ≤ 40) :
    Calls Try.prog 57 #[.slice a ts.length cap, .int .i64 n, .func (.func 80) #[] #[]] w (DealtPost w ts n Pk) := by
  have hb0 := balloc w (.cells #[.slice none 0 0] 91)
  have hR0 : RkAt (w.alloc (.cells #[.slice none 0 0] 91)) w.heap.size w.heap.size ts 0 (.slice none 0 0) [] := ⟨one_block w _, World.ownsRow_nil _ _ _ _, RkTo.nil ts⟩
  replace hnu := hide hnu
  go_enter Try.func57, Try.ntmps57
  go_wp2
  go_loopw [15] (fun i wr => ∃ (k : Nat) (v : Value) (rs : List PlV), k ≤ ts.length ∧ i = .int .i64 k ∧ RkAt wr w.heap.size w.heap.size ts k v rs ∧ Below w.heap.size w wr) (fun i _ => ts.length - (intOf i).toNat)
  case atStart => exact ⟨0, _, [], Nat.zero_le _, rfl, hR0, hb0⟩
  case round =>
    obtain ⟨k, v, rs, hk, rfl, hR, hb⟩ := hrel
    clear hR0 hb0
    by_cases hlt : k < ts.length
    · have hlt' : (k : Int) < (ts.length : Int) := by omega
      rcases hz with h | ⟨b, off, rfl, hc⟩
      · simp [h] at hlt
      obtain ⟨q0, q1, q2, q3, q4⟩ := hc k hlt
      replace q0 := ble hb q0
      replace q1 := ble hb q1
      replace q2 := ble hb q2
      replace q3 := ble hb q3
      replace q4 := ble hb q4
      have hrl := hR.rk.2.2.2
      have hu : Hid (plOf ts k = ⟨ts.getD k TaskV.zero, k⟩) := rfl
      generalize ts.getD k TaskV.zero = y at *
      obtain ⟨ye, yd, yf, yt, yp⟩ := y
      dsimp only at *
      have hbA := balloc wr (.cells #[.int .i64 ye, .int .i64 yd, .int .i64 yf, .int .i64 yt, .int .i64 yp] 32)
      have hRA := hR.below hbA
      have hb2 := btrans hb hbA
      have CA := cAdd 91 (by decide) w.heap.size w.heap.size 0 #[v] v rs ⟨⟨ye, yd, yf, yt, yp⟩, k⟩ _ hRA.blk rfl hRA.own (by omega) hRA.rk.1 hb2.size
      unfold PlV.val at CA
      dsimp only at CA
      clear hc CC
      go_wp2_with fail
      refine CA.mono ?_
      rintro e w3 ⟨rfl, hA⟩
      have hb3 := hA.below hRA.own hb2 (Nat.le_refl _)
      rw [← hu.out] at hA
      obtain ⟨v', rs', hR3⟩ := hRA.add hA
      clear hA CA hRA hb2 hbA hR hb q0 q1 q2 q3 q4
      go_wp2
      go_roundw
      case rel => exact ⟨k + 1, v', rs', by omega, by go_num, hR3, hb3⟩
      case measure => simp [intOf]; omega
    · obtain rfl : k = ts.length := by omega
      have hlt' : ¬ ((ts.length : Int) < (ts.length : Int)) := by omega
      obtain ⟨os, hO, hrs⟩ := hR.rk.ord
      have hol := hO.len
      have c0 : wr.cell? ⟨w.heap.size, 0, none⟩ = some v := blk_at hR.blk 0
      have hown := hR.own
      rw [hrs, List.length_map, hol] at hown
      obtain ⟨va, vc, rfl⟩ := own_form hown
      have hP := Pls.own hown
      obtain ⟨i0, hi, hz0, hz1, hz2⟩ := info_parts infoInts
      have hwl : w.heap.size < wr.heap.size := cell_lt c0
      clear hR hrs rs hown
      go_wp2_with (at_make; refine wpList_make_full _ rfl _ _ 27 rfl wr.heap.size 3 i0 (.int .i64 0) 1 Try.underlying27 hi hz0 hz1 _ _ _ _ ts.length rfl rfl rfl rfl (by rw [hz2]; omega) (by unfold maxLen; omega) (Nat.le_refl _) ?_; intro w1 hmk hgrow; have hbm : Below wr.heap.size wr w1 := (Below.refl _ _).grown hgrow (Nat.le_refl _) (fun k hk => by cases hk); have c1 := ble hbm c0; have hl1 : w.heap.size < w1.heap.size := cell_lt c1)
      have hbr := balloc w1 (.cells #[.int .i64 n, .slice (some ⟨wr.heap.size, 0, none⟩) ts.length ts.length, .slice none 0 0] 59)
      have hm1 : w1.ownsRow wr.heap.size 3 1 (.slice (some ⟨wr.heap.size, 0, none⟩) ts.length ts.length) (uL [] 0 ts.length).length ((uL [] 0 ts.length).map (Value.int .i64)) := by
        rw [uL_len, uL_nil]
        simpa [toList_madeCells_one, Value.cells] using hmk
      have R0 : Ros (w1.alloc (.cells #[.int .i64 n, .slice (some ⟨wr.heap.size, 0, none⟩) ts.length ts.length, .slice none 0 0] 59)) wr.heap.size w1.heap.size ts n (uL [] 0 ts.length) [] (nU []) (.slice (some ⟨wr.heap.size, 0, none⟩) ts.length ts.length) (.slice none 0 0) [] :=
        ⟨one_block w1 _, own_keep hm1 hbr, World.ownsRow_nil _ _ _ _, fun u v hv => by simp at hv, fun u u' v v' b _ hv => by simp at hv, hbm.size⟩
      have hB0 := btrans hbm hbr
      clear hm1 hmk hgrow c1 hbm hbr
      generalize w1.alloc (.cells #[.int .i64 n, .slice (some ⟨wr.heap.size, 0, none⟩) ts.length ts.length, .slice none 0 0] 59) = W at *
      generalize w1.heap.size = r at *
      generalize wr = wo at *
      go_loopw [34] (fun i wq => ∃ (j : Nat) (h : Hist) (vu vr : Value) (vs : List Value), j ≤ ts.length ∧ i = .int .i64 j ∧ Dl Pk (os.take j) h ∧ Ros wq wo.heap.size r ts n (uL h 0 ts.length) h (nU h) vu vr vs ∧ Below wo.heap.size wo wq) (fun i _ => ts.length - (intOf i).toNat)
      case atStart => exact ⟨0, [], _, _, _, Nat.zero_le _, rfl, .nil, R0, hB0⟩
      case round =>
        obtain ⟨j, h, vu, vr, vs, hj, rfl, hD, R, hbq⟩ := hrel
        clear R0 hB0
        have hbw := btrans hb hbq
        by_cases hjl : j < ts.length
        · have hjl' : (j : Int) < (ts.length : Int) := by omega
          have hjo : j < os.length := by omega
          have hpj := hD.places
          have hhl : h.length = j := by have := congrArg List.length hpj; simp at this; omega
          rcases hP with hP | ⟨pb, po, rfl, hc⟩
          · simp at hP; subst hP; simp at hjo
          have hcj := hc j (by rw [List.length_map]; exact hjo)
          rw [show (os.map (plOf ts)).getD j PlV.zero = plOf ts os[j] by simp [List.getD, hjo]] at hcj
          have htk : Hid (os.take (j + 1) = os.take j ++ [os[j]]) := hide (List.take_succ_eq_append_getElem hjo)
          have hol2 : os[j] < ts.length := (hO.2 _).1 (List.getElem_mem hjo)
          have hnew : os[j] ∉ h.map (·.1) := by
            rw [hpj]
            intro hm
            have hnd := hO.nodup
            rw [← List.take_append_drop j os, List.nodup_append] at hnd
            exact hnd.2.2 _ hm os[j] (by rw [List.drop_eq_getElem_cons hjo]; exact List.mem_cons_self ..) rfl
          generalize os[j] = o at *
          obtain ⟨p0, p1, p2, p3, p4, p5⟩ := hcj.below hbq
          have hlq : pb < wr.heap.size := cell_lt p0
          have CV := CC wo.heap.size r (uL h 0 ts.length) (os.take j) h o vu vr vs
          have hset := hide (fun u : Nat => uL_set h 0 ts.length o u hnew)
          have CG := fun (u : Nat) (V : World) (RV : Ros V wo.heap.size r ts n (uL h 0 ts.length) h (nU h) vu vr vs) (hu : u ≤ 39) (hB : wo.heap.size ≤ V.heap.size) => gave_out (cGive wo.heap.size r ts n (uL h 0 ts.length) h vu vr vs o u V RV (by rw [uL_len]; exact hol2) (by rw [uL_len]; exact hl) hu hB (by have := runU_le h u; omega) (hnu.out _ h hD (by omega)))
          have hpk : Hid ((plOf ts o).k = (o : Int)) := rfl
          generalize hx : plOf ts o = X at *
          replace hx := hide hx
          obtain ⟨⟨xe, xd, xf, xt, xp⟩, xk⟩ := X
          have hxk : xk = (o : Int) := hpk.out
          subst hxk
          unfold PlV.val at CV CG
          dsimp only at *
          have hbA := balloc wr (.cells #[.int .i64 xe, .int .i64 xd, .int .i64 xf, .int .i64 xt, .int .i64 xp, .int .i64 o] 68)
          have hX := one_block wr (.cells #[.int .i64 xe, .int .i64 xd, .int .i64 xf, .int .i64 xt, .int .i64 xp, .int .i64 o] 68)
          have RA := R.below hbA
          have hbA2 := btrans hbq hbA
          clear hc CC
          go_wp2_with fail
          generalize wr.alloc (.cells #[.int .i64 xe, .int .i64 xd, .int .i64 xf, .int .i64 xt, .int .i64 xp, .int .i64 o] 68) = V at *
          obtain ⟨x0, x1, x2, x3, x4, x5⟩ := pl_parts (x := ⟨⟨xe, xd, xf, xt, xp⟩, o⟩) hX
          dsimp only at x0 x1 x2 x3 x4 x5
          have CV1 := CV V.drew (RA.below (bdraw (Below.refl _ _) 1)) hD hol2 (by omega) (bdraw (btrans hb hbA2) 1)
          have hVs : wo.heap.size ≤ V.heap.size := hbA2.size
          have RV : ∀ w4, Below V.heap.size V w4 → Ros w4 wo.heap.size r ts n (uL h 0 ts.length) h (nU h) vu vr vs := fun w4 h4 => RA.below h4
          clear R p0 p1 p2 p3 p4 p5 CV hX hbA hcj
          go_region_with (first
            | (go_at_call 82; with_reducible refine (CG u w4 (RV w4 hb4) hu39 (Nat.le_trans hVs hb4.size)).mono ?_; rintro e w5 ⟨rfl, vu5, vr5, vs5, R5, hb5⟩)
            | (go_at_call 80; with_reducible refine CV1.mono ?_; rintro e w4 ⟨u, rfl, hPu, hu39, hb4⟩; replace hb4 := undrew hb4; have z0 := ble hb4 x0; have z1 := ble hb4 x1; have z2 := ble hb4 x2; have z3 := ble hb4 x3; have z4 := ble hb4 x4; have z5 := ble hb4 x5))
          all_goals have hD5 := Dl.snoc hD hPu
          all_goals rw [hset.out u] at R5
          all_goals rw [← htk.out] at hD5
          all_goals have hb6 : Below wo.heap.size wo w5 := (hbA2.trans (hb4.mono hbA2.size)).trans hb5
          all_goals clear z0 z1 z2 z3 z4 z5 hb4 hb5 RV CG CV1 x0 x1 x2 x3 x4 x5 hPu
          all_goals go_wp2
          all_goals go_roundw
          all_goals first | exact ⟨j + 1, _, _, _, _, by omega, by go_num, hD5, R5, hb6⟩ | (simp [intOf]; omega)
        · obtain rfl : j = ts.length := by omega
          have hjl' : ¬ ((ts.length : Int) < (ts.length : Int)) := by omega
          rw [← hol, List.take_length] at hD
          have RF := R.base (Nat.le_of_lt hwl)
          clear R hP CC hlt'
          go_wp2
          go_ret
          exact ⟨r, os, h, vu, vr, vs, rfl, hO, hD, RF, hbw⟩

end Go.Proofs.Ytbnhkkaiohmllaa
