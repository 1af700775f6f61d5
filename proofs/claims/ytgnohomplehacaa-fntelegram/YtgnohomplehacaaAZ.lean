/- Axles of the program, whole. -/
import Derived.Test.YtgnohomplehacaaAY
namespace Go.Proofs.Ytgnohomplehacaa
open Go.RowKit
/-- Bytes that lie below a block. -/
def LowB (cb : Nat) (w : World) (a : Option Addr) (b : List Int) : Prop := ∀ W, Below cb w W → Bys W a b
set_option maxRecDepth 100000 in
set_option maxHeartbeats 6400000 in
theorem cHear (cb : Nat) (c l o q k : Int) (a : Option Addr) (cp : Nat) (b : List Int) (w0 : World) (hX : w0.heap[cb]? = some (.cells #[.int .i64 c, .int .i64 l, .int .i64 o] 77 (0, 0))) (hlow : LowB cb w0 a b) (hy : By b) (hl : b.length ≤ 1048576) (hc0 : -1 ≤ c) (hc1 : c ≤ 100000) (ho0 : 0 ≤ o) (ho1 : o ≤ 100000) :
    Calls Try.prog 57 #[.pointer (some ⟨cb, 0, none⟩), .agg #[.int .i64 q, .int .i64 k, .slice a b.length cp]] w0 (CtA cb (axS ⟨c, l, o⟩ ⟨q, k, b⟩).c (axS ⟨c, l, o⟩ ⟨q, k, b⟩).l (axS ⟨c, l, o⟩ ⟨q, k, b⟩).o w0) := by
  have hcb := lt_of_block hX
  have H0 := balloc w0 (.cells #[.int .i64 q, .int .i64 k, .slice a b.length cp] 25)
  have HB : Below cb w0 (w0.alloc (.cells #[.int .i64 q, .int .i64 k, .slice a b.length cp] 25)) := H0.mono (by omega)
  have X := blk_keep H0 hX
  have Y := one_block w0 (.cells #[.int .i64 q, .int .i64 k, .slice a b.length cp] 25)
  obtain ⟨⟨p0, p1, p2⟩, f0, f1, f2⟩ := blk3 X
  obtain ⟨⟨x0, x1, x2⟩, -⟩ := blk3 Y
  have hne : w0.heap.size ≠ cb := by omega
  have hcw : cb ≤ (w0.alloc (.cells #[.int .i64 q, .int .i64 k, .slice a b.length cp] 25)).heap.size := by simp; omega
  have hbd : Bys (w0.alloc (.cells #[.int .i64 q, .int .i64 k, .slice a b.length cp] 25)) a b := hlow _ HB
  clear hX
  go_enter Try.func57, Try.ntmps57
  go_wp2_with fail
  generalize w0.alloc (.cells #[.int .i64 q, .int .i64 k, .slice a b.length cp] 25) = w at *
  generalize w0.heap.size = tb at *
  clear H0
  refine wp_region_held_drew (S := (fun w' => w'.cell? ⟨cb, 1, none⟩ = some (.int .i64 l) ∧ w'.cell? ⟨tb, 0, none⟩ = some (.int .i64 q))) (by kernel_rfl) ?_ (fun hHeld => ?_)
  · exact ⟨p1, x0⟩
  have Bd : Below w.heap.size w w.drew := (Below.refl _ _).drew
  have d1 := ble Bd p1
  have e0 := ble Bd x0
  replace X := blk_keep Bd X
  replace Y := blk_keep Bd Y
  replace hbd := hbd.below Bd
  replace HB := HB.drew
  have hcw2 : cb ≤ w.drew.heap.size := by have := Bd.size; omega
  clear p0 p1 p2 x0 x1 x2 f0 f1 f2 hcw
  generalize w.drew = wd at *
  refine wpAnyH_take (i := 0) (v := .pointer (some ⟨cb, 0, none⟩)) rfl (by kernel_rfl) (by kernel_rfl) (by kernel_rfl) (fun _ _ _ h => h) (Or.inl ⟨by kernel_rfl, fun w hS => by go_simp⟩) hHeld ?_
  change wpAnyH _ _ _ _ _ _ _ { tmps := List.toArray (_ :: _ :: _ :: _ :: .pointer (some ⟨cb, 0, none⟩) :: _ :: _ :: _ :: _ :: _ :: _ :: _ :: _ :: _ :: _ :: _ :: _ :: _ :: _ :: _ :: _ :: _ :: _ :: _ :: _ :: _ :: _ :: _ :: _ :: _ :: _ :: _ :: _ :: []), defers := [] } _
  refine wpAnyH_take (i := 1) (v := .pointer (some ⟨cb, 0, none⟩)) rfl (by kernel_rfl) (by kernel_rfl) (by kernel_rfl) (fun _ _ _ h => h) (Or.inl ⟨by kernel_rfl, fun w hS => by go_simp⟩) hHeld ?_
  change wpAnyH _ _ _ _ _ _ _ { tmps := List.toArray (_ :: _ :: _ :: _ :: .pointer (some ⟨cb, 0, none⟩) :: .pointer (some ⟨cb, 0, none⟩) :: _ :: _ :: _ :: _ :: _ :: _ :: _ :: _ :: _ :: _ :: _ :: _ :: _ :: _ :: _ :: _ :: _ :: _ :: _ :: _ :: _ :: _ :: _ :: _ :: _ :: _ :: _ :: []), defers := [] } _
  refine wpAnyH_take (i := 2) (v := .pointer (some ⟨cb, 1, none⟩)) rfl (by kernel_rfl) (by kernel_rfl) (by kernel_rfl) (fun _ _ _ h => h) (Or.inl ⟨by kernel_rfl, fun w hS => by go_simp⟩) hHeld ?_
  change wpAnyH _ _ _ _ _ _ _ { tmps := List.toArray (_ :: _ :: _ :: _ :: .pointer (some ⟨cb, 0, none⟩) :: .pointer (some ⟨cb, 0, none⟩) :: .pointer (some ⟨cb, 1, none⟩) :: _ :: _ :: _ :: _ :: _ :: _ :: _ :: _ :: _ :: _ :: _ :: _ :: _ :: _ :: _ :: _ :: _ :: _ :: _ :: _ :: _ :: _ :: _ :: _ :: _ :: _ :: []), defers := [] } _
  refine wpAnyH_take (i := 3) (v := .int .i64 l) rfl (by kernel_rfl) (by kernel_rfl) (by kernel_rfl) (fun _ _ _ h => h) (Or.inl ⟨by kernel_rfl, fun w hS => by (obtain ⟨hS0, hS1⟩ := hS; go_simp)⟩) hHeld ?_
  change wpAnyH _ _ _ _ _ _ _ { tmps := List.toArray (_ :: _ :: _ :: _ :: .pointer (some ⟨cb, 0, none⟩) :: .pointer (some ⟨cb, 0, none⟩) :: .pointer (some ⟨cb, 1, none⟩) :: .int .i64 l :: _ :: _ :: _ :: _ :: _ :: _ :: _ :: _ :: _ :: _ :: _ :: _ :: _ :: _ :: _ :: _ :: _ :: _ :: _ :: _ :: _ :: _ :: _ :: _ :: _ :: []), defers := [] } _
  refine wpAnyH_take (i := 4) (v := .pointer (some ⟨tb, 0, none⟩)) rfl (by kernel_rfl) (by kernel_rfl) (by kernel_rfl) (fun _ _ _ h => h) (Or.inl ⟨by kernel_rfl, fun w hS => by go_simp⟩) hHeld ?_
  change wpAnyH _ _ _ _ _ _ _ { tmps := List.toArray (_ :: _ :: _ :: _ :: .pointer (some ⟨cb, 0, none⟩) :: .pointer (some ⟨cb, 0, none⟩) :: .pointer (some ⟨cb, 1, none⟩) :: .int .i64 l :: .pointer (some ⟨tb, 0, none⟩) :: _ :: _ :: _ :: _ :: _ :: _ :: _ :: _ :: _ :: _ :: _ :: _ :: _ :: _ :: _ :: _ :: _ :: _ :: _ :: _ :: _ :: _ :: _ :: _ :: []), defers := [] } _
  refine wpAnyH_take (i := 5) (v := .int .i64 q) rfl (by kernel_rfl) (by kernel_rfl) (by kernel_rfl) (fun _ _ _ h => h) (Or.inl ⟨by kernel_rfl, fun w hS => by (obtain ⟨hS0, hS1⟩ := hS; go_simp)⟩) hHeld ?_
  change wpAnyH _ _ _ _ _ _ _ { tmps := List.toArray (_ :: _ :: _ :: _ :: .pointer (some ⟨cb, 0, none⟩) :: .pointer (some ⟨cb, 0, none⟩) :: .pointer (some ⟨cb, 1, none⟩) :: .int .i64 l :: .pointer (some ⟨tb, 0, none⟩) :: .int .i64 q :: _ :: _ :: _ :: _ :: _ :: _ :: _ :: _ :: _ :: _ :: _ :: _ :: _ :: _ :: _ :: _ :: _ :: _ :: _ :: _ :: _ :: _ :: _ :: []), defers := [] } _
  refine wpAnyH_ready (rs := [6]) (by kernel_rfl) (by simp) ?_
  refine (AllReadyH.cons rfl (fun KK hK => ?_) AllReadyH.nil)
  go_simp
  refine (cAccI l q _).mono ?_
  rintro e wp ⟨rfl, hwp⟩
  subst wp
  go_wp2_with fail
  clear hHeld
  refine hK.out _ _ (⟨d1, e0⟩) (fun hHeld => ?_)
  clear hK KK
  change wpAnyH _ _ _ _ _ _ _ { tmps := List.toArray (_ :: _ :: _ :: _ :: .pointer (some ⟨cb, 0, none⟩) :: .pointer (some ⟨cb, 0, none⟩) :: .pointer (some ⟨cb, 1, none⟩) :: .int .i64 l :: .pointer (some ⟨tb, 0, none⟩) :: .int .i64 q :: .int .i64 (accV l q) :: _ :: _ :: _ :: _ :: _ :: _ :: _ :: _ :: _ :: _ :: _ :: _ :: _ :: _ :: _ :: _ :: _ :: _ :: _ :: _ :: _ :: _ :: []), defers := [] } _
  refine wpAnyH_done (by kernel_rfl) ?_ _
  generalize hV : accV l q = V at *
  replace hV := hide hV
  obtain ⟨⟨p0, p1, p2⟩, f0, f1, f2⟩ := blk3 X
  obtain ⟨⟨x0, x1, x2⟩, -⟩ := blk3 Y
  clear d1 e0
  by_cases hv1 : V = 1
  · have E : Hid (axS ⟨c, l, o⟩ ⟨q, k, b⟩ = ⟨c, l, o + 1⟩) := hide (by unfold axS; rw [if_pos (hV.out.trans hv1)])
    have b1 : (V == 1) = true := by simp [hv1]
    have hwo : IntKind.i64.wrap (o + 1) = o + 1 := wrap_in _ (by omega) (by omega)
    have X9 : (wd.setCell ⟨cb, 2, none⟩ (.int .i64 (o + 1))).heap[cb]? = some (.cells #[.int .i64 c, .int .i64 l, .int .i64 (o + 1)] 77 (0, 0)) := by
      have h9 := blk_set (i := 2) (v := .int .i64 (o + 1)) X
      simpa using h9
    have B9 : Below cb w0 (wd.setCell ⟨cb, 2, none⟩ (.int .i64 (o + 1))) := below_set (Nat.le_refl _) HB
    replace hv1 := hide hv1
    go_wp2
    refine bodyPost_ret (results_none rfl _ _ _) rfl ?_
    exact ⟨rfl, by rw [E.out]; exact X9, B9⟩
  have b1 : (V == 1) = false := by simp [hv1]
  by_cases hv2 : V = 2
  · have E : Hid (axS ⟨c, l, o⟩ ⟨q, k, b⟩ = ⟨cntV (-1) k (toldV b), q, o⟩) := hide (by unfold axS; rw [if_neg (fun e => hv1 (hV.out.symm.trans e)), if_pos (hV.out.trans hv2)])
    have b2 : (V == 2) = true := by simp [hv2]
    have X9 : ((wd.setCell ⟨cb, 0, none⟩ (.int .i64 (-1))).setCell ⟨cb, 1, none⟩ (.int .i64 q)).heap[cb]? = some (.cells #[.int .i64 (-1), .int .i64 q, .int .i64 o] 77 (0, 0)) := by
      have h9 := blk_set (i := 1) (v := .int .i64 q) (blk_set (i := 0) (v := .int .i64 (-1)) X)
      simpa using h9
    have Y9 := blk_other (i := 1) (v := .int .i64 q) (blk_other (i := 0) (v := .int .i64 (-1)) Y hne) hne
    have B9 : Below cb w0 ((wd.setCell ⟨cb, 0, none⟩ (.int .i64 (-1))).setCell ⟨cb, 1, none⟩ (.int .i64 q)) := below_set (Nat.le_refl _) (below_set (Nat.le_refl _) HB)
    have hb9 : Bys ((wd.setCell ⟨cb, 0, none⟩ (.int .i64 (-1))).setCell ⟨cb, 1, none⟩ (.int .i64 q)) a b := hlow _ B9 
    have CC := cCount cb (-1) q o q k a cp b _ X9 hb9 hy hl (by omega) (by omega)
    obtain ⟨⟨y0, y1, y2⟩, -⟩ := blk3 Y9
    obtain ⟨r0, r1, r2⟩ := (blk3 (blk_other (i := 0) (v := .int .i64 (-1)) Y hne)).1
    replace hv2 := hide hv2
    replace hv1 := hide hv1
    go_wp2_with fail
    refine CC.mono ?_
    rintro e w5 ⟨rfl, X5, B5⟩
    have B6 := B9.trans B5
    clear CC
    go_wp2
    go_end0
    exact ⟨rfl, by rw [E.out]; exact X5, B6⟩
  have b2 : (V == 2) = false := by simp [hv2]
  have E : Hid (axS ⟨c, l, o⟩ ⟨q, k, b⟩ = ⟨cntV c k (toldV b), q, o⟩) := hide (by unfold axS; rw [if_neg (fun e => hv1 (hV.out.symm.trans e)), if_neg (fun e => hv2 (hV.out.symm.trans e))])
  have X9 : (wd.setCell ⟨cb, 1, none⟩ (.int .i64 q)).heap[cb]? = some (.cells #[.int .i64 c, .int .i64 q, .int .i64 o] 77 (0, 0)) := by
    have h9 := blk_set (i := 1) (v := .int .i64 q) X
    simpa using h9
  have Y9 := blk_other (i := 1) (v := .int .i64 q) Y hne
  have B9 : Below cb w0 (wd.setCell ⟨cb, 1, none⟩ (.int .i64 q)) := below_set (Nat.le_refl _) HB
  have hb9 : Bys (wd.setCell ⟨cb, 1, none⟩ (.int .i64 q)) a b := hlow _ B9
  have CC := cCount cb c q o q k a cp b _ X9 hb9 hy hl hc0 hc1
  obtain ⟨⟨y0, y1, y2⟩, -⟩ := blk3 Y9
  replace hv2 := hide hv2
  replace hv1 := hide hv1
  go_wp2_with fail
  refine CC.mono ?_
  rintro e w5 ⟨rfl, X5, B5⟩
  have B6 := B9.trans B5
  clear CC
  go_wp2
  go_end0
  exact ⟨rfl, by rw [E.out]; exact X5, B6⟩
set_option maxRecDepth 100000 in
set_option maxHeartbeats 1600000 in
theorem cAllOf (a : Option Addr) (cap : Nat) (ts : List TelV) (w : World) (hR : Tels w a ts) (hl : ts.length ≤ 1048576) :
    Calls Try.prog 56 #[.slice a ts.length cap, .func (.func 17) #[] #[]] w fun e w' => e = .returned (.bool (okAll ts)) ∧ Below w.heap.size w w' := by
  go_enter Try.func56, Try.ntmps56
  go_wp2
  go_loopw [6, 9] (fun _ i wr => ∃ k : Nat, k ≤ ts.length ∧ i = .int .i64 k ∧ Hid (okAll (ts.take k) = true) ∧ Below w.heap.size w wr) (fun _ i _ => ts.length - (intOf i).toNat)
  case atStart => exact ⟨0, Nat.zero_le _, rfl, hide rfl, Below.refl _ _⟩
  case round =>
    obtain ⟨j, hj, rfl, hall, hb⟩ := hrel
    by_cases hlt : j < ts.length
    · obtain ⟨bb, off, na, nc, rfl, c0, c1, c2, -, -⟩ := (hR.below hb).at hlt
      have hst : Hid (okAll (ts.take (j + 1)) = telB ts[j].q ts[j].k ts[j].b.length) := hide (by
        rw [List.take_succ_eq_append_getElem hlt]
        have h1 := hall.out
        unfold okAll at h1 ⊢
        rw [List.all_append, h1]
        simp [okT])
      have hno : Hid (telB ts[j].q ts[j].k ts[j].b.length = false → okAll ts = false) := hide (fun h => by
        cases h2 : okAll ts
        · rfl
        · have h3 := List.all_eq_true.1 h2 _ (List.getElem_mem hlt)
          have h4 : okT ts[j] = telB ts[j].q ts[j].k ts[j].b.length := rfl
          rw [h4, h] at h3; cases h3)
      generalize ts[j] = R at *
      obtain ⟨q, k, b⟩ := R
      dsimp only at c0 c1 c2 hst hno
      generalize b.length = bn at *
      have hk0 : (0 : Int) ≤ (j : Int) := by omega
      have hk1 : (j : Int) < (ts.length : Int) := by omega
      have Y := one_block wr (.cells #[.int .i64 q, .int .i64 k, .slice na bn nc] 25)
      have hb2 := balloc wr (.cells #[.int .i64 q, .int .i64 k, .slice na bn nc] 25)
      have HB := btrans hb hb2
      obtain ⟨⟨x0, x1, x2⟩, -⟩ := blk3 Y
      have CO := cOkI q k na bn nc (wr.alloc (.cells #[.int .i64 q, .int .i64 k, .slice na bn nc] 25))
      clear hb2 hb Y hR hall
      cases hT : telB q k bn
      · have E := hide (hno.out hT)
        rw [hT] at CO
        clear hst hno
        go_wp2_with fail
        refine CO.mono ?_
        rintro e w2 ⟨rfl, hb3⟩
        have HB3 := btrans HB hb3
        clear CO
        go_wp2
        go_ret
        exact ⟨ret_bool E.out.symm, HB3⟩
      · rw [hT] at CO hst
        clear hno
        go_wp2_with fail
        refine CO.mono ?_
        rintro e w2 ⟨rfl, hb3⟩
        have HB3 := btrans HB hb3
        clear CO HB hb3 x0 x1 x2 c0 c1 c2
        go_wp2
        go_roundw
        case rel => exact ⟨j + 1, by omega, by go_num, hst, HB3⟩
        case measure => simp [intOf]; omega
    · obtain rfl : j = ts.length := by omega
      rw [List.take_length] at hall
      clear hR
      go_wp2
      go_ret
      exact ⟨ret_bool hall.out.symm, hb⟩
def AnsAx (w : World) (ts : List TelV) (e : Ending) (w' : World) : Prop := e = .returned (.tuple #[.int .i64 (axA ts).1, .int .i64 (axA ts).2]) ∧ Below w.heap.size w w'
set_option maxRecDepth 100000 in
set_option maxHeartbeats 3200000 in
theorem cAxI (a : Option Addr) (cap : Nat) (ts : List TelV) (w : World) (hR : Tels w a ts) (hS : Small ts) (hY : ByT ts) :
    Calls Try.prog 24 #[.slice a ts.length cap] w (AnsAx w ts) := by
  obtain ⟨hl, he⟩ := hS
  by_cases h2 : 200 < ts.length
  · have E : Hid (axA ts = (-1, -1)) := hide (by unfold axA; rw [if_neg (by omega)])
    have hgt : (200 : Int) < (ts.length : Int) := by omega
    clear hR
    go_enter Try.func24, Try.ntmps24
    go_wp2
    go_ret2
    exact ⟨by rw [E.out]; rfl, Below.refl _ _⟩
  have hgt : ¬ ((200 : Int) < (ts.length : Int)) := by omega
  have CA := cAllOf a cap ts w hR hl
  cases hA : okAll ts
  · have E : Hid (axA ts = (-1, -1)) := hide (by unfold axA; rw [if_neg (fun h => by rw [hA] at h; cases h.2)])
    rw [hA] at CA
    clear hR
    go_enter Try.func24, Try.ntmps24
    go_wp2_with fail
    refine CA.mono ?_
    rintro e w1 ⟨rfl, hb1⟩
    clear CA
    go_wp2
    go_ret2
    exact ⟨by rw [E.out]; rfl, hb1⟩
  have E : Hid (axA ts = ((axF ts).c, (axF ts).o)) := hide (by unfold axA; rw [if_pos ⟨by omega, hA⟩])
  have hin := hide (axF_in ts hY)
  rw [hA] at CA
  replace he := hide he
  replace hY := hide hY
  replace hR := hide hR
  clear hA
  go_enter Try.func24, Try.ntmps24
  go_wp2_with fail
  refine CA.mono ?_
  rintro e w1 ⟨rfl, hb1⟩
  have X0 : (w1.alloc (.cells #[.int .i64 0, .int .i64 255, .int .i64 0] 77)).heap[w1.heap.size]? = some (.cells #[.int .i64 (axF (ts.take 0)).c, .int .i64 (axF (ts.take 0)).l, .int .i64 (axF (ts.take 0)).o] 77 (0, 0)) := one_block w1 _
  have B0 := btrans hb1 (balloc w1 (.cells #[.int .i64 0, .int .i64 255, .int .i64 0] 77))
  have hcb : w.heap.size ≤ w1.heap.size := hb1.size
  clear CA hb1
  go_wp2
  generalize w1.alloc (.cells #[.int .i64 0, .int .i64 255, .int .i64 0] 77) = w2 at *
  generalize w1.heap.size = cb at *
  go_loopw [6, 19] (fun _ i wr => ∃ j : Nat, j ≤ ts.length ∧ i = .int .i64 j ∧ wr.heap[cb]? = some (.cells #[.int .i64 (axF (ts.take j)).c, .int .i64 (axF (ts.take j)).l, .int .i64 (axF (ts.take j)).o] 77 (0, 0)) ∧ Below w.heap.size w wr) (fun _ i _ => ts.length - (intOf i).toNat)
  case atStart => exact ⟨0, Nat.zero_le _, rfl, X0, B0⟩
  case round =>
    obtain ⟨j, hj, rfl, X, hb⟩ := hrel
    clear X0 B0
    obtain ⟨i0, i1, i2, i3⟩ := hin.out j hj
    by_cases hlt : j < ts.length
    · obtain ⟨bb, off, na, nc, rfl, c0, c1, c2, -, c3⟩ := hR.out.at hlt
      have hst : Hid (axF (ts.take (j + 1)) = axS (axF (ts.take j)) ts[j]) := hide (by rw [List.take_succ_eq_append_getElem hlt, axF_snoc])
      have hby := hY.out _ (List.getElem_mem hlt)
      have hbl := he.out _ (List.getElem_mem hlt)
      replace c0 := ble hb c0
      replace c1 := ble hb c1
      replace c2 := ble hb c2
      generalize axF (ts.take j) = S at *
      obtain ⟨c, l, o⟩ := S
      generalize ts[j] = R at *
      obtain ⟨q, k, b⟩ := R
      dsimp only at c0 c1 c2 hst hby hbl X i0 i1 i2 i3 c3
      have hk0 : (0 : Int) ≤ (j : Int) := by omega
      have hk1 : (j : Int) < (ts.length : Int) := by omega
      have Y := one_block wr (.cells #[.int .i64 q, .int .i64 k, .slice na b.length nc] 25)
      have hb2 := balloc wr (.cells #[.int .i64 q, .int .i64 k, .slice na b.length nc] 25)
      have HB := btrans hb hb2
      replace X := blk_keep hb2 X
      obtain ⟨⟨x0, x1, x2⟩, -⟩ := blk3 Y
      have CH := cHear cb c l o q k na nc b _ X (fun W hW => c3.below (HB.trans (hW.mono hcb))) hby hbl i0 (by omega) i2 (by omega)
      clear hb2 hb Y c3
      go_wp2_with fail
      refine CH.mono ?_
      rintro e w3 ⟨rfl, X3, B3⟩
      have HB3 := HB.trans (B3.mono hcb)
      rw [← hst.out] at X3
      clear CH HB B3 X x0 x1 x2 c0 c1 c2 hst
      go_wp2
      go_roundw
      case rel => exact ⟨j + 1, by omega, by go_num, X3, HB3⟩
      case measure => simp [intOf]; omega
    · obtain rfl : j = ts.length := by omega
      rw [List.take_length] at X
      obtain ⟨⟨x0, x1, x2⟩, -⟩ := blk3 X
      have fin : AnsAx w ts (.returned (.tuple #[.int .i64 (axF ts).c, .int .i64 (axF ts).o])) wr.drew := ⟨by rw [E.out], hb.drew⟩
      generalize axF ts = S at *
      clear X hb E i0 i1 i2 i3
      go_wp2_with fail
      go_region_held3 (fun w' => w'.cell? ⟨cb, 0, none⟩ = some (.int .i64 S.c) ∧ w'.cell? ⟨cb, 2, none⟩ = some (.int .i64 S.o)) (go_keep) (fail)
      go_wp2
      go_ret2
      exact fin
end Go.Proofs.Ytgnohomplehacaa
