/- Volts and Losses of the program. -/
import Derived.Test.YtapnidhokpkmdaaZE
namespace Go.Proofs.Ytapnidhokpkmdaa
open Go.RowKit Fl
attribute [local go_sem] run_store_float

theorem wireB_yes {ls ds : List ZV} (h1 : ls.length = ds.length) (h2 : ls.length ≤ 40) : wireB (cs ls) (cs ds) = true := by simp [wireB, cs_len, h1, h1 ▸ h2]
theorem wireB_no1 {ls ds : List ZV} (h1 : ls.length ≠ ds.length) : wireB (cs ls) (cs ds) = false := by simp [wireB, cs_len, h1]
theorem wireB_no2 {ls ds : List ZV} (h2 : ¬ ls.length ≤ 40) : wireB (cs ls) (cs ds) = false := by simp [wireB, cs_len]; intro _; omega
theorem voltsC_no {v : C2} {ls ds : List C2} (h : wireB ls ds = false) : voltsC v ls ds = [] := by simp [voltsC, h]
theorem voltsC_yes {v : C2} {ls ds : List C2} (h : wireB ls ds = true) : voltsC v ls ds = (List.range ls.length).map (fun k => vAt v ls ds (k + 1)) := by simp [voltsC, h]
theorem lAt_succ (ls ds : List C2) (k : Nat) : lAt ls ds (k + 1) = zo .add (lAt ls ds k) (zo .mul (zsize (sAt ds k)) (gC ls k).1) := rfl
theorem lossC_no {ls ds : List C2} (h : wireB ls ds = false) : lossC ls ds = cl 0 := by simp [lossC, h]
theorem lossC_yes {ls ds : List C2} (h : wireB ls ds = true) : lossC ls ds = lAt ls ds ls.length := by simp [lossC, h]

set_option maxHeartbeats 400000 in
theorem cWire (a b : Option Addr) (c d n m : Nat) (w : World) : Calls Try.prog 60 #[.slice a n c, .slice b m d] w fun e w' => e = .returned (.bool (decide (n = m) && decide (n ≤ 40))) ∧ w' = w := by
  by_cases h1 : n = m
  · subst h1
    by_cases h2 : n ≤ 40
    · have h3 : (n : Int) ≤ 40 := by omega
      go_enter Try.func60, Try.ntmps60
      go_wp2
      go_ret
      exact ⟨ret_bool (by simp [h2]), rfl⟩
    · have h3 : ¬ (n : Int) ≤ 40 := by omega
      go_enter Try.func60, Try.ntmps60
      go_wp2
      go_ret
      exact ⟨ret_bool (by simp), rfl⟩
  · have h3 : ((n : Int) == (m : Int)) = false := by simp; omega
    go_enter Try.func60, Try.ntmps60
    go_wp2
    go_ret
    exact ⟨ret_bool (by simp [h1]), rfl⟩

set_option maxRecDepth 20000 in
set_option maxHeartbeats 6400000 in
theorem cVoltsI (v : ZV) (la da : Option Addr) (lc dc : Nat) (ls ds : List ZV) (w : World) (hls : Zs w la ls) (hds : Zs w da ds) (nl : ls.length ≤ maxLen) :
    Calls Try.prog 19 #[v.val, .slice la ls.length lc, .slice da ds.length dc] w (AnsZ w (voltsC v.c (cs ls) (cs ds))) := by
  obtain ⟨i0, hi, hz0, hz1, hz2⟩ := info_parts infoZs
  obtain ⟨vr, vi⟩ := v
  unfold ZV.val
  have HB := balloc w (.cells #[.float .f64 vr, .float .f64 vi] 26)
  have A0 := one_block w (.cells #[.float .f64 vr, .float .f64 vi] 26)
  unfold maxLen at nl
  by_cases hw : ls.length = ds.length ∧ ls.length ≤ 40
  · obtain ⟨hw1, hw2⟩ := hw
    rw [voltsC_yes (wireB_yes hw1 hw2), cs_len]
    have CC := fun w1 h => cCurr da dc ds w1 h (by omega)
    unfold AnsC at CC
    obtain ⟨n, hn⟩ : ∃ n, ls.length = n := ⟨_, rfl⟩
    have HN := hide hn
    have HM : Hid (ds.length = n) := hide (hw1.symm.trans hn)
    rw [← hw1, hn] at CC ⊢
    rw [hn] at hw2
    clear hw1 hn nl
    go_enter Try.func19, Try.ntmps19
    go_wp2_with fail
    generalize w.alloc (.cells #[.float .f64 vr, .float .f64 vi] 26) = w0 at *
    refine (cWire _ _ _ _ _ _ _).mono ?_
    rintro e w9 ⟨rfl, hw9⟩
    subst w9
    rw [show (decide (n = n) && decide (n ≤ 40)) = true by simp [hw2]]
    obtain ⟨⟨u0, u1⟩, -⟩ := twoC A0
    go_wp2_with (at_make; refine wpList_make_full _ rfl _ _ 27 rfl w0.heap.size 26 i0 (.agg #[.float .f64 0, .float .f64 0]) 2 Try.underlying27 hi hz0 hz1 _ _ _ _ n rfl rfl rfl rfl (by rw [hz2]; omega) (by unfold maxLen; omega) (Nat.le_refl _) ?_; intro w1 hown hgrow; have hbel : Below w0.heap.size w0 w1 := (Below.refl _ _).grown hgrow (Nat.le_refl _) (fun k hk => by cases hk); obtain ⟨⟨x0, x1⟩, -⟩ := twoC (keepB hbel A0))
    rw [madeZs] at hown
    have HB1 := btrans HB hbel
    refine (cNumber2 vr vi _).mono ?_
    rintro e w2 ⟨rfl, hb2⟩
    have HB2 := btrans HB1 hb2
    have O2 := own_keep hown hb2
    have hg0 := owns_lt O2
    clear u0 u1 x0 x1 hgrow hown hbel HB1 hb2 A0
    go_wp2_with fail
    refine (CC w2 (hds.below HB2)).mono ?_
    rintro e w3 ⟨g2, cy, rfl, hcy, hC, hb3⟩
    have HB3 := btrans HB2 hb3
    have O3 := own_keep O2 hb3
    have hwg : w.heap.size ≤ w0.heap.size := HB.size
    have hg2 : g2 ≠ w0.heap.size := by have h1 := own_from hcy (Nat.le_refl _) g2 rfl; omega
    clear O2 HB2 hb3 CC
    go_wp2_with fail
    go_loopw [8, 23] (fun hv i wr => ∃ (k : Nat) (zs : List ZV) (z : ZV), k ≤ n ∧ i = .int .i64 k ∧ hv = .complex .f64 z.re z.im ∧ z.c = vAt (ZV.c ⟨vr, vi⟩) (cs ls) (cs ds) k ∧ wr.ownsRow w0.heap.size 26 2 (.slice (some ⟨w0.heap.size, 0, none⟩) n n) n (flatZs zs) ∧ wr.ownsRow w2.heap.size 69 1 (.slice (some ⟨g2, 0, none⟩) n n) n (cxL cy) ∧ Done n k (fun k => vAt (ZV.c ⟨vr, vi⟩) (cs ls) (cs ds) (k + 1)) zs ∧ Below w.heap.size w wr) (fun _ i _ => n - (intOf i).toNat)
    case atStart => exact ⟨0, _, ⟨vr, vi⟩, Nat.zero_le _, rfl, rfl, rfl, O3, hcy, Done.zero _ _, HB3⟩
    case round =>
      clear O3 HB3 hcy
      obtain ⟨k, zs, z, hk, rfl, rfl, hz, O, hcy, hD, hb⟩ := hrel
      obtain ⟨hr, hj⟩ := z
      by_cases hlt : k < n
      · have hkl : k < ls.length := by have := HN.out; omega
        have hky : k < cy.length := by rw [hC.len]; have := HM.out; omega
        have hkz : k < zs.length := by rw [hD.len]; exact hlt
        have d0 := (hcy.cellAt k (by omega)).trans (cxL_get hky)
        have hc := hide (hC.at' k (by have := HM.out; omega) (by have := HM.out; omega))
        have hZ := hide hz
        have hG := hide (gC_cs hkl)
        rcases hls with h | ⟨lb, lo, rfl, q1⟩
        · simp [h] at hkl
        obtain ⟨p0, p1⟩ := q1 k hkl
        replace p0 := ble hb p0
        replace p1 := ble hb p1
        clear q1 hz
        generalize cy.getD k ZV.zero = y at *
        obtain ⟨yr, yi⟩ := y
        generalize ls.getD k ZV.zero = x at *
        obtain ⟨xr, xi⟩ := x
        dsimp only at d0 p0 p1 ⊢
        have M := csub_run
        go_wp2_with fail
        refine (cNumber2 xr xi _).mono ?_
        rintro e w4 ⟨rfl, hb4⟩
        have HB4 := btrans hb hb4
        have O4 := own_keep O hb4
        have hcy4 := own_keep hcy hb4
        clear hb hb4 O hcy d0 p0 p1
        go_wp2_with fail
        refine (cProduct2 xr xi yr yi _).mono ?_
        rintro e w5 ⟨pr, pi, m, rfl, hP, hw5⟩
        subst w5
        go_wp2_with fail
        generalize hp : fr .sub hr pr _ = sr
        generalize hq : fr .sub hj pi _ = si
        have hS : ZV.c ⟨sr, si⟩ = vAt (ZV.c ⟨vr, vi⟩) (cs ls) (cs ds) (k + 1) := by
          show _ = zsub _ (zmul (gC (cs ls) k) (sAt (cs ds) k))
          rw [hG.out, ← hc.out, ← hZ.out, ← hP, ← hp, ← hq]
          simp only [ZV.c, zsub, cl_fr]
        clear hp hq hP hG hc hZ
        refine (cZOf2 sr si _).mono ?_
        rintro e w6 ⟨rfl, hb6⟩
        replace hb6 := undrewN hb6
        have HB6 := btrans HB4 hb6
        have O6 := own_keep O4 hb6
        have hcy6 := own_keep hcy4 hb6
        obtain ⟨y0, y1⟩ := flatZs_get zs k hkz
        have c0 := (O6.cellAt (k * 2) (by omega)).trans y0
        have c1 := (O6.cellAt (k * 2 + 1) (by omega)).trans y1
        have f0 := O6.frozenAt (k * 2)
        have f1 := O6.frozenAt (k * 2 + 1)
        have O7 := ((O6.stored (k * 2) (.float .f64 sr)).1.stored (k * 2 + 1) (.float .f64 si)).1
        rw [flatZs_set zs k ⟨sr, si⟩ hkz] at O7
        have D7 := hD.step (z := ⟨sr, si⟩) hlt hS
        have hcy7 := own_set (b := w0.heap.size) (i := k * 2 + 1) (u := .float .f64 si) (own_set (b := w0.heap.size) (i := k * 2) (u := .float .f64 sr) hcy6 (fun j hj => by simp [Value.ownBlock] at hj; omega)) (fun j hj => by simp [Value.ownBlock] at hj; omega)
        have HB7 := below_set (b := w0.heap.size) (o := k * 2 + 1) (v := .float .f64 si) hwg (below_set (b := w0.heap.size) (o := k * 2) (v := .float .f64 sr) hwg HB6)
        clear O6 O4 hcy6 hcy4 HB6 HB4 hb6 y0 y1 hD hky
        generalize zs.getD k ZV.zero = zo at c0 c1
        go_wp2
        go_roundw
        case rel => exact ⟨k + 1, _, ⟨sr, si⟩, by omega, by go_num, rfl, hS, O7, hcy7, D7, HB7⟩
        case measure => simp [intOf]; omega
      · obtain rfl : k = n := by omega
        clear hls hds hcy
        have hcs := hD.cs
        have hlz := hD.len
        have ho := own_base O hwg
        clear O
        go_wp2
        go_ret
        exact ⟨_, zs, rfl, by rw [hlz]; exact ho, hcs, hb⟩
  · have hno : wireB (cs ls) (cs ds) = false := by
      by_cases h1 : ls.length = ds.length
      · exact wireB_no2 (fun h2 => hw ⟨h1, h2⟩)
      · exact wireB_no1 h1
    rw [voltsC_no hno]
    have hd : (decide (ls.length = ds.length) && decide (ls.length ≤ 40)) = false := by
      simp only [Bool.and_eq_false_iff, decide_eq_false_iff_not]
      by_cases h1 : ls.length = ds.length
      · exact .inr (fun h2 => hw ⟨h1, h2⟩)
      · exact .inl h1
    clear hno hw
    go_enter Try.func19, Try.ntmps19
    go_wp2_with fail
    refine (cWire _ _ _ _ _ _ _).mono ?_
    rintro e w9 ⟨rfl, hw9⟩
    subst w9
    rw [hd]
    go_wp2
    go_ret
    exact AnsZ.no HB

set_option maxRecDepth 20000 in
set_option maxHeartbeats 6400000 in
theorem cLossesI (la da : Option Addr) (lc dc : Nat) (ls ds : List ZV) (w : World) (hls : Zs w la ls) (hds : Zs w da ds) (nl : ls.length ≤ maxLen) :
    Calls Try.prog 25 #[.slice la ls.length lc, .slice da ds.length dc] w fun e w' => ∃ r, e = .returned (.float .f64 r) ∧ cl r = lossC (cs ls) (cs ds) ∧ Below w.heap.size w w' := by
  unfold maxLen at nl
  by_cases hw : ls.length = ds.length ∧ ls.length ≤ 40
  · obtain ⟨hw1, hw2⟩ := hw
    rw [lossC_yes (wireB_yes hw1 hw2), cs_len]
    have CC := fun w1 h => cCurr da dc ds w1 h (by omega)
    unfold AnsC at CC
    obtain ⟨n, hn⟩ : ∃ n, ls.length = n := ⟨_, rfl⟩
    have HN := hide hn
    have HM : Hid (ds.length = n) := hide (hw1.symm.trans hn)
    rw [← hw1, hn] at CC ⊢
    rw [hn] at hw2
    clear hw1 hn nl
    go_enter Try.func25, Try.ntmps25
    go_wp2_with fail
    refine (cWire _ _ _ _ _ _ _).mono ?_
    rintro e w9 ⟨rfl, hw9⟩
    subst w9
    rw [show (decide (n = n) && decide (n ≤ 40)) = true by simp [hw2]]
    go_wp2_with fail
    refine (CC w hds).mono ?_
    rintro e w3 ⟨g2, cy, rfl, hcy, hC, hb3⟩
    clear CC
    go_wp2_with fail
    go_loopw [5, 15] (fun s i wr => ∃ (k r : Nat), k ≤ n ∧ i = .int .i64 k ∧ s = .float .f64 r ∧ cl r = lAt (cs ls) (cs ds) k ∧ wr.ownsRow w.heap.size 69 1 (.slice (some ⟨g2, 0, none⟩) n n) n (cxL cy) ∧ Below w.heap.size w wr) (fun _ i _ => n - (intOf i).toNat)
    case atStart => exact ⟨0, 0, Nat.zero_le _, rfl, rfl, rfl, hcy, hb3⟩
    case round =>
      clear hb3 hcy
      obtain ⟨k, r, hk, rfl, rfl, hr, hcy, hb⟩ := hrel
      by_cases hlt : k < n
      · have hkl : k < ls.length := by have := HN.out; omega
        have hky : k < cy.length := by rw [hC.len]; have := HM.out; omega
        have d0 := (hcy.cellAt k (by omega)).trans (cxL_get hky)
        have hc := hide (hC.at' k (by have := HM.out; omega) (by have := HM.out; omega))
        have hR := hide hr
        have hG := hide (gC_cs hkl)
        rcases hls with h | ⟨lb, lo, rfl, q1⟩
        · simp [h] at hkl
        obtain ⟨p0, p1⟩ := q1 k hkl
        replace p0 := ble hb p0
        clear q1 hr p1 hky
        generalize cy.getD k ZV.zero = y at *
        obtain ⟨yr, yi⟩ := y
        generalize ls.getD k ZV.zero = x at *
        obtain ⟨xr, xi⟩ := x
        dsimp only at d0 p0 ⊢
        have M := fadd_run
        have CS := fun w => cSize ⟨yr, yi⟩ w
        simp only [ZV.cx] at CS
        go_wp2_with fail
        go_region_with (first
          | (go_at_call 65; refine (cTimes s5 xr _).mono ?_; rintro e w6 ⟨t6, m6, rfl, h6, hw6⟩; subst w6)
          | (go_at_call 63; refine (CS _).mono ?_; rintro e w5 ⟨s5, m5, rfl, h5, hw5⟩; subst w5))
        all_goals go_wp2_with fail
        all_goals generalize hp : fr .add r t6 _ = r2
        all_goals have hR2 : cl r2 = lAt (cs ls) (cs ds) (k + 1) := (by rw [lAt_succ, hG.out, ← hc.out, ← hR.out, ← hp, cl_fr, h6, h5]; rfl)
        all_goals exact ⟨⟨k + 1, r2, by omega, by go_num, rfl, hR2, own_keep hcy (Go.Joins.below_draws _ _ _), bdraw hb _⟩, by simp [intOf]; omega⟩
      · obtain rfl : k = n := by omega
        clear hls hds hcy
        go_wp2
        go_ret
        exact ⟨r, rfl, hr, hb⟩
  · have hno : wireB (cs ls) (cs ds) = false := by
      by_cases h1 : ls.length = ds.length
      · exact wireB_no2 (fun h2 => hw ⟨h1, h2⟩)
      · exact wireB_no1 h1
    rw [lossC_no hno]
    have hd : (decide (ls.length = ds.length) && decide (ls.length ≤ 40)) = false := by
      simp only [Bool.and_eq_false_iff, decide_eq_false_iff_not]
      by_cases h1 : ls.length = ds.length
      · exact .inr (fun h2 => hw ⟨h1, h2⟩)
      · exact .inl h1
    clear hno hw
    go_enter Try.func25, Try.ntmps25
    go_wp2_with fail
    refine (cWire _ _ _ _ _ _ _).mono ?_
    rintro e w9 ⟨rfl, hw9⟩
    subst w9
    rw [hd]
    go_wp2
    go_ret
    exact ⟨0, rfl, rfl, Below.refl _ _⟩
end Go.Proofs.Ytapnidhokpkmdaa
