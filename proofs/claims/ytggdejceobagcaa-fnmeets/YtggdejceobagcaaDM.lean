/- The walk of the law on trains that meet. -/
import Derived.Test.YtggdejceobagcaaDS
import Derived.Deep.RegionHeld3
namespace Go.Proofs.Ytggdejceobagcaa
open Go.RowKit

theorem far_take {ts : List SingleV} {k : Nat} (hk : k < ts.length) : far (ts.take (k + 1)) = far (ts.take k) + away ts[k] := by
  rw [List.take_succ_eq_append_getElem hk, far_app]; simp [far]
theorem finR_ok {ls : List Int} {ts : List SingleV} (h : singlesOk ls ts = true) : finR ls ts = fin ls ts := by simp [finR, h]
theorem canOk_ok {ls : List Int} {ts : List SingleV} (h : singlesOk ls ts = true) : canOk ls ts = canFin ls ts := by simp [canOk, h]
theorem can_not_stuck {ls : List Int} {ts : List SingleV} (h : canFin ls ts = true) : stuckT ls ts = false := by
  cases hs : stuckT ls ts with
  | false => rfl
  | true => rw [stuck_cant hs] at h; cases h
theorem FinAt.done {ls L : List Int} {q : List SingleV} (h : FinAt ls L L q) : doneT q = true := by
  have h1 := congrArg List.length h.sum
  rw [List.length_append, fin_len _ q rfl h.can] at h1
  exact (done_far q).2 (by omega)
theorem FinAt.more {ls L : List Int} {q : List SingleV} {k : Nat} (h : FinAt ls L (L.take k) q) (hk : k < L.length) : doneT q = false := by
  cases hd : doneT q with
  | false => rfl
  | true =>
    have := h.end hd
    have h1 := congrArg List.length this
    simp at h1
    omega
theorem FinAt.next {ls L : List Int} {q : List SingleV} {k : Nat} (h : FinAt ls L (L.take k) q) (hk : k < L.length) : ∃ i, i < q.length ∧ firstOf ls q = (i : Nat) ∧ mayGo ls q i = true ∧ L[k] = (i : Int) ∧ FinAt ls L (L.take (k + 1)) (moveT q i) := by
  obtain ⟨i, h1, h2, h3, h4⟩ := h.step (h.more hk)
  have e : L[k] = (i : Int) := by
    have e1 : L = L.take k ++ (i : Int) :: fin ls (moveT q i) := by
      have := h4.sum
      rw [List.append_assoc] at this
      exact this.symm
    have e2 : L[k]? = some (i : Int) := by
      rw [e1, List.getElem?_append_right (by rw [List.length_take]; omega), List.length_take]
      simp [Nat.min_eq_left (Nat.le_of_lt hk)]
    rw [List.getElem?_eq_getElem hk] at e2
    exact Option.some.inj e2
  refine ⟨i, h1, h2, h3, e, ?_⟩
  rw [List.take_succ_eq_append_getElem hk, e]
  exact h4
theorem move_goal {ls : List Int} {q : List SingleV} {i : Nat} (h : singlesOk ls q = true) (hi : i < q.length) (hm : mayGo ls q i = true) : (moveT q i).map (·.d) = q.map (·.d) := (move_kin h hi hm).goal
theorem goal_at {q ts : List SingleV} (h : q.map (·.d) = ts.map (·.d)) {j : Nat} (h1 : j < q.length) (h2 : j < ts.length) : q[j].d = ts[j].d := by
  have := congrArg (fun l => l[j]?) h
  simpa [h1, h2] using this
theorem done_at {q : List SingleV} (h : doneT q = true) {j : Nat} (hj : j < q.length) : q[j].s = q[j].d := by
  simp only [doneT, List.all_eq_true, decide_eq_true_eq] at h
  exact h _ (List.getElem_mem hj)
theorem done_not_stuck {ls : List Int} {q : List SingleV} (h : doneT q = true) : stuckT ls q = false := by simp [stuckT, h]

set_option maxRecDepth 20000 in
set_option maxHeartbeats 12800000 in
theorem walkMeets (a : Option Addr) (cap : Nat) (bs : List Int) (w : World) (hz : Bytes w a bs) (hm : bs.length ≤ maxLen) :
    Calls Try.prog 3 #[.slice a bs.length cap] w fun e w' => e = .returned (.bool true) ∧ Below w.heap.size w w' := by
  by_cases hl2 : 1048576 < bs.length
  · go_enter Try.func3, Try.ntmps3
    go_wp2_with fail
    refine (cbig a cap bs.length _ hm).mono ?_
    rintro e w1 ⟨rfl, hw⟩
    subst w1
    rw [decide_eq_true hl2]
    go_wp2
    go_ret
    exact ⟨rfl, Below.refl _ _⟩
  have hl : bs.length ≤ 1048576 := by omega
  go_enter Try.func3, Try.ntmps3
  go_wp2_with fail
  refine (cbig a cap bs.length _ hm).mono ?_
  rintro e w1 ⟨rfl, hw⟩
  subst w1
  rw [decide_eq_false hl2]
  go_wp2_with fail
  refine (cDrawRS a cap bs _ hz hl).mono ?_
  rintro e w1 ⟨la, lc, ls, tb, tc, ts, rfl, hok, OL, OT, HB1⟩
  have hD1 : Drawn w1 la lc ls tb tc ts := ⟨hok, Ints.own OL rfl, Singles.own OT, own_lt OL, own_lt OT, (own_safe OT).1, (own_safe OT).2⟩
  obtain ⟨hs5, hs4⟩ := hD1.sizes
  clear OL OT hz hm hl hl2
  go_wp2_with fail
  refine (cFinishI la tb lc tc ls ts _ hD1.line (by omega) hD1.lla hD1.trains hD1.none hD1.spot (by omega)).mono ?_
  rintro e w2 ⟨v, rfl, OM, hb2⟩
  have HB2 := btrans HB1 hb2
  have hD2 := hD1.below hb2
  have hLl := finR_le ls ts
  have hLe := finR_ok hok
  generalize finR ls ts = L at *
  replace hLe := hide hLe
  obtain ⟨ma, mc, rfl⟩ := own_form OM
  have hM2 := Ints.own OM rfl
  clear OM hb2 hD1 HB1
  go_wp2_with fail
  refine (cCanI la tb lc tc ls ts _ hD2.line (by omega) hD2.lla hD2.trains hD2.none hD2.spot (by omega)).mono ?_
  rintro e w3 ⟨rfl, hb3⟩
  have HB3 := btrans HB2 hb3
  have hD3 := hD2.below hb3
  have hM3 := hM2.below hb3
  clear hb3 hD2 hM2 HB2
  rw [canOk_ok hok]
  go_wp2_with fail
  refine (cSinglesI la tb lc tc ls ts _ hD3.line (by omega) hD3.trains (by omega)).mono ?_
  rintro e w4 ⟨rfl, hb4⟩
  have HB4 := btrans HB3 hb4
  have hD4 := hD3.below hb4
  have hM4 := hM3.below hb4
  clear hb4 hD3 hM3 HB3
  rw [hok]
  go_wp2_with fail
  refine (cCanS la tb lc tc ls ts _ hD4.line (by omega) hD4.lla hD4.trains hD4.ltb (by omega)).mono ?_
  rintro e w5 ⟨rfl, hb5⟩
  have HB5 := btrans HB4 hb5
  have hD5 := hD4.below hb5
  have hM5 := hM4.below hb5
  clear hb5 hD4 hM4 HB4
  rw [canOk_ok hok]
  have hfarb : ∀ k, far (ts.take k) ≤ 100 := by
    intro k
    have h1 := far_le (ts := ts.take k) (c := 8) (fun t ht => by
      have := trainOk_parts ((singlesOk_parts hok).2.2 t (List.mem_of_mem_take ht))
      unfold away; omega)
    have h2 : (ts.take k).length ≤ ts.length := by rw [List.length_take]; omega
    omega
  have hft := fun k (hk : k < ts.length) => far_take hk
  have hfe : far (ts.take ts.length) = far ts := by rw [List.take_length]
  have hin := fun j (hj : j < ts.length) => ok_inLine hok hj
  replace hfe := hide hfe
  replace hft := hide hft
  replace hin := hide hin
  replace hfarb := hide hfarb
  go_wp2
  go_loopw [7, 8] (fun f i wr => ∃ k : Nat, k ≤ ts.length ∧ i = .int .i64 k ∧ f = .int .i64 (far (ts.take k)) ∧ Below w5.heap.size w5 wr) (fun _ i _ => ts.length - (intOf i).toNat)
  case atStart => exact ⟨0, Nat.zero_le _, rfl, rfl, Below.refl _ _⟩
  case round =>
    obtain ⟨k, hk, rfl, rfl, hb⟩ := hrel
    by_cases hlt : k < ts.length
    · have T := (hD5.below hb).trains
      have hin1 := hin.out k hlt
      have hst := hide (hft.out k hlt)
      have hfb := hfarb.out k
      have hfb2 := hfarb.out (k + 1)
      rcases T with h | ⟨nb, off, rfl, hcl⟩
      · simp [h] at hlt
      obtain ⟨q0, q1⟩ := hcl k hlt
      rw [getD_lt hlt] at q0 q1
      obtain ⟨r1, r2, r3, r4⟩ := hin1
      have haw : (away ts[k] : Int) = if ts[k].s - ts[k].d < 0 then -(ts[k].s - ts[k].d) else ts[k].s - ts[k].d := by
        unfold away; split <;> omega
      generalize away ts[k] = A at *
      generalize ts[k].s = s at *
      generalize ts[k].d = d at *
      generalize far (ts.take k) = F at *
      clear hcl hft hfarb hin hfe hLe
      by_cases hneg : s - d < 0
      · rw [if_pos hneg] at haw
        have hF := hide (show (F : Int) + -(s - d) = (far (ts.take (k + 1)) : Int) by rw [hst.out, ← haw]; omega)
        clear hst haw
        go_wp2
        go_quiet (fail)
        go_wp2
        go_roundw
        case rel => exact ⟨k + 1, by omega, by go_num, by rw [← hF.out], bdraw hb _⟩
        case measure => simp [intOf]; omega
      · rw [if_neg hneg] at haw
        have hF := hide (show (F : Int) + (s - d) = (far (ts.take (k + 1)) : Int) by rw [hst.out, ← haw]; omega)
        clear hst haw
        go_wp2
        go_quiet (fail)
        go_wp2
        go_roundw
        case rel => exact ⟨k + 1, by omega, by go_num, by rw [← hF.out], bdraw hb _⟩
        case measure => simp [intOf]; omega
    · obtain rfl : k = ts.length := by omega
      rw [hfe.out]
      have HB6 := btrans HB5 hb
      have hD6 := hD5.below hb
      have hM6 := hM5.below hb
      clear hb hD5 hM5 HB5 hft hin hfe hfarb
      cases hcf : canFin ls ts
      · have hL0 : L = [] := by rw [hLe.out]; exact fin_cant hcf
        subst hL0
        have hd : doneT ts = false := by
          cases hq : doneT ts with
          | false => rfl
          | true => rw [canFin_done hq] at hcf; cases hcf
        have hf0 : 0 < far ts := by
          cases hq : far ts with
          | zero => rw [(done_far ts).2 hq] at hd; cases hd
          | succ n => omega
        have hf1 : (0 : Int) < (far ts : Int) := by omega
        have hfst : firstOf ls ts = -1 := first_nil (by rw [finR_ok hok]; exact fin_cant hcf)
        have CF := cFirstI la tb lc tc ls ts _ hD6.line (by omega) hD6.lla hD6.trains hD6.none hD6.spot (by omega)
        rw [hfst] at CF
        clear hLe hM6 hd hf0 hfst hcf
        generalize (far ts : Int) = fz at *
        go_wp2_with fail
        refine CF.mono ?_
        rintro e w7 ⟨rfl, hb7⟩
        have HB7 := btrans HB6 hb7
        clear CF hb7 HB6
        go_wp2
        go_ret
        exact ⟨rfl, HB7⟩
      have hlen : L.length = far ts := by rw [hLe.out]; exact fin_len _ ts rfl hcf
      have hst : FinAt ls L (L.take 0) ts := ⟨hok, hcf, by rw [hLe.out]; simp⟩
      have hlen' : (L.length : Int) = (far ts : Int) := by omega
      rw [← hlen']
      clear hLe hlen hlen' hcf
      obtain ⟨wb, rfl⟩ : ∃ wb, wb = wr := ⟨wr, rfl⟩
      replace hst := hide hst
      go_wp2
      go_loopw [10, 11] (fun nw i wr => ∃ (k : Nat) (q : List SingleV) (b' : Option Addr) (c' : Nat), k ≤ L.length ∧ i = .int .i64 k ∧ nw = .slice b' q.length c' ∧ FinAt ls L (L.take k) q ∧ q.length = ts.length ∧ q.map (·.d) = ts.map (·.d) ∧ Drawn wr la lc ls b' c' q ∧ Below wb.heap.size wb wr) (fun _ i _ => L.length - (intOf i).toNat)
      case atStart => exact ⟨0, ts, tb, tc, Nat.zero_le _, rfl, rfl, hst.out, rfl, rfl, hD6, Below.refl _ _⟩
      case round =>
        obtain ⟨k, q, b', c', hk, rfl, rfl, hF, hql, hqg, hDq, hb⟩ := hrel
        clear hst
        obtain ⟨-, hq4⟩ := hDq.sizes
        have hMr := hM6.below hb
        by_cases hlt : k < L.length
        · obtain ⟨i, i1, i2, i3, i4, hF2⟩ := hF.next hlt
          have hns := can_not_stuck hF.can
          have CSq := fun w' (h : Below wr.heap.size wr w') => cStuckI la b' lc c' ls q w' (hDq.below h).line (by omega) (hDq.below h).trains (by omega)
          have CFq := fun w' (h : Below wr.heap.size wr w') => cFirstI la b' lc c' ls q w' (hDq.below h).line (by omega) (hDq.below h).lla (hDq.below h).trains hDq.none hDq.spot (by omega)
          have CMq := fun w' (h : Below wr.heap.size wr w') => cMoveOnI la b' lc c' ls q i w' (hDq.below h).line (by omega) (hDq.below h).trains hDq.none hDq.spot (by omega)
          rw [hns] at CSq
          rw [i2] at CFq
          rw [mayMove_at hF.ok i1, i3, moveR_at hF.ok i1 i3, moveT_len] at CMq
          have hgo := move_goal hF.ok i1 i3
          have hRl := moveT_len q i
          rcases hMr with h | ⟨mb, moff, hma, hmc⟩
          · simp [h] at hlt
          subst hma
          have cM := hmc k hlt
          have e0 : L.getD k 0 = (i : Int) := by rw [← i4]; simp [List.getD, hlt]
          rw [e0] at cM
          generalize moveT q i = R at *
          clear hns i2 i3 i4 hmc e0 hF
          replace hF2 := hide hF2
          replace hgo := hide hgo
          replace hRl := hide hRl
          replace hql := hide hql
          replace hqg := hide hqg
          have hi100 : (i : Int) ≤ 100 := by omega
          go_wp2_with fail
          go_region_held3 (fun w' => w'.cell? ⟨mb, moff + k, none⟩ = some (.int .i64 (i : Int))) (go_keep) (first
            | (go_at_call 18; with_reducible refine (CFq _ Bs).mono ?_; rintro e w8 ⟨rfl, hb8⟩; have B8 := btrans Bs hb8; have cM8 := ble B8 cM; clear hb8)
            | (go_at_call 19; with_reducible refine (CSq _ (Below.refl _ _).drew).mono ?_; rintro e w7 ⟨rfl, hb7⟩; have Bs := undrew hb7; have cM7 := ble Bs cM; clear hb7))
          clear cM7 Bs CSq CFq
          go_wp2_with fail
          refine (CMq _ B8).mono ?_
          rintro e w9 ⟨v9, rfl, OV, hb9⟩
          obtain ⟨vo, vc, rfl⟩ := own_form OV
          have SV := Singles.own OV
          have LV := own_lt OV
          have FV := own_safe OV
          have B9 := btrans B8 hb9
          have hD9 := hDq.below B9
          have hDR : Drawn w9 la lc ls vo vc R := ⟨hF2.out.ok, hD9.line, SV, hD9.lla, LV, FV.1, FV.2⟩
          have CSR := cSinglesI la vo lc vc ls R w9 hD9.line (by omega) SV (by rw [hRl.out]; omega)
          rw [hRl.out, hF2.out.ok] at CSR
          clear OV SV LV FV hD9 CMq hb9 B8 cM8 cM hDq
          go_wp2_with fail
          refine CSR.mono ?_
          rintro e w10 ⟨rfl, hb10⟩
          have B10 := btrans hb (btrans B9 hb10)
          have hD10 := hDR.below hb10
          clear CSR hb10 B9 hDR hb
          go_wp2
          go_roundw
          case rel => exact ⟨k + 1, R, vo, vc, by omega, by go_num, by rw [hRl.out], hF2.out, hRl.out.trans hql.out, hgo.out.trans hqg.out, hD10, B10⟩
          case measure => simp [intOf]; omega
        · obtain rfl : k = L.length := by omega
          rw [List.take_length] at hF
          have hdn := hF.done
          have HBq := btrans HB6 hb
          have hDt := hD6.below hb
          have CSq := fun w' (h : Below wr.heap.size wr w') => cStuckI la b' lc c' ls q w' (hDq.below h).line (by omega) (hDq.below h).trains (by omega)
          rw [done_not_stuck hdn] at CSq
          have hda := fun j (hj : j < q.length) => done_at hdn hj
          have hga := fun j (h1 : j < q.length) (h2 : j < ts.length) => goal_at hqg h1 h2
          clear hMr hF hdn hqg hM6 HB6 hb hD6
          replace hda := hide hda
          replace hga := hide hga
          replace hql := hide hql
          obtain ⟨wq, rfl⟩ : ∃ wq, wq = wr := ⟨wr, rfl⟩
          go_wp2
          go_loopw [14] (fun i wi => ∃ j : Nat, j ≤ q.length ∧ i = .int .i64 j ∧ Below wq.heap.size wq wi) (fun i _ => q.length - (intOf i).toNat)
          case atStart => exact ⟨0, Nat.zero_le _, rfl, Below.refl _ _⟩
          case round =>
            obtain ⟨j, hj, rfl, hbj⟩ := hrel
            by_cases hjl : j < q.length
            · have hjt : j < ts.length := by rw [← hql.out]; exact hjl
              have T := (hDt.below hbj).trains
              have Q := (hDq.below hbj).trains
              have e1 := hda.out j hjl
              have e2 := hga.out j hjl hjt
              rcases T with h | ⟨nb, off, rfl, hcl⟩
              · simp [h] at hjt
              obtain ⟨q0, q1⟩ := hcl j hjt
              rw [getD_lt hjt] at q0 q1
              rcases Q with h | ⟨nb2, off2, rfl, hcl2⟩
              · simp [h] at hjl
              obtain ⟨p0, p1⟩ := hcl2 j hjl
              rw [getD_lt hjl] at p0 p1
              rw [← e2] at q1
              rw [e1] at p0
              generalize q[j].d = d at *
              clear hcl hcl2 e1 e2 hda hga q0 CSq hDq hDt
              go_wp2
              go_quiet (fail)
              go_wp2
              go_roundw
              case rel => exact ⟨j + 1, by omega, by go_num, bdraw hbj _⟩
              case measure => simp [intOf]; omega
            · obtain rfl : j = q.length := by omega
              go_wp2_with fail
              refine (CSq _ hbj).mono ?_
              rintro e w11 ⟨rfl, hb11⟩
              have HBe := btrans HBq (btrans hbj hb11)
              clear CSq hb11 hbj HBq
              go_wp2
              go_ret
              exact ⟨rfl, HBe⟩
end Go.Proofs.Ytggdejceobagcaa
