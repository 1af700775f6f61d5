/- ChainOk of the model. -/
import Derived.Test.YtbnhkkaiohmllaaSD
import Derived.Test.YtbnhkkaiohmllaaCK
import Derived.Deep.RegionHeld3
namespace Go.Proofs.Ytbnhkkaiohmllaa
open Go.RowKit Go.Lib

theorem runU_hOf {us : List Int} {os : List Nat} (u : Nat) (h : ∀ p ∈ os, 0 ≤ us.getD p 0) : runU (hOf us os) u = pick us u os := by
  unfold runU hOf pick
  rw [List.filter_map, List.map_map]
  have e : ((fun x : Nat × Nat => x.1) ∘ fun p => (p, (us.getD p 0).toNat)) = id := rfl
  rw [e, List.map_id]
  refine List.filter_congr (fun p hp => ?_)
  have := h p hp
  rw [Bool.eq_iff_iff]
  simp only [Function.comp, beq_iff_eq]
  omega
theorem AllLink.front {ts : List TaskV} {n : Int} {h h' : Hist} (a : AllLink ts n (h ++ h')) : AllLink ts n h := by
  induction h' using snoc_ind with
  | h0 => simpa using a
  | h1 l x ih =>
    obtain ⟨t, u⟩ := x
    rw [← List.append_assoc] at a
    exact ih (AllLink.snoc.1 a).1
theorem hOf_app (us : List Int) (a b : List Nat) : hOf us (a ++ b) = hOf us a ++ hOf us b := by simp [hOf]
/-- What stands behind the first j tasks. -/
def LkTo (ts : List TaskV) (n : Int) (us : List Int) (os : List Nat) (j : Nat) : Prop := (∀ p ∈ os.take j, okU (us.getD p 0) = true) ∧ AllLink ts n (hOf us (os.take j))
/-- The last task of the unit among the first k. -/
def lastI (us : List Int) (os : List Nat) (k u : Nat) : Int := if pick us u (os.take k) = [] then -1 else ((pick us u (os.take k)).getLastD 0 : Nat)
theorem lastI_step {us : List Int} {os : List Nat} {k u : Nat} (hk : k < os.length) : lastI us os (k + 1) u = if us.getD (os.getD k 0) 0 = (u : Int) then ((os.getD k 0 : Nat) : Int) else lastI us os k u := by
  unfold lastI
  rw [pick_take hk]
  by_cases e : us.getD (os.getD k 0) 0 = (u : Int)
  · rw [if_pos e, if_pos e, if_neg (by simp)]
    simp [List.getLastD_eq_getLast?]
  · rw [if_neg e, if_neg e]
theorem LkTo.step {ts : List TaskV} {n : Int} {us : List Int} {os : List Nat} {j U : Nat} (h : LkTo ts n us os j) (hj : j < os.length) (hU : us.getD (os.getD j 0) 0 = (U : Int)) (hr : okU (us.getD (os.getD j 0) 0) = true) :
    LkTo ts n us os (j + 1) ↔ (lastI us os j U < 0 ∨ ∃ L : Nat, lastI us os j U = L ∧ folB (tkA ts L) (tkA ts (os.getD j 0)) n = true) := by
  have e0 : os.take (j + 1) = os.take j ++ [os.getD j 0] := by rw [List.take_succ_eq_append_getElem hj]; simp [List.getD, hj]
  have hrun := runU_hOf (us := us) (os := os.take j) U (fun p hp => (inB_true (h.1 p hp)).1)
  have e1 : hOf us (os.take (j + 1)) = hOf us (os.take j) ++ [(os.getD j 0, U)] := by rw [e0, hOf_snoc, hU]; rfl
  have hmem : ∀ p ∈ os.take (j + 1), okU (us.getD p 0) = true := by
    intro p hp
    rw [e0] at hp
    rcases List.mem_append.1 hp with hp | hp
    · exact h.1 p hp
    · simp at hp; subst hp; simpa [List.getD, hj] using hr
  unfold LkTo lastI
  rw [e1, AllLink.snoc]
  unfold lastU
  rw [hrun]
  by_cases hp : pick us U (os.take j) = []
  · simp only [hp, if_true]
    exact Iff.intro (fun _ => .inl (by omega)) (fun _ => ⟨hmem, h.2, .inl trivial⟩)
  · simp only [hp, if_false, false_or]
    constructor
    · intro g; exact .inr ⟨_, rfl, g.2.2⟩
    · rintro (g | ⟨L, g1, g2⟩)
      · omega
      · have : (pick us U (os.take j)).getLastD 0 = L := by omega
        rw [this]
        exact ⟨hmem, h.2, g2⟩
theorem ChOk.to {ts : List TaskV} {n : Int} {us : List Int} {os : List Nat} (h : ChOk ts n us) (hO : Ord ts os) (j : Nat) : LkTo ts n us os j := by
  obtain ⟨_, _, h3, os', ho', h4⟩ := h
  rw [ho'.uniq hO] at h4
  refine ⟨fun p _ => ?_, ?_⟩
  · have := all_getD h3 p
    exact inB_yes this.1 this.2
  · rw [← List.take_append_drop j os, hOf_app] at h4
    exact h4.front
theorem LkTo.ok {ts : List TaskV} {n : Int} {us : List Int} {os : List Nat} (h : LkTo ts n us os ts.length) (hO : Ord ts os) (hok : (tasksB ts && turnB n) = true) (hl : us.length = ts.length) : ChOk ts n us := by
  have ht : os.take ts.length = os := List.take_of_length_le (Nat.le_of_eq hO.len)
  unfold LkTo at h
  rw [ht] at h
  refine ⟨hok, hl, ?_, os, hO, h.2⟩
  rw [List.all_eq_true]
  intro z hz
  obtain ⟨i, hi, rfl⟩ := List.getElem_of_mem hz
  have := h.1 i ((hO.2 i).2 (by omega))
  rw [show us.getD i 0 = us[i] by simp [List.getD, hi]] at this
  exact this

set_option maxRecDepth 20000 in
set_option maxHeartbeats 6400000 in
theorem cChainOkS (a : Option Addr) (cap : Nat) (ua : Option Addr) (uc : Nat) (ts : List TaskV) (n : Int) (us : List Int) (w : World) (hz : Tasks w a ts) (hu : Ints w ua us) (hl : ts.length ≤ 1048576) (hlu : us.length ≤ 1048576) :
    Calls Try.prog 43 #[.slice a ts.length cap, .int .i64 n, .slice ua us.length uc] w (AnsIff (ChOk ts n us) w) := by
  go_enter Try.func43, Try.ntmps43
  go_wp2_with fail
  refine (cTasksS a cap ts _ hz hl).mono ?_
  rintro e w1 ⟨rfl, hb⟩
  cases h1 : tasksB ts
  · have hF := hide (show ¬ ChOk ts n us from fun h => by have := h.1; rw [h1] at this; cases this)
    go_wp2
    go_ret
    exact ⟨false, rfl, no_iff hF.out, hb⟩
  go_wp2_with fail
  refine (cTurnS n _).mono ?_
  rintro e w2 ⟨rfl, hw⟩
  subst w2
  cases h2 : turnB n
  · have hF := hide (show ¬ ChOk ts n us from fun h => by have := h.1; rw [h1, h2] at this; cases this)
    go_wp2
    go_ret
    exact ⟨false, rfl, no_iff hF.out, hb⟩
  have hok := hide (show (tasksB ts && turnB n) = true by rw [h1, h2]; rfl)
  have h40 : ts.length ≤ 40 := by simp only [Bool.and_eq_true, tasksB, decide_eq_true_eq] at h1; exact h1.1
  clear h1 h2 hl
  by_cases hle : us.length = ts.length
  rotate_left
  · have hF := hide (show ¬ ChOk ts n us from fun h => hle h.2.1)
    have hne : ((us.length : Int) != (ts.length : Int)) = true := by simp; omega
    clear hle
    go_wp2
    go_ret
    exact ⟨false, rfl, no_iff hF.out, hb⟩
  have hne : ((us.length : Int) != (ts.length : Int)) = false := by simp; omega
  replace hle := hide hle
  have hCO := cOrder a cap ts w1 (hz.below hb) h40
  go_wp2_with fail
  refine hCO.mono ?_
  rintro e w2 ⟨v7, os, rfl, O7, hOr, hb2⟩
  have hol := hide hOr.len
  rw [hol.out] at O7
  obtain ⟨oa, oc, rfl⟩ := own_form O7
  have IO : Ints w2 oa (intsOf os) := Ints.own O7 (by rw [← hol.out]; simp [intsOf])
  have HB := btrans hb hb2
  have hno := hide (fun (h : ChOk ts n us) => h.to hOr)
  have hyes := hide (fun (h : LkTo ts n us os ts.length) => h.ok hOr hok.out hle.out)
  clear hCO O7 hb2 hb
  have hL0 : Hid (LkTo ts n us os 0) := hide ⟨fun p hp => by simp at hp, AllLink.nil ts n⟩
  go_wp2
  go_loopw [8] (fun i wr => ∃ j : Nat, j ≤ ts.length ∧ i = .int .i64 j ∧ Hid (LkTo ts n us os j) ∧ Below w2.heap.size w2 wr) (fun i _ => ts.length - (intOf i).toNat)
  case atStart => exact ⟨0, Nat.zero_le _, rfl, hL0, Below.refl _ _⟩
  case round =>
    obtain ⟨j, hj, rfl, hL, hbr⟩ := hrel
    clear hL0
    generalize wr = wo at *
    have hbw := btrans HB hbr
    by_cases hjl : j < ts.length
    · have hjl' : (j : Int) < (ts.length : Int) := by omega
      have hjo : j < os.length := by rw [hol.out]; exact hjl
      have hoo : os.getD j 0 < ts.length := by
        rw [show os.getD j 0 = os[j] by simp [List.getD, hjo]]
        exact (hOr.2 _).1 (List.getElem_mem hjo)
      rcases IO with h | ⟨bo, oo, rfl, hco⟩
      · have h9 := congrArg List.length h
        simp [intsOf] at h9; subst h9; simp at hjo
      have r0 := ble hbr (hco j (by simpa [intsOf] using hjo))
      rw [intsOf_get os hjo] at r0
      have hou : os.getD j 0 < us.length := by rw [hle.out]; exact hoo
      rcases hu with h | ⟨b5, o5, rfl, hc5⟩
      · subst h; simp at hou
      have r1 := ble hbw (hc5 (os.getD j 0) hou)
      have hco2 : Hid (∀ k, k < os.length → wo.cell? ⟨bo, oo + k, none⟩ = some (.int .i64 ((os.getD k 0 : Nat) : Int))) := hide (fun k hk => by
        have := ble hbr (hco k (by simpa [intsOf] using hk))
        rwa [intsOf_get os hk] at this)
      have hcu2 : Hid (∀ k, k < us.length → wo.cell? ⟨b5, o5 + k, none⟩ = some (.int .i64 (us.getD k 0))) := hide (fun k hk => ble hbw (hc5 k hk))
      have hlo : Hid (∀ k, k < os.length → os.getD k 0 < us.length) := hide (fun k hk => by
        rw [hle.out, show os.getD k 0 = os[k] by simp [List.getD, hk]]
        exact (hOr.2 _).1 (List.getElem_mem hk))
      have hou' : ((os.getD j 0 : Nat) : Int) < (us.length : Int) := by omega
      have hoo' : ((os.getD j 0 : Nat) : Int) < (ts.length : Int) := by omega
      have hbad : Hid (okU (us.getD (os.getD j 0) 0) = false → ¬ ChOk ts n us) := hide (fun h g => by
        have := (hno.out g (j + 1)).1 (os.getD j 0) (by rw [List.take_succ_eq_append_getElem hjo, show os.getD j 0 = os[j] by simp [List.getD, hjo]]; exact List.mem_append.2 (.inr (List.mem_singleton.2 rfl)))
        rw [h] at this; cases this)
      have hstep := hide (fun U h1 h2 => hL.out.step (U := U) hjo h1 h2)
      have hno1 := hide (fun g => hno.out g (j + 1))
      clear hco hc5
      generalize hO0 : os.getD j 0 = o at *
      replace hO0 := hide hO0
      generalize hz0 : us.getD o 0 = z at *
      replace hz0 := hide hz0
      go_wp2_with fail
      refine (cIn z 0 39 _).mono ?_
      rintro e w3 ⟨rfl, hw⟩
      subst w3
      cases hr : inB z 0 39
      · have hF := hide (hbad.out hr)
        clear hbad hstep
        go_wp2
        go_ret
        exact ⟨false, rfl, no_iff hF.out, hbw⟩
      have hzr := inB_true hr
      obtain ⟨U, rfl⟩ : ∃ U : Nat, z = U := ⟨z.toNat, by omega⟩
      replace hstep := hide (hstep.out U rfl hr)
      clear hbad hzr
      replace hr := hide hr
      have hI0 : Hid (lastI us os 0 U = -1) := hide (by simp [lastI, pick])
      go_wp2
      go_loopw [9, 10] (fun l i wr => ∃ (k : Nat) (lv : Int), k ≤ j ∧ l = .int .i64 lv ∧ i = .int .i64 k ∧ Hid (lastI us os k U = lv) ∧ Below wo.heap.size wo wr) (fun _ i _ => j - (intOf i).toNat)
      case atStart => exact ⟨0, -1, Nat.zero_le _, rfl, rfl, hI0, Below.refl _ _⟩
      case round =>
        obtain ⟨k, lv, hk, rfl, rfl, hI, hbq⟩ := hrel
        clear hI0
        by_cases hkj : k < j
        · have hkj' : (k : Int) < (j : Int) := by omega
          have hko : k < os.length := by omega
          have s0 := ble hbq (hco2.out k hko)
          have hlk := hlo.out k hko
          have s1 := ble hbq (hcu2.out (os.getD k 0) hlk)
          have r0' := ble hbq r0
          have r1' := ble hbq r1
          have hst := hide ((lastI_step (us := us) (u := U) hko))
          rw [hI.out] at hst
          have hlk' : ((os.getD k 0 : Nat) : Int) < (us.length : Int) := by omega
          have hkN : (k : Int) < (ts.length : Int) := by omega
          generalize os.getD k 0 = p at *
          generalize us.getD p 0 = x at *
          by_cases hx : x = (U : Int)
          · rw [if_pos hx] at hst
            subst hx
            go_wp2
            go_quiet (fail)
            go_wp2
            go_roundw
            case rel => exact ⟨k + 1, p, by omega, rfl, by go_num, hst, bdraw hbq _⟩
            case measure => simp [intOf]; omega
          · rw [if_neg hx] at hst
            have hxd : (x == (U : Int)) = false := beq_eq_false_iff_ne.2 hx
            have hxd2 : decide (x = (U : Int)) = false := decide_eq_false hx
            go_wp2
            go_quiet (fail)
            go_wp2
            go_roundw
            case rel => exact ⟨k + 1, lv, by omega, rfl, by go_num, hst, bdraw hbq _⟩
            case measure => simp [intOf]; omega
        · obtain rfl : k = j := by omega
          have hkj' : ¬ ((k : Int) < (k : Int)) := by omega
          rw [hI.out] at hstep
          have hbo := btrans hbr hbq
          by_cases hneg : lv < 0
          · have hL2 := hide (hstep.out.2 (.inl hneg))
            have hnd : ¬ (0 ≤ lv) := by omega
            have hnd2 : decide (0 ≤ lv) = false := decide_eq_false hnd
            clear hstep
            go_wp2
            go_quiet (fail)
            go_wp2
            go_roundw
            case rel => exact ⟨k + 1, by omega, by go_num, hL2, bdraw hbo _⟩
            case measure => simp [intOf]; omega
          · obtain ⟨L, rfl⟩ : ∃ L : Nat, lv = L := ⟨lv.toNat, by omega⟩
            have hLt : Hid (L < ts.length) := hide (by
              have h9 := hI.out
              unfold lastI at h9
              split at h9
              · omega
              · rename_i hne
                have h8 : (pick us U (os.take k)).getLastD 0 = L := by omega
                rw [List.getLastD_eq_getLast?] at h8
                cases hg : (pick us U (os.take k)).getLast? with
                | none => rw [List.getLast?_eq_none_iff] at hg; exact absurd hg hne
                | some x =>
                  rw [hg] at h8
                  simp at h8
                  subst h8
                  have hx := List.mem_of_getLast? hg
                  unfold pick at hx
                  exact (hOr.2 _).1 (List.mem_of_mem_take (List.mem_filter.1 hx).1))
            have hLt1 := hLt.out
            have hLt' : (L : Int) < (ts.length : Int) := by omega
            rcases hz with h | ⟨b, off, rfl, hc⟩
            · simp [h] at hjl
            have hbw2 := btrans hbw hbq
            obtain ⟨y0, y1, y2, y3, y4⟩ := tk_cells hc hbw2 hLt1
            obtain ⟨x0, x1, x2, x3, x4⟩ := tk_cells hc hbw2 hoo
            replace r0 := ble hbq r0
            have CF := fun w => cFolS (tkA ts L) (tkA ts o) n w
            have hs2 : Hid (LkTo ts n us os (k + 1) ↔ folB (tkA ts L) (tkA ts o) n = true) := hide (hstep.out.trans ⟨fun h => by
                rcases h with h | ⟨L', e, g⟩
                · omega
                · have : L = L' := by omega
                  subst this; exact g, fun h => .inr ⟨L, rfl, h⟩⟩)
            have hnd2 : decide ((0 : Int) ≤ (L : Int)) = true := by simp
            clear hc hstep hI hcu2 hco2 hlo
            generalize tkA ts L = y at *
            generalize tkA ts o = x at *
            obtain ⟨ye, yd, yf, yt, yp⟩ := y
            obtain ⟨xe, xd, xf, xt, xp⟩ := x
            unfold TaskV.val at CF
            dsimp only at *
            have hbs := cell_lt y0
            have hbs2 := cell_lt r0
            cases hf : folB ⟨ye, yd, yf, yt, yp⟩ ⟨xe, xd, xf, xt, xp⟩ n
            · rw [hf] at CF
              have hF := hide (show ¬ ChOk ts n us from fun g => by have := hs2.out.1 (hno1.out g); rw [hf] at this; cases this)
              clear hs2 hf hno1
              go_wp2_with fail
              go_region_held3 (fun w' => w'.cell? ⟨b, off + L * 5, none⟩ = some (.int .i64 ye) ∧ w'.cell? ⟨b, off + L * 5 + 1, none⟩ = some (.int .i64 yd) ∧ w'.cell? ⟨b, off + L * 5 + 2, none⟩ = some (.int .i64 yf) ∧ w'.cell? ⟨b, off + L * 5 + 3, none⟩ = some (.int .i64 yt) ∧ w'.cell? ⟨b, off + L * 5 + 4, none⟩ = some (.int .i64 yp) ∧ w'.cell? ⟨b, off + o * 5, none⟩ = some (.int .i64 xe) ∧ w'.cell? ⟨b, off + o * 5 + 1, none⟩ = some (.int .i64 xd) ∧ w'.cell? ⟨b, off + o * 5 + 2, none⟩ = some (.int .i64 xf) ∧ w'.cell? ⟨b, off + o * 5 + 3, none⟩ = some (.int .i64 xt) ∧ w'.cell? ⟨b, off + o * 5 + 4, none⟩ = some (.int .i64 xp) ∧ w'.cell? ⟨bo, oo + k, none⟩ = some (.int .i64 o)) (go_keep) ((go_at_call 37; with_reducible refine (CF _).mono ?_; rintro e w5 ⟨rfl, hbf⟩; replace hbf := undrew hbf; have v0 := ble hbf y0; have v1 := ble hbf y1; have v2 := ble hbf y2; have v3 := ble hbf y3; have v4 := ble hbf y4; have u0 := ble hbf x0; have u1 := ble hbf x1; have u2 := ble hbf x2; have u3 := ble hbf x3; have u4 := ble hbf x4; have u5 := ble hbf r0))
              have hb9 := btrans hbw2 hbf
              go_wp2
              go_ret
              exact ⟨false, rfl, no_iff hF.out, hb9⟩
            · rw [hf] at CF
              have hL2 := hide (hs2.out.2 hf)
              clear hs2 hf hno1
              go_wp2_with fail
              go_region_held3 (fun w' => w'.cell? ⟨b, off + L * 5, none⟩ = some (.int .i64 ye) ∧ w'.cell? ⟨b, off + L * 5 + 1, none⟩ = some (.int .i64 yd) ∧ w'.cell? ⟨b, off + L * 5 + 2, none⟩ = some (.int .i64 yf) ∧ w'.cell? ⟨b, off + L * 5 + 3, none⟩ = some (.int .i64 yt) ∧ w'.cell? ⟨b, off + L * 5 + 4, none⟩ = some (.int .i64 yp) ∧ w'.cell? ⟨b, off + o * 5, none⟩ = some (.int .i64 xe) ∧ w'.cell? ⟨b, off + o * 5 + 1, none⟩ = some (.int .i64 xd) ∧ w'.cell? ⟨b, off + o * 5 + 2, none⟩ = some (.int .i64 xf) ∧ w'.cell? ⟨b, off + o * 5 + 3, none⟩ = some (.int .i64 xt) ∧ w'.cell? ⟨b, off + o * 5 + 4, none⟩ = some (.int .i64 xp) ∧ w'.cell? ⟨bo, oo + k, none⟩ = some (.int .i64 o)) (go_keep) ((go_at_call 37; with_reducible refine (CF _).mono ?_; rintro e w5 ⟨rfl, hbf⟩; replace hbf := undrew hbf; have v0 := ble hbf y0; have v1 := ble hbf y1; have v2 := ble hbf y2; have v3 := ble hbf y3; have v4 := ble hbf y4; have u0 := ble hbf x0; have u1 := ble hbf x1; have u2 := ble hbf x2; have u3 := ble hbf x3; have u4 := ble hbf x4; have u5 := ble hbf r0))
              have hb9 := btrans hbo hbf
              go_wp2
              go_roundw
              case rel => exact ⟨k + 1, by omega, by go_num, hL2, hb9⟩
              case measure => simp [intOf]; omega
    · obtain rfl : j = ts.length := by omega
      have hjl' : ¬ ((ts.length : Int) < (ts.length : Int)) := by omega
      have hF := hide (hyes.out hL.out)
      clear hL hu hz IO
      go_wp2
      go_ret
      exact ⟨true, rfl, ⟨fun _ => hF.out, fun _ => rfl⟩, hbw⟩
end Go.Proofs.Ytbnhkkaiohmllaa
