/- Planned of the model. -/
import Derived.Test.YthfknkmabjgklaaPO
import Derived.Deep.AppendLies
import Derived.Deep.RegionLaw
namespace Go.Proofs.Ythfknkmabjgklaa
open Go.RowKit
theorem Ints.below {w w' : World} {a : Option Addr} {zs : List Int} (h : Ints w a zs) (hb : Below w.heap.size w w') : Ints w' a zs := by
  rcases h with h | ⟨b, off, ha, hc⟩
  · exact .inl h
  · exact .inr ⟨b, off, ha, fun i hi => ble hb (hc i hi)⟩
theorem infoIntQ : (Try.prog.info? 3).map (fun i => (i.zero, i.size, i.bytes)) = some (some (.int .i64 0), 1, 8) := by kernel_rfl
theorem runs_none {n : Int} {es : List EdgeV} {ts : List TripV} (h : ¬ Ridden n es ts) : runsTo (lgOf n es ts) ts.length = [] := by
  have h0 : ∀ k, runsTo (lgOf n es ts) k = [] := by
    intro k
    induction k with
    | zero => simp [runsTo]
    | succ k ih => rw [runsTo_succ, ih]; simp [lgOf, h, legR]
  exact h0 _
theorem lg_call {n : Int} {es : List EdgeV} {ts : List TripV} (hR : Ridden n es ts) (i j : Nat) (hj : j < (clA ts i).length - 1) : ((lgOf n es ts i).getD j RideV.zero).f = ((clA ts i).getD j HaltV.zero).d ∧ ((lgOf n es ts i).getD j RideV.zero).t = ((clA ts i).getD (j + 1) HaltV.zero).a := by
  unfold lgOf
  rw [if_pos hR]
  unfold legsV
  constructor <;> simp [legsTo, List.getD, hj, useOf]
theorem lg_len {n : Int} {es : List EdgeV} {ts : List TripV} (hR : Ridden n es ts) (i : Nat) : (lgOf n es ts i).length = (clA ts i).length - 1 := by
  unfold lgOf
  rw [if_pos hR]
  exact legsTo_len _ _ _ _
set_option maxRecDepth 100000 in
set_option maxHeartbeats 6400000 in
theorem cPlanS (a : Option Addr) (cap : Nat) (n : Int) (es : List EdgeV) (ta : Option Addr) (tc : Nat) (ts : List TripV) (w : World) (he : Edges w a es) (hl : es.length ≤ 1048576) (hz : Trips w ta ts) (hS : Small ts) :
    Calls Try.prog 16 #[.agg #[.int .i64 n, .slice a es.length cap], .slice ta ts.length tc] w (AnsPlan w (runsTo (lgOf n es ts) ts.length)) := by
  obtain ⟨i0, hi, hz0, hz1, hz2⟩ := info_parts infoRuns
  obtain ⟨i1, hi1, hy0, hy1, hy2⟩ := info_parts infoIntQ
  have hW := btrans (balloc w (.cells #[.int .i64 n, .slice a es.length cap] 32)) (balloc _ (.cells #[] 72))
  have X0 := blk_keep (balloc _ (.cells #[] 72)) (one_block w (.cells #[.int .i64 n, .slice a es.length cap] 32))
  have hO := World.ownsRow_made (base := w.heap.size) (e := 72) (size := 4) (w.alloc (.cells #[.int .i64 n, .slice a es.length cap] 32)) #[] 0 (by simp) (by unfold maxLen; omega) rfl
  obtain ⟨⟨x0, x1⟩, -⟩ := blk2 X0
  have CR := cRiddenS a cap n es ta tc ts _ (he.below hW) hl (hz.below hW) hS
  have hsm := hide (lgOf_small n es ts)
  have hnone := hide (runs_none (n := n) (es := es) (ts := ts))
  have hNl := hS.1
  obtain ⟨all, hall⟩ : ∃ all, runsTo (lgOf n es ts) ts.length = all := ⟨_, rfl⟩
  have hal : all.length ≤ 264 := by rw [← hall]; exact hsm.out _ (Nat.le_refl _)
  have hmo := hide (runsTo_mono (lgOf n es ts) ts.length)
  rw [hall] at hnone hmo ⊢
  replace hall := hide hall
  go_enter Try.func16, Try.ntmps16
  go_wp2_with fail
  refine CR.mono ?_
  rintro e w1 ⟨r, rfl, hr, hb⟩
  have HB := btrans hW hb
  replace hO := own_keep hO hb
  clear hW hb x0 x1 X0 CR
  cases r
  · have hnr : ¬ Ridden n es ts := fun h => by have := hr.2 h; cases this
    have hf : Hid (AnsPlan w all (.returned (.slice none 0 0)) w1) := hide ⟨_, [], rfl, by rw [hnone.out hnr], fun i j _ hj => by simp at hj, World.ownsRow_nil _ _ _ _, HB⟩
    clear hr hnr hz he hO hnone
    go_wp2
    go_ret
    exact hf.out
  have hR := hide (hr.1 rfl)
  clear hr hnone he
  have hT24 : ts.length ≤ 24 := hR.out.2.1.1
  go_wp2
  go_loopw [5, 6, 7] (fun v ix _ wr => ∃ k : Nat, k ≤ ts.length ∧ ix = .int .i64 k ∧ wr.ownsRow w.heap.size 72 4 v (runsTo (lgOf n es ts) k).length (flatRuns (runsTo (lgOf n es ts) k)) ∧ Below w.heap.size w wr) (fun _ ix _ _ => ts.length - (intOf ix).toNat)
  case atStart => exact ⟨0, Nat.zero_le _, rfl, by simpa [runsTo, flatRuns] using hO, HB⟩
  case round =>
    obtain ⟨k, hk, rfl, ho, hb⟩ := hrel
    clear hO HB
    by_cases hlt : k < ts.length
    · have hlt' : (k : Int) < (ts.length : Int) := by omega
      have hk0 : (0 : Int) ≤ (k : Int) := by omega
      obtain ⟨tb, toff, na, nc, rfl, c1, c2, hcap, c3⟩ := hz.at hlt
      have hCl := table_trip hR.out.2.1 hlt
      change w.cell? _ = some (.slice na (clA ts k).length nc) at c2
      change Halts w na (clA ts k) at c3
      have hrs := hide (runsTo_succ (lgOf n es ts) k)
      have hlen := hsm.out (k + 1) (by omega)
      rw [hrs.out, List.length_append, legR_len] at hlen
      have hkl := lg_len hR.out k
      have hcl2 := hide (lg_call hR.out k)
      generalize runsTo (lgOf n es ts) k = rs0 at *
      generalize lgOf n es ts k = us at *
      generalize clA ts k = cs at *
      obtain ⟨l1, l2⟩ := hCl
      rw [hkl] at hlen
      have hrs2 : Hid (runsTo (lgOf n es ts) (k + 1) = rs0 ++ legR k us (cs.length - 1)) := hide (by rw [hrs.out, hkl])
      rcases c3 with h | ⟨b, off, rfl, hc⟩
      · simp [h] at l1
      replace hc := hide hc
      clear c1 hcap hrs hkl
      go_wp2
      obtain ⟨wo, rfl⟩ : ∃ wo, wo = wr := ⟨wr, rfl⟩
      go_loopw [5, 7] (fun v ix wr => ∃ j : Nat, j + 1 ≤ cs.length ∧ ix = .int .i64 ((j : Int) + 1) ∧ wr.ownsRow w.heap.size 72 4 v (rs0 ++ legR k us j).length (flatRuns (rs0 ++ legR k us j)) ∧ Below w.heap.size w wr) (fun _ ix _ => cs.length - (intOf ix).toNat)
      case atStart => exact ⟨0, by omega, rfl, by simpa [legR] using ho, hb⟩
      case round =>
        obtain ⟨j, hj, rfl, ho, hb⟩ := hrel
        have c2 := ble hb c2
        have e1 : ((j : Int) + 1).toNat = j + 1 := by omega
        have e2 : (0 : Int) ≤ (j : Int) + 1 := by omega
        have e4 : IntKind.i64.wrap ((j : Int) + 1 - 1) = (j : Int) := (wrap_in _ (by omega) (by omega)).trans (by omega)
        have e5 : IntKind.i64.wrap (j : Int) = (j : Int) := wrap_in _ (by omega) (by omega)
        have e6 : (0 : Int) ≤ (j : Int) := by omega
        by_cases hjl : j + 1 < cs.length
        · have hjl' : (j : Int) + 1 < (cs.length : Int) := by omega
          have hjl2 : (j : Int) < (cs.length : Int) := by omega
          have e3 : IntKind.i64.wrap ((j : Int) + 1 + 1) = (j : Int) + 1 + 1 := wrap_in _ (by omega) (by omega)
          obtain ⟨-, -, q2⟩ := hc.out j (by omega)
          obtain ⟨-, p1, -⟩ := hc.out (j + 1) hjl
          replace q2 := ble hb q2
          replace p1 := ble hb p1
          have hst := hide (legR_succ k us j)
          obtain ⟨g1, g2⟩ := hcl2.out j (by omega)
          have hll : (rs0 ++ legR k us j).length ≤ 264 := by rw [List.length_append, legR_len]; omega
          obtain ⟨xs, hxs⟩ : ∃ xs, rs0 ++ legR k us j = xs := ⟨_, rfl⟩
          rw [hxs] at ho hll
          rw [g1, g2] at hst
          generalize (cs.getD j HaltV.zero).d = xd at *
          generalize (cs.getD (j + 1) HaltV.zero).a = ya at *
          replace hxs := hide hxs
          obtain ⟨va, vc, rfl⟩ := own_form ho
          have hb2 := btrans hb (undrew (Below.refl _ _))
          have hsw : w.heap.size ≤ wr.heap.size := hb.size
          clear g1 g2 hb2
          go_wp2_with fail
          go_region_law ((refine step_append_lies _ (by rfl) _ _ _ (by rfl) w.heap.size 72 i0 _ 4 32 Try.underlying41 hi hz0 hz1 hz2 rfl (by omega) (.slice va xs.length vc) xs.length (flatRuns xs) (by rfl) ((own_keep ho (Below.refl _ _).drew).alloc _) ⟨wr.heap.size, 0, none⟩ 1 1 (RunV.vs ⟨(k : Int), (j : Int), xd, ya⟩) (by rfl) (by rfl) (World.news_of_block (cs := #[.int .i64 (k : Int), .int .i64 (j : Int), .int .i64 xd, .int .i64 ya]) (t := 72) (fr := (0, 0)) (heap_alloc_new wr.drew _)) (by simp [RunV.vs, Value.oneCell']) (by omega) (by unfold maxLen; omega) (by omega) (by simp; omega) wr.heap.size.succ (by simp) ?_; intro g cap2 w2 hown hgrow hat hlt2))
          all_goals have hb5 : Below w.heap.size w w2 := (btrans hb.drew (balloc _ _)).grown hgrow (by simp; omega) (own_from ho (Nat.le_refl _))
          all_goals have hown2 : w2.ownsRow w.heap.size 72 4 (.slice (some ⟨g, 0, none⟩) (xs.length + 1) cap2) (rs0 ++ legR k us (j + 1)).length (flatRuns (rs0 ++ legR k us (j + 1))) := (by rw [hst.out, ← List.append_assoc, hxs.out, flatRuns_app, flat_one_run, List.length_append]; exact hown)
          all_goals clear hown hgrow hat hlt2 hst
          all_goals go_wp2
          all_goals go_roundw
          all_goals first | exact ⟨j + 1, by omega, by go_num, hown2, hb5⟩ | (simp [intOf]; omega)
        · have hjl' : ¬ ((j : Int) + 1 < (cs.length : Int)) := by omega
          have hje : j = cs.length - 1 := by omega
          rw [hje, ← hrs2.out] at ho
          replace hje := hide hje
          clear hc hcl2
          go_wp2
          go_roundw
          case rel => exact ⟨k + 1, by omega, by go_num, ho, hb⟩
          case measure => simp [intOf]; omega
    · have hlt' : ¬ ((k : Int) < (ts.length : Int)) := by omega
      obtain rfl : k = ts.length := by omega
      rw [hall.out] at ho
      clear hz hsm
      obtain ⟨va, vc, rfl⟩ := own_form ho
      have hRd : Runs wr va all := Runs.own ho
      obtain ⟨wo, hwo⟩ : ∃ wo, wo = wr := ⟨wr, rfl⟩
      rw [← hwo] at ho hb hRd ⊢
      clear hwo
      have hsw : w.heap.size ≤ wo.heap.size := hb.size
      have O8 := World.ownsRow_made (base := wo.heap.size) (e := 72) (size := 4) wo #[] 0 (Nat.le_refl _) (by unfold maxLen; omega) rfl
      replace O8 := own_keep O8 (balloc (wo.alloc (.cells #[] 72)) (.cells #[] 3))
      have O9 := World.ownsRow_made (base := wo.heap.size) (e := 3) (size := 1) (wo.alloc (.cells #[] 72)) #[] 0 (by simp) (by unfold maxLen; omega) rfl
      have B9 := btrans (balloc wo (.cells #[] 72)) (balloc _ (.cells #[] 3))
      go_wp2
      go_loopw [8, 9, 10, 11] (fun v8 v9 _ _ wr => ∃ os : List Nat, IsOrder all os ∧ wr.ownsRow wo.heap.size 72 4 v8 os.length (flatRuns (picks all os)) ∧ wr.ownsRow wo.heap.size 3 1 v9 os.length ((intsOf os).map (Value.int .i64)) ∧ Below wo.heap.size wo wr) (fun v8 _ _ _ _ => all.length - lenOf v8)
      case atStart => exact ⟨[], IsOrder.nil all, by simpa [picks, flatRuns] using O8, by simpa [intsOf] using O9, B9⟩
      case round =>
        obtain ⟨os, hos, ho8, ho9, hb3⟩ := hrel
        clear O8 O9 B9
        obtain ⟨a8, p8, rfl⟩ := own_form ho8
        obtain ⟨a9, p9, rfl⟩ := own_form ho9
        have hol := hos.len
        by_cases hlt : os.length < all.length
        · have hlt' : (os.length : Int) < (all.length : Int) := by omega
          have hIn : Ints wr a9 (intsOf os) := Ints.ownI (n := os.length) (c := p9) (by simpa [intsOf] using ho9)
          have hlI : Hid ((intsOf os).length = os.length) := hide (by simp [intsOf])
          have CH := fun (k : Nat) V (hV : Below wr.heap.size wr V) => cHas a9 p9 (intsOf os) (k : Int) V (hIn.below hV) (by rw [hlI.out]; omega)
          rw [hlI.out] at CH
          have hpush := hide (fun b => hos.push (b := b) hlt)
          obtain ⟨wp, hwp⟩ : ∃ wp, wp = wr := ⟨wr, rfl⟩
          rw [← hwp] at CH hIn ho8 ho9 hb3 ⊢
          clear hwp
          rcases hRd with h | ⟨b, off, rfl, hc⟩
          · simp [h] at hlt
          have hcp : Hid (∀ i, i < all.length → wp.cell? ⟨b, off + i * 4 + 2, none⟩ = some (.int .i64 (fK all i))) := hide (fun i hi => ble hb3 (hc i hi).2.2.1)
          replace hc := hide hc
          go_wp2
          go_loopw [10, 11] (fun bv i wr => ∃ k : Nat, ∃ bb : Int, k ≤ all.length ∧ bv = .int .i64 bb ∧ i = .int .i64 k ∧ Hid (NextTo all os k bb) ∧ -1 ≤ bb ∧ bb < all.length ∧ Below wp.heap.size wp wr) (fun _ i _ => all.length - (intOf i).toNat)
          case atStart => exact ⟨0, -1, Nat.zero_le _, rfl, rfl, hide (.inl ⟨rfl, fun i h => by omega⟩), by omega, by omega, Below.refl _ _⟩
          case round =>
            obtain ⟨k, bb, hk, rfl, rfl, hN, hb0, hb1, hbr⟩ := hrel
            by_cases hkl : k < all.length
            · have hkl' : (k : Int) < (all.length : Int) := by omega
              have C1 := CH k
              by_cases hm : k ∈ os
              · have hN2 := hide (hN.out.skip hm)
                rw [decide_eq_true (intsOf_mem.2 hm)] at C1
                clear hm hN CH
                go_wp2
                go_quiet (first | (go_at_call 38; with_reducible refine Calls.quiet_of_same (C1 _ (bdraw hbr _))))
                go_wp2
                go_roundw
                case rel => exact ⟨k + 1, bb, by omega, rfl, by go_num, hN2, hb0, hb1, bdraw hbr _⟩
                case measure => simp [intOf]; omega
              · rw [decide_eq_false (fun h => hm (intsOf_mem.1 h))] at C1
                have qk := ble hbr (hcp.out k hkl)
                by_cases hneg : bb < 0
                · obtain rfl : bb = -1 := by omega
                  have hN2 := hide (hN.out.first hm)
                  clear hm hN CH
                  generalize fK all k = fk at *
                  go_wp2
                  go_quiet (first | (go_at_call 38; with_reducible refine Calls.quiet_of_same (C1 _ (bdraw hbr _))))
                  go_wp2
                  go_roundw
                  case rel => exact ⟨k + 1, k, by omega, rfl, by go_num, hN2, by omega, by omega, bdraw hbr _⟩
                  case measure => simp [intOf]; omega
                · obtain ⟨m, rfl⟩ : ∃ m : Nat, bb = m := ⟨bb.toNat, by omega⟩
                  have hml : m < all.length := by omega
                  have qm := ble hbr (hcp.out m hml)
                  have hnd : decide ((m : Int) < 0) = false := by simp
                  by_cases hf : fK all k < fK all m
                  · have hN2 := hide (hN.out.less hm hf)
                    have hfd : decide (fK all k < fK all m) = true := decide_eq_true hf
                    clear hm hN CH
                    generalize fK all k = fk at *
                    generalize fK all m = fm at *
                    go_wp2
                    go_quiet (first | (go_at_call 38; with_reducible refine Calls.quiet_of_same (C1 _ (bdraw hbr _))))
                    go_wp2
                    go_roundw
                    case rel => exact ⟨k + 1, k, by omega, rfl, by go_num, hN2, by omega, by omega, bdraw hbr _⟩
                    case measure => simp [intOf]; omega
                  · have hN2 := hide (hN.out.more hf)
                    have hfd : decide (fK all k < fK all m) = false := decide_eq_false hf
                    clear hm hN CH
                    generalize fK all k = fk at *
                    generalize fK all m = fm at *
                    go_wp2
                    go_quiet (first | (go_at_call 38; with_reducible refine Calls.quiet_of_same (C1 _ (bdraw hbr _))))
                    go_wp2
                    go_roundw
                    case rel => exact ⟨k + 1, m, by omega, rfl, by go_num, hN2, by omega, by omega, bdraw hbr _⟩
                    case measure => simp [intOf]; omega
            · obtain rfl : k = all.length := by omega
              obtain ⟨m, rfl, hml, hos2⟩ := hpush.out bb hN.out
              have hm0 : (0 : Int) ≤ (m : Int) := by omega
              have hm1 : (m : Int) < (all.length : Int) := by omega
              have hbw := hb3.trans (hbr.mono hb3.size)
              have h9 := own_keep (own_keep ho9 hbr) (balloc wr (.cells #[.int .i64 (m : Int)] 3))
              have h8 := own_keep (own_keep ho8 hbr) (balloc wr (.cells #[.int .i64 (m : Int)] 3))
              have hb4 := hbw.trans ((balloc wr (.cells #[.int .i64 (m : Int)] 3)).mono hbw.size)
              clear hN CH hbr hcp hIn
              go_wp2_with (at_builtin; refine wpList_append_own _ rfl _ _ 26 rfl wo.heap.size 3 i1 _ 1 8 Try.underlying26 hi1 hy0 hy1 hy2 rfl (by decide) _ _ _ rfl h9 ⟨wr.heap.size, 0, none⟩ 1 1 [.int .i64 (m : Int)] rfl rfl ?c1 ?c2 ?c3 ?c4 ?c5 ?_)
              case c1 => exact World.news_of_block (heap_alloc_new wr _)
              case c2 => simp [Value.oneCell']
              case c3 => unfold maxLen; omega
              case c4 => omega
              case c5 => exact hb4.size
              intro v2 w5 hown hgrow _
              have hb5 := hb4.grown hgrow hb4.size (own_from h9 (Nat.le_refl _))
              have h8b := own_far h8 hgrow (own_otherT h8 h9 (by decide))
              have hown2 : w5.ownsRow wo.heap.size 3 1 v2 (os ++ [m]).length ((intsOf (os ++ [m])).map (Value.int .i64)) := by
                simpa [intsOf] using hown
              obtain ⟨v2a, v2c, rfl⟩ := own_form hown2
              obtain ⟨c0, c1, c2, c3⟩ := hc.out m hml
              replace c0 := ble hb5 c0
              replace c1 := ble hb5 c1
              replace c2 := ble hb5 c2
              replace c3 := ble hb5 c3
              have hps := hide (picks_snoc all os m)
              generalize all.getD m RunV.zero = R at *
              obtain ⟨rt, rl, rf, ro⟩ := R
              dsimp only at c0 c1 c2 c3
              have h8c := own_keep h8b (balloc w5 (.cells #[.int .i64 rt, .int .i64 rl, .int .i64 rf, .int .i64 ro] 72))
              have h9c := own_keep hown2 (balloc w5 (.cells #[.int .i64 rt, .int .i64 rl, .int .i64 rf, .int .i64 ro] 72))
              have hb6 := hb5.trans ((balloc w5 (.cells #[.int .i64 rt, .int .i64 rl, .int .i64 rf, .int .i64 ro] 72)).mono hb5.size)
              obtain ⟨M, hM⟩ : ∃ M, (os ++ [m]).length = M := ⟨_, rfl⟩
              have hMo : M = os.length + 1 := by rw [← hM]; simp
              rw [hM] at h9c hown2 ⊢
              replace hM := hide hM
              clear hgrow hown h9 h8 hb4 ho8 ho9 hb3 h8b hbw hMo
              go_wp2_with (at_builtin; refine wpList_append_own _ rfl _ _ 41 rfl wo.heap.size 72 i0 _ 4 32 Try.underlying41 hi hz0 hz1 hz2 rfl (by decide) _ _ _ rfl h8c ⟨w5.heap.size, 0, none⟩ 1 1 (RunV.vs ⟨rt, rl, rf, ro⟩) rfl rfl ?c1 ?c2 ?c3 ?c4 ?c5 ?_)
              case c1 => exact World.news_of_block (cs := #[.int .i64 rt, .int .i64 rl, .int .i64 rf, .int .i64 ro]) (t := 72) (fr := (0, 0)) (heap_alloc_new w5 _)
              case c2 => simp [RunV.vs, Value.oneCell']
              case c3 => unfold maxLen; omega
              case c4 => omega
              case c5 => exact hb6.size
              intro v3 w6 hown hgrow _
              have hb7 := hb6.grown hgrow hb6.size (own_from h8c (Nat.le_refl _))
              have h9d := own_far h9c hgrow (own_otherT h9c h8c (by decide))
              have hown3 : w6.ownsRow wo.heap.size 72 4 v3 (os ++ [m]).length (flatRuns (picks all (os ++ [m]))) := by
                rw [hps.out, flatRuns_app, flat_one_run, List.length_append]
                exact hown
              obtain ⟨v3a, v3c, rfl⟩ := own_form hown3
              rw [← hM.out] at h9d
              clear hgrow hown h9c h8c hb6 hb5 hown2 c0 c1 c2 c3
              go_wp2
              go_roundw
              case rel => exact ⟨os ++ [m], hos2, hown3, by rw [hM.out] at h9d ⊢; exact h9d, hb7⟩
              case measure => simp [lenOf]; omega
        · have hle : os.length = all.length := by omega
          have hlt' : ¬ ((os.length : Int) < (all.length : Int)) := by omega
          have hf : Hid (AnsPlan w all (.returned (.slice a8 os.length p8)) wr) := hide ⟨_, picks all os, rfl, picks_perm hos hle, picks_sort hos hmo.out, by simpa [picks] using own_base ho8 hsw, btrans hb hb3⟩
          replace hle := hide hle
          clear hRd
          go_wp2
          go_ret
          exact hf.out
end Go.Proofs.Ythfknkmabjgklaa
