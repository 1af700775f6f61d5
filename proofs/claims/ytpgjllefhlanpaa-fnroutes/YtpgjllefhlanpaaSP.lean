/- The model's PlantOk. -/
import Derived.Test.YtpgjllefhlanpaaCP
namespace Go.Proofs.Ytpgjllefhlanpaa
open Go.RowKit
theorem cInV {x lo hi : Int} {v : Bool} (h : inB x lo hi = v) (w : World) : Calls Try.prog 51 #[.int .i64 x, .int .i64 lo, .int .i64 hi] w fun e w' => e = .returned (.bool v) ∧ w' = w := by
  subst h; exact cIn x lo hi w

set_option maxHeartbeats 800000 in
theorem cHas (a : Option Addr) (cap : Nat) (zs : List Int) (x : Int) (w : World) (hz : Ints w a zs) (hl : zs.length ≤ 1048576) :
    Calls Try.prog 40 #[.slice a zs.length cap, .int .i64 x] w fun e w' => e = .returned (.bool (decide (x ∈ zs))) ∧ w' = w := by
  generalize hr : decide (x ∈ zs) = res
  have hr0 : Hid (decide (x ∈ zs.drop 0) = res) := hr
  clear hr
  go_enter Try.func40, Try.ntmps40
  go_wp2
  go_loop [5] (fun i => ∃ k : Nat, k ≤ zs.length ∧ i = .int .i64 k ∧ Hid (decide (x ∈ zs.drop k) = res)) (fun i => zs.length - (intOf i).toNat)
  case atStart => exact ⟨0, Nat.zero_le _, rfl, hr0⟩
  case round =>
    obtain ⟨k, hk, rfl, hres⟩ := hrel
    clear hr0
    by_cases hlt : k < zs.length
    · rcases hz with h | ⟨b, off, rfl, hc⟩
      · simp [h] at hlt
      have q0 := hc k hlt
      have e0 : zs.getD k 0 = zs[k] := by simp [List.getD, hlt]
      rw [e0] at q0
      have hd := hide (List.drop_eq_getElem_cons hlt)
      generalize zs[k] = y at *
      clear hc e0
      by_cases hxy : y = x
      · subst hxy
        have hf := hide (show res = true by rw [← hres.out, hd.out]; simp)
        clear hd hres
        go_wp2
        go_ret
        exact ⟨ret_bool hf.out.symm, rfl⟩
      · have hf := hide (show decide (x ∈ zs.drop (k + 1)) = res by
          rw [← hres.out, hd.out]
          have : ¬ x = y := fun h => hxy h.symm
          simp [this])
        clear hd hres
        go_wp2
        go_round
        case rel => exact ⟨k + 1, by omega, by go_num, hf⟩
        case measure => simp [intOf]; omega
    · obtain rfl : k = zs.length := by omega
      have hf := hide (show res = false by rw [← hres.out, List.drop_length]; simp)
      clear hz
      go_wp2
      go_ret
      exact ⟨ret_bool hf.out.symm, rfl⟩
theorem cHasV {a : Option Addr} {cap n : Nat} {zs : List Int} {x : Int} {w : World} {v : Bool} (h : decide (x ∈ zs) = v) (hn : zs.length = n) (hz : Ints w a zs) (hl : zs.length ≤ 1048576) :
    Calls Try.prog 40 #[.slice a n cap, .int .i64 x] w fun e w' => e = .returned (.bool v) ∧ w' = w := by
  subst h; subst hn; exact cHas a cap zs x w hz hl

set_option maxHeartbeats 3200000 in
theorem cRouteS (a b : Option Addr) (ca cb : Nat) (p : PlantV) (an am : Option Addr) (cn cm : Nat) (r : RouteV) (w : World) (hN : Needs w an r.needs) (hI : Ints w am r.blocks) (hl : r.needs.length ≤ 1048576) (hm : r.blocks.length ≤ 1048576) (hcm : r.blocks.length ≤ cm) (hu : p.under.length ≤ 16) (h1 : 1 ≤ p.blocks) (h24 : p.blocks ≤ 24) :
    Calls Try.prog 52 #[plantVal a ca b cb p, .agg #[.slice an r.needs.length cn, .slice am r.blocks.length cm]] w fun e w' => e = .returned (.bool (routeOk p.under.length p.blocks r)) ∧ Below w.heap.size w w' := by
  obtain ⟨U, B, R⟩ := p
  obtain ⟨es, bs⟩ := r
  dsimp only at *
  unfold plantVal
  dsimp only
  have hb0 := btrans (balloc w (.cells #[.slice a U.length ca, .int .i64 B, .slice b R.length cb] 27)) (balloc _ (.cells #[.slice an es.length cn, .slice am bs.length cm] 48))
  have k0 : ((w.alloc (.cells #[.slice a U.length ca, .int .i64 B, .slice b R.length cb] 27)).alloc (.cells #[.slice an es.length cn, .slice am bs.length cm] 48)).heap[w.heap.size]? = some (.cells #[.slice a U.length ca, .int .i64 B, .slice b R.length cb] 27 (0, 0)) := two_blocks1 _ _ _
  have j0 : ((w.alloc (.cells #[.slice a U.length ca, .int .i64 B, .slice b R.length cb] 27)).alloc (.cells #[.slice an es.length cn, .slice am bs.length cm] 48)).heap[w.heap.size + 1]? = some (.cells #[.slice an es.length cn, .slice am bs.length cm] 48 (0, 0)) := two_blocks2 _ _ _
  generalize hr : routeOk U.length B ⟨es, bs⟩ = res
  have hr0 : Hid ((needsGo U.length 0 (es.drop 0) && pathOk B bs) = res) := hr
  clear hr
  go_enter Try.func52, Try.ntmps52
  go_wp2
  go_loopw [5] (fun i wr => ∃ (k : Nat) (next : Int), k ≤ es.length ∧ i = .int .i64 k ∧ Hid ((needsGo U.length next (es.drop k) && pathOk B bs) = res) ∧ 0 ≤ next ∧ Hid (next = if k = 0 then 0 else (es.getD (k - 1) NeedV.zero).point + 1) ∧ Below w.heap.size w wr ∧ wr.heap[w.heap.size]? = some (.cells #[.slice a U.length ca, .int .i64 B, .slice b R.length cb] 27 (0, 0)) ∧ wr.heap[w.heap.size + 1]? = some (.cells #[.slice an es.length cn, .slice am bs.length cm] 48 (0, 0))) (fun i _ => es.length - (intOf i).toNat)
  case atStart => exact ⟨0, 0, Nat.zero_le _, rfl, hr0, by omega, rfl, hb0, k0, j0⟩
  case round =>
    obtain ⟨k, next, hk, rfl, hres, hn0, hnx, hb, hk1, hj1⟩ := hrel
    clear hb0 k0 j0 hr0
    obtain ⟨⟨g1, g2, g3⟩, -⟩ := blk3 hk1
    obtain ⟨⟨g4, g5⟩, -⟩ := blk2 hj1
    by_cases hlt : k < es.length
    · rcases hN with h | ⟨nb, off, rfl, hc⟩
      · simp [h] at hlt
      obtain ⟨q0, q1⟩ := hc k hlt
      replace q0 := ble hb q0
      replace q1 := ble hb q1
      have e0 : es.getD k NeedV.zero = es[k] := by simp [List.getD, hlt]
      have hres2 := hide ((congrArg (· && pathOk B bs) (needsGo_drop hlt)).symm.trans hres.out)
      have hprev : ∀ h : 0 < k, wr.cell? ⟨nb, off + (k - 1) * 2, none⟩ = some (.int .i64 (es.getD (k - 1) NeedV.zero).point) := fun h => ble hb (hc (k - 1) (by omega)).1
      have hnext : k + 1 ≠ 0 → Hid (es[k].point + 1 = if k + 1 = 0 then 0 else (es.getD (k + 1 - 1) NeedV.zero).point + 1) := fun h => by
        have e : es.getD k NeedV.zero = es[k] := by simp [List.getD, hlt]
        refine hide ?_
        rw [if_neg h, Nat.add_sub_cancel, e]
      rw [e0] at q0 q1
      replace hnext := hnext (by omega)
      generalize es[k] = E at *
      obtain ⟨pt, ps⟩ := E
      dsimp only at *
      have hba := balloc wr (.cells #[.int .i64 pt, .int .i64 ps] 74)
      have hb1 := btrans hb hba
      have hk2 := blk_keep hba hk1
      have hj2 := blk_keep hba hj1
      obtain ⟨⟨g1', g2', g3'⟩, -⟩ := blk3 hk2
      obtain ⟨⟨g4', g5'⟩, -⟩ := blk2 hj2
      replace hprev := fun h => ble hba (hprev h)
      clear hc e0 hres hk1 hj1
      cases hx : inB pt 0 (U.length - 1)
      · have hf := hide (show res = false by
          rw [← hres2.out]
          have : inB pt next (U.length - 1) = false := by
            rw [← Bool.not_eq_true]; intro h; have := inB_true h
            rw [inB_yes (by omega) this.2] at hx; cases hx
          rw [this]; rfl)
        clear hprev hnext hnx hres2
        go_wp2
        go_quiet ((go_at_call 51; with_reducible exact Calls.quiet_of_same (cInV hx _)))
        go_wp2
        go_ret
        exact ⟨ret_bool hf.out.symm, bdraw hb1 _⟩
      have hxx := inB_true hx
      cases hy : inB ps 0 1
      · have hf := hide (show res = false by rw [← hres2.out, hy]; simp)
        clear hprev hnext hnx hres2
        go_wp2
        go_quiet (first | (go_at_call 51; with_reducible exact Calls.quiet_of_same (cInV hx _)) | (go_at_call 51; with_reducible exact Calls.quiet_of_same (cInV hy _)))
        go_wp2
        go_ret
        exact ⟨ret_bool hf.out.symm, bdraw hb1 _⟩
      by_cases h0 : k = 0
      · have hnx0 : next = 0 := by rw [hnx.out, if_pos h0]
        have hf := hide (show (needsGo U.length (pt + 1) (es.drop (k + 1)) && pathOk B bs) = res by rw [← hres2.out, hnx0, hx, hy]; rfl)
        have hd : decide ((0 : Int) < (k : Int)) = false := by simp; omega
        have hd2 : decide (0 < k) = false := by simp; omega
        have hwU : IntKind.i64.wrap ((U.length : Int) - 1) = U.length - 1 := wrap_in _ (by omega) (by omega)
        replace h0 := hide h0
        clear hprev hnx hres2 hnx0 hn0
        go_wp2
        go_quiet (first | (go_at_call 51; with_reducible exact Calls.quiet_of_same (cInV hx _)) | (go_at_call 51; with_reducible exact Calls.quiet_of_same (cInV hy _)))
        go_wp2
        go_roundw
        case rel => exact ⟨k + 1, pt + 1, by omega, by go_num, hf, by omega, hnext, bdraw hb1 _, hk2, hj2⟩
        case measure => simp [intOf]; omega
      · obtain ⟨m, rfl⟩ : ∃ m, k = m + 1 := ⟨k - 1, by omega⟩
        have hpr := hprev (by omega)
        rw [Nat.add_sub_cancel] at hpr
        have hnx1 : next = (es.getD m NeedV.zero).point + 1 := by rw [hnx.out, if_neg (by omega), Nat.add_sub_cancel]
        generalize (es.getD m NeedV.zero).point = pp at *
        subst hnx1
        have hm0 : (0 : Int) < (m : Int) + 1 := by omega
        by_cases hge : pt ≤ pp
        · have hf := hide (show res = false by
            rw [← hres2.out]
            have : inB pt (pp + 1) (U.length - 1) = false := by
              rw [← Bool.not_eq_true]; intro h; have := inB_true h; omega
            rw [this]; rfl)
          have hd : decide (pt ≤ pp) = true := by simp [hge]
          clear hprev hnext hnx hres2
          go_wp2
          go_quiet (first | (go_at_call 51; with_reducible exact Calls.quiet_of_same (cInV hx _)) | (go_at_call 51; with_reducible exact Calls.quiet_of_same (cInV hy _)))
          go_wp2
          go_ret
          exact ⟨ret_bool hf.out.symm, bdraw hb1 _⟩
        · have hf := hide (show (needsGo U.length (pt + 1) (es.drop (m + 1 + 1)) && pathOk B bs) = res by
            rw [← hres2.out, inB_yes (show pp + 1 ≤ pt by omega) hxx.2, hy]; rfl)
          have hd : decide (pt ≤ pp) = false := by simp [hge]
          clear hprev hnx hres2
          go_wp2
          go_quiet (first | (go_at_call 51; with_reducible exact Calls.quiet_of_same (cInV hx _)) | (go_at_call 51; with_reducible exact Calls.quiet_of_same (cInV hy _)))
          go_wp2
          go_roundw
          case rel => exact ⟨m + 1 + 1, pt + 1, by omega, by go_num, hf, by omega, hnext, bdraw hb1 _, hk2, hj2⟩
          case measure => simp [intOf]; omega
    · obtain rfl : k = es.length := by omega
      have hr2 := hide (show (pathGo B (bs.take 0) (bs.drop 0) && decide (0 < bs.length)) = res by rw [← hres.out, List.drop_length]; rfl)
      clear hres hnx hn0 hN
      go_wp2
      clear g1 g2 g3 g4 g5
      obtain ⟨wo, hwo⟩ : ∃ wo, wo = wr := ⟨wr, rfl⟩
      rw [← hwo] at hb hk1 hj1
      rw [← hwo]
      clear hwo
      go_loopw [7] (fun i wr => ∃ (k : Nat), k ≤ bs.length ∧ i = .int .i64 k ∧ Hid ((pathGo B (bs.take k) (bs.drop k) && decide (0 < bs.length)) = res) ∧ Below w.heap.size w wr ∧ wr.heap[w.heap.size]? = some (.cells #[.slice a U.length ca, .int .i64 B, .slice b R.length cb] 27 (0, 0)) ∧ wr.heap[w.heap.size + 1]? = some (.cells #[.slice an es.length cn, .slice am bs.length cm] 48 (0, 0))) (fun i _ => bs.length - (intOf i).toNat)
      case atStart => exact ⟨0, Nat.zero_le _, rfl, hr2, hb, hk1, hj1⟩
      case round =>
        obtain ⟨k, hk, rfl, hres, hb2, hk2, hj2⟩ := hrel
        clear hb hk1 hj1 hr2
        obtain ⟨⟨g1, g2, g3⟩, -⟩ := blk3 hk2
        obtain ⟨⟨g4, g5⟩, -⟩ := blk2 hj2
        by_cases hlt : k < bs.length
        · have hI2 := (hI.below hb2).upto k
          have htk : (bs.take k).length = k := by simp; omega
          have hl2 : (bs.take k).length ≤ 1048576 := by omega
          rcases hI with h | ⟨nb, off, rfl, hc⟩
          · simp [h] at hlt
          have q0 := ble hb2 (hc k hlt)
          have e0 : bs.getD k 0 = bs[k] := by simp [List.getD, hlt]
          rw [e0] at q0
          have hres2 := hide (show (inB bs[k] 0 (B - 1) && !decide (bs[k] ∈ bs.take k) && pathGo B (bs.take (k + 1)) (bs.drop (k + 1)) && decide (0 < bs.length)) = res by rw [← take_snoc hlt, ← pathGo_drop hlt]; exact hres.out)
          generalize bs[k] = x at *
          have hwB : IntKind.i64.wrap (B - 1) = B - 1 := wrap_in _ (by omega) (by omega)
          have hcap : (k : Int) ≤ cm := by omega
          have hcap0 : (0 : Int) ≤ k := by omega
          have hcap1 : ¬ (cm = 0) := by omega
          have hcap2 : k ≤ cm := by omega
          clear hc e0 hres
          cases hx : inB x 0 (B - 1)
          · have hf := hide (show res = false by rw [← hres2.out, hx]; rfl)
            clear hres2
            go_wp2
            go_quiet ((go_at_call 51; with_reducible exact Calls.quiet_of_same (cInV hx _)))
            go_wp2
            go_ret
            exact ⟨ret_bool hf.out.symm, bdraw hb2 _⟩
          cases hy : decide (x ∈ bs.take k)
          · have hf := hide (show (pathGo B (bs.take (k + 1)) (bs.drop (k + 1)) && decide (0 < bs.length)) = res by rw [← hres2.out, hx, hy]; rfl)
            replace hy := hide hy
            replace htk := hide htk
            clear hres2
            go_wp2
            go_quiet (first | (go_at_call 51; with_reducible exact Calls.quiet_of_same (cInV hx _)) | (go_at_call 40; with_reducible exact Calls.quiet_of_same (cHasV hy.out htk.out (hI2.below (bdraw (Below.refl _ _) _)) hl2)))
            go_wp2
            go_roundw
            case rel => exact ⟨k + 1, by omega, by go_num, hf, bdraw hb2 _, hk2, hj2⟩
            case measure => simp [intOf]; omega
          · have hf := hide (show res = false by rw [← hres2.out, hx, hy]; rfl)
            replace hy := hide hy
            replace htk := hide htk
            clear hres2
            go_wp2
            go_quiet (first | (go_at_call 51; with_reducible exact Calls.quiet_of_same (cInV hx _)) | (go_at_call 40; with_reducible exact Calls.quiet_of_same (cHasV hy.out htk.out (hI2.below (bdraw (Below.refl _ _) _)) hl2)))
            go_wp2
            go_ret
            exact ⟨ret_bool hf.out.symm, bdraw hb2 _⟩
        · obtain rfl : k = bs.length := by omega
          have hf := hide (show res = decide (0 < bs.length) by rw [← hres.out, List.drop_length]; rfl)
          clear hI hres
          by_cases h0 : 0 < bs.length
          · have h0' : (0 : Int) < bs.length := by omega
            go_wp2
            go_ret
            exact ⟨ret_bool (by rw [hf.out]; simp [h0]), hb2⟩
          · have h0' : ¬ ((0 : Int) < bs.length) := by omega
            go_wp2
            go_ret
            exact ⟨ret_bool (by rw [hf.out]; simp [h0]), hb2⟩
end Go.Proofs.Ytpgjllefhlanpaa
