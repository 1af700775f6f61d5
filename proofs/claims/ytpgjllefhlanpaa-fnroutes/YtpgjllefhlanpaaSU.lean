/- What is held, stuck, reached. -/
import Derived.Test.YtpgjllefhlanpaaST
namespace Go.Proofs.Ytpgjllefhlanpaa
open Go.RowKit

set_option maxHeartbeats 1600000 in
theorem cHeldI (a b x y z : Option Addr) (ca cb cx cy cz : Nat) (p : PlantV) (l : LockV) (r : Nat) (w : World) (hP : PlantIn w a b p) (hz : Bools w z l.taken) (hS : Small p) (hF : Fits p l) (hr : r < p.routes.length) :
    Calls Try.prog 67 #[stVal a ca b cb p x cx y cy z cz l, .int .i64 r] w fun e w' => e = .returned (.bool (held p l r)) ∧ Below w.heap.size w w' := by
  have hsm := hS.at hr
  have hnd : ∀ (k : Nat) (hk : k < (p.route r).blocks.length), 0 ≤ (p.route r).blocks[k] ∧ (p.route r).blocks[k] < l.taken.length := fun k hk => by
    have := hF.ok.block hr (List.getElem_mem hk); rw [hF.taken]; exact this
  have r12 := hF.ok.r12
  obtain ⟨g, off, n, cn, m, cm, rfl, c1, c2, -, -, c3⟩ := hP.at hr
  clear hP hS hF c1
  generalize hres : held p l r = res
  have hr0 : Hid (((p.route r).blocks.drop 0).any (fun b => l.taken.getD b.toNat false) = res) := hres
  clear hres
  generalize (p.route r).blocks = bs at *
  obtain ⟨U, B, R⟩ := p
  obtain ⟨po, se, ta⟩ := l
  unfold stVal
  dsimp only at *
  have hb0 := balloc w (.cells #[.slice a U.length ca, .int .i64 B, .slice (some ⟨g, off, none⟩) R.length cb, .slice x po.length cx, .slice y se.length cy, .slice z ta.length cz] 61)
  have k0 : (w.alloc (.cells #[.slice a U.length ca, .int .i64 B, .slice (some ⟨g, off, none⟩) R.length cb, .slice x po.length cx, .slice y se.length cy, .slice z ta.length cz] 61)).heap[w.heap.size]? = some (.cells #[.slice a U.length ca, .int .i64 B, .slice (some ⟨g, off, none⟩) R.length cb, .slice x po.length cx, .slice y se.length cy, .slice z ta.length cz] 61 (0, 0)) := new1
  have d1 := ble hb0 c2
  go_enter Try.func67, Try.ntmps67
  go_wp2
  go_loopw [15] (fun i wr => ∃ k : Nat, k ≤ bs.length ∧ i = .int .i64 k ∧ Hid ((bs.drop k).any (fun b => ta.getD b.toNat false) = res) ∧ Below w.heap.size w wr ∧ wr.heap[w.heap.size]? = some (.cells #[.slice a U.length ca, .int .i64 B, .slice (some ⟨g, off, none⟩) R.length cb, .slice x po.length cx, .slice y se.length cy, .slice z ta.length cz] 61 (0, 0))) (fun i _ => bs.length - (intOf i).toNat)
  case atStart => exact ⟨0, Nat.zero_le _, rfl, hr0, hb0, k0⟩
  case round =>
    obtain ⟨k, hk, rfl, hres, hb, hk1⟩ := hrel
    clear hr0 hb0 k0 d1 c2
    by_cases hlt : k < bs.length
    · rcases c3 with h | ⟨nb, no, rfl, hc⟩
      · simp [h] at hlt
      have q0 := ble hb (hc k hlt)
      have e0 : bs.getD k 0 = bs[k] := by simp [List.getD, hlt]
      rw [e0] at q0
      have hd := hide (any_drop (P := fun b : Int => ta.getD b.toNat false) hlt)
      have hbk := hnd k hlt
      generalize bs[k] = E at *
      obtain ⟨j, rfl⟩ := Int.eq_ofNat_of_zero_le hbk.1
      have hj : j < ta.length := by omega
      rcases hz with h | ⟨xb, xo, rfl, hxc⟩
      · simp [h] at hj
      have v0 := ble hb (hxc j hj)
      obtain ⟨g0, g1, g2, g3, g4, g5⟩ := blk6 hk1
      have hd' := hide (hd.out.symm.trans hres.out)
      rw [show ((j : Int)).toNat = j from rfl] at hd'
      generalize ta.getD j false = v at *
      clear hc e0 hd hres hxc hnd
      cases v
      · have hf := hide (show (bs.drop (k + 1)).any (fun b => ta.getD b.toNat false) = res by rw [← hd'.out]; simp)
        clear hd'
        go_wp2
        go_roundw
        case rel => exact ⟨k + 1, by omega, by go_num, hf, hb, hk1⟩
        case measure => simp [intOf]; omega
      · have hf := hide (show res = true by rw [← hd'.out]; simp)
        clear hd'
        go_wp2
        go_ret
        exact ⟨ret_bool hf.out.symm, hb⟩
    · obtain rfl : k = bs.length := by omega
      have hf := hide (show res = false by rw [← hres.out, List.drop_length]; rfl)
      clear hz c3
      go_wp2
      go_ret
      exact ⟨ret_bool hf.out.symm, hb⟩

set_option maxHeartbeats 1600000 in
theorem cStuckI (a b x y z : Option Addr) (ca cb cx cy cz : Nat) (p : PlantV) (l : LockV) (r : Nat) (w : World) (hP : PlantIn w a b p) (hx : Ints w x l.pos) (hz : Bools w z l.taken) (hS : Small p) (hF : Fits p l) (hr : r < p.routes.length) :
    Calls Try.prog 68 #[stVal a ca b cb p x cx y cy z cz l, .int .i64 r] w fun e w' => e = .returned (.bool (stuck p l r)) ∧ Below w.heap.size w w' := by
  have hsm := hS.at hr
  have hnd : ∀ (k : Nat) (hk : k < (p.route r).needs.length), 0 ≤ (p.route r).needs[k].point ∧ (p.route r).needs[k].point < l.pos.length := fun k hk => by
    have := hF.ok.need hr (List.getElem_mem hk); rw [hF.pos]; exact ⟨this.1, this.2.1⟩
  have hun : ∀ (k : Nat) (hk : k < p.under.length), 0 ≤ p.under.getD k 0 ∧ p.under.getD k 0 < l.taken.length := fun k hk => by
    rw [getD_nat _ _ hk, hF.taken]; exact hF.ok.und _ (List.getElem_mem hk)
  have hpu := hide hF.pos
  have r12 := hF.ok.r12
  have hU := hP.under
  obtain ⟨g, off, n, cn, m, cm, rfl, c1, c2, -, c3, -⟩ := hP.at hr
  clear hP hS hF c2
  generalize hres : stuck p l r = res
  have hr0 : Hid (((p.route r).needs.drop 0).any (fun n => !decide (l.pos.getD n.point.toNat 0 = n.pos) && l.taken.getD (p.under.getD n.point.toNat 0).toNat false) = res) := hres
  clear hres
  generalize (p.route r).needs = es at *
  obtain ⟨U, B, R⟩ := p
  obtain ⟨po, se, ta⟩ := l
  unfold stVal
  dsimp only at *
  have hb0 := balloc w (.cells #[.slice a U.length ca, .int .i64 B, .slice (some ⟨g, off, none⟩) R.length cb, .slice x po.length cx, .slice y se.length cy, .slice z ta.length cz] 61)
  have k0 : (w.alloc (.cells #[.slice a U.length ca, .int .i64 B, .slice (some ⟨g, off, none⟩) R.length cb, .slice x po.length cx, .slice y se.length cy, .slice z ta.length cz] 61)).heap[w.heap.size]? = some (.cells #[.slice a U.length ca, .int .i64 B, .slice (some ⟨g, off, none⟩) R.length cb, .slice x po.length cx, .slice y se.length cy, .slice z ta.length cz] 61 (0, 0)) := new1
  have d1 := ble hb0 c1
  go_enter Try.func68, Try.ntmps68
  go_wp2
  go_loopw [15] (fun i wr => ∃ k : Nat, k ≤ es.length ∧ i = .int .i64 k ∧ Hid ((es.drop k).any (fun n => !decide (po.getD n.point.toNat 0 = n.pos) && ta.getD (U.getD n.point.toNat 0).toNat false) = res) ∧ Below w.heap.size w wr ∧ wr.heap[w.heap.size]? = some (.cells #[.slice a U.length ca, .int .i64 B, .slice (some ⟨g, off, none⟩) R.length cb, .slice x po.length cx, .slice y se.length cy, .slice z ta.length cz] 61 (0, 0))) (fun i _ => es.length - (intOf i).toNat)
  case atStart => exact ⟨0, Nat.zero_le _, rfl, hr0, hb0, k0⟩
  case round =>
    obtain ⟨k, hk, rfl, hres, hb, hk1⟩ := hrel
    clear hr0 hb0 k0 d1 c1
    by_cases hlt : k < es.length
    · rcases c3 with h | ⟨nb, no, rfl, hc⟩
      · simp [h] at hlt
      obtain ⟨q0, q1⟩ := hc k hlt
      replace q0 := ble hb q0
      replace q1 := ble hb q1
      have e0 : es.getD k NeedV.zero = es[k] := by simp [List.getD, hlt]
      rw [e0] at q0 q1
      have hd := hide (any_drop (P := fun n : NeedV => !decide (po.getD n.point.toNat 0 = n.pos) && ta.getD (U.getD n.point.toNat 0).toNat false) hlt)
      have hbk := hnd k hlt
      generalize es[k] = E at *
      obtain ⟨pt, ps⟩ := E
      dsimp only at *
      obtain ⟨j, rfl⟩ := Int.eq_ofNat_of_zero_le hbk.1
      have hj : j < po.length := by omega
      have hju : j < U.length := by rw [← hpu.out]; exact hj
      have hjU : (j : Int) < U.length := by omega
      have hu1 := hun j hju
      rcases hx with h | ⟨xb, xo, rfl, hxc⟩
      · simp [h] at hj
      rcases hU with h | ⟨ub, uo, rfl, huc⟩
      · simp [h] at hju
      have v0 := ble hb (hxc j hj)
      have u0 := ble hb (huc j hju)
      have hba := balloc wr (.cells #[.int .i64 j, .int .i64 ps] 74)
      replace hk1 := blk_keep hba hk1
      replace hb := btrans hb hba
      replace v0 := ble hba v0
      replace u0 := ble hba u0
      obtain ⟨g0, g1, g2, g3, g4, g5⟩ := blk6 hk1
      have hd' := hide (hd.out.symm.trans hres.out)
      rw [show ((j : Int)).toNat = j from rfl] at hd'
      generalize po.getD j 0 = v at *
      generalize U.getD j 0 = u at *
      obtain ⟨i, rfl⟩ := Int.eq_ofNat_of_zero_le hu1.1
      have hi : i < ta.length := by omega
      rcases hz with h | ⟨zb, zo, rfl, hzc⟩
      · simp [h] at hi
      have t0 := ble hb (hzc i hi)
      rw [show ((i : Int)).toNat = i from rfl] at hd'
      generalize ta.getD i false = t at *
      clear hc e0 hba hd hres hxc hnd hun huc hzc hpu
      by_cases hv : v = ps
      · subst hv
        have hf := hide (show (es.drop (k + 1)).any (fun n => !decide (po.getD n.point.toNat 0 = n.pos) && ta.getD (U.getD n.point.toNat 0).toNat false) = res by rw [← hd'.out]; simp)
        clear hd'
        go_wp2
        go_quiet (fail)
        go_wp2
        go_roundw
        case rel => exact ⟨k + 1, by omega, by go_num, hf, bdraw hb _, hk1⟩
        case measure => simp [intOf]; omega
      · have hv' : (v == ps) = false := by simp [hv]
        cases t
        · have hf := hide (show (es.drop (k + 1)).any (fun n => !decide (po.getD n.point.toNat 0 = n.pos) && ta.getD (U.getD n.point.toNat 0).toNat false) = res by rw [← hd'.out]; simp)
          clear hd'
          go_wp2
          go_quiet (fail)
          go_wp2
          go_roundw
          case rel => exact ⟨k + 1, by omega, by go_num, hf, bdraw hb _, hk1⟩
          case measure => simp [intOf]; omega
        · have hf := hide (show res = true by rw [← hd'.out]; simp [hv])
          clear hd'
          go_wp2
          go_quiet (fail)
          go_wp2
          go_ret
          exact ⟨ret_bool hf.out.symm, bdraw hb _⟩
    · obtain rfl : k = es.length := by omega
      have hf := hide (show res = false by rw [← hres.out, List.drop_length]; rfl)
      clear hx c3 hU hz
      go_wp2
      go_ret
      exact ⟨ret_bool hf.out.symm, hb⟩

set_option maxHeartbeats 1600000 in
theorem cReachedI (a b x y z : Option Addr) (ca cb cx cy cz : Nat) (p : PlantV) (l : LockV) (q : Int) (w : World) (hP : PlantIn w a b p) (hy : Bools w y l.set) (hS : Small p) (hF : Fits p l) :
    Calls Try.prog 69 #[stVal a ca b cb p x cx y cy z cz l, .int .i64 q] w fun e w' => e = .returned (.bool (reached p l q)) ∧ Below w.heap.size w w' := by
  have hset := hide hF.set
  have r12 := hF.ok.r12
  have hat := fun (w1 : World) (hb : Below w.heap.size w w1) (i : Nat) (hi : i < p.routes.length) => (hP.below hb).at hi
  have hsm := fun i (hi : i < p.routes.length) => hS.at hi
  clear hP hS hF
  generalize hres : reached p l q = res
  have hr0 : Hid (((List.range l.set.length).drop 0).any (fun r => l.set.getD r false && decide (q ∈ (p.route r).blocks)) = res) := hres
  clear hres
  unfold PlantV.route at *
  obtain ⟨U, B, R⟩ := p
  obtain ⟨po, se, ta⟩ := l
  unfold stVal
  dsimp only at *
  have hb0 := balloc w (.cells #[.slice a U.length ca, .int .i64 B, .slice b R.length cb, .slice x po.length cx, .slice y se.length cy, .slice z ta.length cz] 61)
  have k0 : (w.alloc (.cells #[.slice a U.length ca, .int .i64 B, .slice b R.length cb, .slice x po.length cx, .slice y se.length cy, .slice z ta.length cz] 61)).heap[w.heap.size]? = some (.cells #[.slice a U.length ca, .int .i64 B, .slice b R.length cb, .slice x po.length cx, .slice y se.length cy, .slice z ta.length cz] 61 (0, 0)) := new1
  have hse : se.length ≤ 12 := by rw [hset.out]; exact r12
  go_enter Try.func69, Try.ntmps69
  go_wp2
  go_loopw [11] (fun i wr => ∃ k : Nat, k ≤ se.length ∧ i = .int .i64 k ∧ Hid (((List.range se.length).drop k).any (fun r => se.getD r false && decide (q ∈ (R.getD r RouteV.zero).blocks)) = res) ∧ Below w.heap.size w wr ∧ wr.heap[w.heap.size]? = some (.cells #[.slice a U.length ca, .int .i64 B, .slice b R.length cb, .slice x po.length cx, .slice y se.length cy, .slice z ta.length cz] 61 (0, 0))) (fun i _ => se.length - (intOf i).toNat)
  case atStart => exact ⟨0, Nat.zero_le _, rfl, hr0, hb0, k0⟩
  case round =>
    obtain ⟨k, hk, rfl, hres, hb, hk1⟩ := hrel
    clear hr0 hb0 k0
    by_cases hlt : k < se.length
    · have hkr : k < R.length := by rw [← hset.out]; exact hlt
      have hkr' : (k : Int) < R.length := by omega
      obtain ⟨g, off, n, cn, m, cm, rfl, c1, c2, -, -, c3⟩ := hat _ hb k hkr
      have hm1 := hsm k hkr
      rcases hy with h | ⟨yb, yo, rfl, hyc⟩
      · simp [h] at hlt
      have v0 := ble hb (hyc k hlt)
      have hd := hide ((any_drop (P := fun r => se.getD r false && decide (q ∈ (R.getD r RouteV.zero).blocks)) (zs := List.range se.length) (k := k) (by simpa using hlt)).symm.trans hres.out)
      simp only [List.getElem_range] at hd
      generalize R.getD k RouteV.zero = Q at *
      obtain ⟨es, bs⟩ := Q
      dsimp only at *
      obtain ⟨g0, g1, g2, g3, g4, g5⟩ := blk6 hk1
      generalize se.getD k false = v at *
      clear hres hyc hat hsm hset
      cases v
      · have hf := hide (show ((List.range se.length).drop (k + 1)).any (fun r => se.getD r false && decide (q ∈ (R.getD r RouteV.zero).blocks)) = res by rw [← hd.out]; simp)
        clear hd
        go_wp2
        go_roundw
        case rel => exact ⟨k + 1, by omega, by go_num, hf, hb, hk1⟩
        case measure => simp [intOf]; omega
      · go_wp2_with fail
        refine (cContainsInts m cm bs q _ c3 hm1.2).mono ?_
        rintro e w1 ⟨rfl, hw⟩
        subst w1
        cases hq : decide (q ∈ bs)
        · have hf := hide (show ((List.range se.length).drop (k + 1)).any (fun r => se.getD r false && decide (q ∈ (R.getD r RouteV.zero).blocks)) = res by rw [← hd.out, hq]; simp)
          clear hd hq
          go_wp2
          go_roundw
          case rel => exact ⟨k + 1, by omega, by go_num, hf, hb, hk1⟩
          case measure => simp [intOf]; omega
        · have hf := hide (show res = true by rw [← hd.out, hq]; simp)
          clear hd hq
          go_wp2
          go_ret
          exact ⟨ret_bool hf.out.symm, hb⟩
    · obtain rfl : k = se.length := by omega
      have hf := hide (show res = false by rw [← hres.out, List.drop_of_length_le (by simp)]; rfl)
      clear hy hat
      go_wp2
      go_ret
      exact ⟨ret_bool hf.out.symm, hb⟩
end Go.Proofs.Ytpgjllefhlanpaa
