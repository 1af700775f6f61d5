/- The walk of the law on trains that are stuck. -/
import Derived.Test.YtggdejceobagcaaDA
import Derived.Test.YtggdejceobagcaaY
namespace Go.Proofs.Ytggdejceobagcaa
open Go.RowKit

theorem own_safe {w : World} {B e sz n c : Nat} {a : Option Addr} {xs : List Value} (h : w.ownsRow B e sz (.slice a n c) n xs) : (a = none → c = 0) ∧ (∀ x, a = some x → x.spot = none) := by
  rcases h.2 with ⟨he, _⟩ | ⟨g, c', cur, he, _⟩
  · simp only [Value.slice.injEq] at he
    obtain ⟨rfl, _, rfl⟩ := he
    exact ⟨fun _ => rfl, (fun x h => by cases h)⟩
  · simp only [Value.slice.injEq] at he
    obtain ⟨rfl, _, rfl⟩ := he
    exact ⟨(fun h => by cases h), (fun x h => by cases h; rfl)⟩
theorem stuck_cant {ls : List Int} {ts : List SingleV} (h : stuckT ls ts = true) : canFin ls ts = false := by
  simp only [stuckT, Bool.and_eq_true, List.all_eq_true, Bool.not_eq_true'] at h
  refine canFin_none h.1.2 (fun i hi => ?_)
  have := h.2 i (List.mem_range.2 hi)
  simp [goodI, this]
theorem move_other {ts : List SingleV} {i j : Nat} (hi : i < ts.length) (hj : j < ts.length) (h : j ≠ i) : (moveT ts i).getD j SingleV.zero = ts[j] := by
  rw [moveT_eq hi, getD_lt (by simpa using hj), List.getElem_set_ne (Ne.symm h)]
theorem move_same {ts : List SingleV} {i : Nat} (hi : i < ts.length) : (moveT ts i).getD i SingleV.zero = ⟨nextS ts[i], ts[i].d⟩ := by
  rw [moveT_eq hi, getD_lt (by simpa using hi), List.getElem_set_self]
theorem next_sq {t : SingleV} : nextS t - t.s = 1 ∨ nextS t - t.s = -1 := by unfold nextS; split <;> omega

/-- What the law draws. -/
structure Drawn (w1 : World) (la : Option Addr) (lc : Nat) (ls : List Int) (tb : Option Addr) (tc : Nat) (ts : List SingleV) : Prop where
  ok : singlesOk ls ts = true
  line : Ints w1 la ls
  trains : Singles w1 tb ts
  lla : ∀ x, la = some x → x.block < w1.heap.size
  ltb : ∀ x, tb = some x → x.block < w1.heap.size
  none : tb = .none → tc = 0
  spot : ∀ x, tb = some x → x.spot = .none
theorem Drawn.below {w1 w' : World} {la tb : Option Addr} {lc tc : Nat} {ls : List Int} {ts : List SingleV} (h : Drawn w1 la lc ls tb tc ts) (hb : Below w1.heap.size w1 w') : Drawn w' la lc ls tb tc ts :=
  ⟨h.ok, h.line.below hb, h.trains.below hb, fun x hx => Nat.lt_of_lt_of_le (h.lla x hx) hb.size, fun x hx => Nat.lt_of_lt_of_le (h.ltb x hx) hb.size, h.none, h.spot⟩
theorem Drawn.sizes {w1 : World} {la tb : Option Addr} {lc tc : Nat} {ls : List Int} {ts : List SingleV} (h : Drawn w1 la lc ls tb tc ts) : ls.length ≤ 5 ∧ ts.length ≤ 4 :=
  ⟨(lineOk_parts (singlesOk_parts h.ok).1).2.2, (singlesOk_parts h.ok).2.1⟩

set_option maxRecDepth 20000 in
set_option maxHeartbeats 12800000 in
theorem walkStuckD (a : Option Addr) (cap : Nat) (bs : List Int) (w : World) (hz : Bytes w a bs) (hm : bs.length ≤ maxLen) :
    Calls Try.prog 4 #[.slice a bs.length cap] w fun e w' => e = .returned (.bool true) ∧ Below w.heap.size w w' := by
  by_cases hl2 : 1048576 < bs.length
  · go_enter Try.func4, Try.ntmps4
    go_wp2_with fail
    refine (cbig a cap bs.length _ hm).mono ?_
    rintro e w1 ⟨rfl, hw⟩
    subst w1
    rw [decide_eq_true hl2]
    go_wp2
    go_ret
    exact ⟨rfl, Below.refl _ _⟩
  have hl : bs.length ≤ 1048576 := by omega
  go_enter Try.func4, Try.ntmps4
  go_wp2_with fail
  refine (cbig a cap bs.length _ hm).mono ?_
  rintro e w1 ⟨rfl, hw⟩
  subst w1
  rw [decide_eq_false hl2]
  go_wp2_with fail
  refine (cDrawRS a cap bs _ hz hl).mono ?_
  rintro e w1 ⟨la, lc, ls, tb, tc, ts, rfl, hok, OL, OT, HB⟩
  have hD : Drawn w1 la lc ls tb tc ts := ⟨hok, Ints.own OL rfl, Singles.own OT, own_lt OL, own_lt OT, (own_safe OT).1, (own_safe OT).2⟩
  obtain ⟨hs5, hs4⟩ := hD.sizes
  clear OL OT hz hm hl hl2
  have CS := fun w' (h : Below w1.heap.size w1 w') => cStuckI la tb lc tc ls ts w' (hD.below h).line (by omega) (hD.below h).trains (by omega)
  have CC := fun w' (h : Below w1.heap.size w1 w') => cCanI la tb lc tc ls ts w' (hD.below h).line (by omega) (hD.below h).lla (hD.below h).trains hD.none hD.spot (by omega)
  have CM := fun (k : Nat) w' (h : Below w1.heap.size w1 w') => cMoveOnI la tb lc tc ls ts k w' (hD.below h).line (by omega) (hD.below h).trains hD.none hD.spot (by omega)
  have CI := fun (k : Nat) w' (h : Below w1.heap.size w1 w') => cMayMoveI la tb lc tc ls ts k w' (hD.below h).line (by omega) (hD.below h).trains (by omega)
  have CP := fun (k : Nat) w' (h : Below w1.heap.size w1 w') => cMayMoveS la tb lc tc ls ts k w' (hD.below h).line (by omega) (hD.below h).trains (by omega)
  go_wp2_with fail
  refine (CS _ (Below.refl _ _)).mono ?_
  rintro e w2 ⟨rfl, hb2⟩
  cases hst : stuckT ls ts
  rotate_left
  · have hcan : canOk ls ts = false := by simp [canOk, stuck_cant hst]
    rw [hcan] at CC
    go_wp2_with fail
    refine (CC _ hb2).mono ?_
    rintro e w3 ⟨rfl, hb3⟩
    have HB3 := btrans (btrans HB hb2) hb3
    clear CS CC CM CI CP hb2 hb3 HB hst
    go_wp2
    go_ret
    exact ⟨rfl, HB3⟩
  clear CS CC hst
  go_wp2
  go_loopw [5] (fun i wr => ∃ k : Nat, k ≤ ts.length ∧ i = .int .i64 k ∧ Below w1.heap.size w1 wr) (fun i _ => ts.length - (intOf i).toNat)
  case atStart => exact ⟨0, Nat.zero_le _, rfl, hb2⟩
  case round =>
    obtain ⟨k, hk, rfl, hb⟩ := hrel
    clear hb2
    by_cases hlt : k < ts.length
    · have C1 := CM k
      have C2 := CI k
      have C3 := CP k
      rw [mayMove_at hok hlt] at C1 C2 C3
      clear CM CI CP
      cases hmg : mayGo ls ts k
      · rw [hmg] at C1 C2 C3
        go_wp2_with fail
        refine (C1 _ hb).mono ?_
        rintro e w3 ⟨v, rfl, -, hb3⟩
        have HB3 := btrans hb hb3
        go_wp2_with fail
        refine (C2 _ HB3).mono ?_
        rintro e w4 ⟨rfl, hb4⟩
        have HB4 := btrans HB3 hb4
        go_wp2_with fail
        refine (C3 _ HB4).mono ?_
        rintro e w5 ⟨rfl, hb5⟩
        have HB5 := btrans HB4 hb5
        clear C1 C2 C3 hb hb3 HB3 hb4 HB4 hb5
        go_wp2
        go_loop [8] (fun i => i = .int .i64 0) (fun _ => 0)
        case atStart => rfl
        case round =>
          subst hrel
          go_wp2
          go_roundw
          case rel => exact ⟨k + 1, by omega, by go_num, HB5⟩
          case measure => simp [intOf]; omega
      · rw [hmg, moveR_at hok hlt hmg, moveT_len] at C1
        rw [hmg] at C2 C3
        have hot := fun j (hj : j < ts.length) (h : j ≠ k) => move_other hlt hj h
        have hsa := move_same hlt
        have hsq := next_sq (t := ts[k])
        have hin := fun j (hj : j < ts.length) => ok_inLine hok hj
        have hlR := moveT_len ts k
        generalize moveT ts k = R at *
        go_wp2_with fail
        refine (C1 _ hb).mono ?_
        rintro e w3 ⟨v, rfl, OV, hb3⟩
        obtain ⟨vo, vc, rfl⟩ := own_form OV
        have SV := Singles.own OV
        have HB3 := btrans hb hb3
        go_wp2_with fail
        refine (C2 _ HB3).mono ?_
        rintro e w4 ⟨rfl, hb4⟩
        have HB4 := btrans HB3 hb4
        go_wp2_with fail
        refine (C3 _ HB4).mono ?_
        rintro e w5 ⟨rfl, hb5⟩
        have HB5 := btrans HB4 hb5
        have SV5 := (SV.below hb4).below hb5
        clear C1 C2 C3 hb hb3 HB3 hb4 HB4 hb5 SV OV
        replace hot := hide hot
        replace hsa := hide hsa
        replace hin := hide hin
        replace hlR := hide hlR
        replace hsq := hide hsq
        go_wp2
        go_loopw [8] (fun i wr => ∃ j : Nat, j ≤ ts.length ∧ i = .int .i64 j ∧ Below w1.heap.size w1 wr ∧ Singles wr vo R) (fun i _ => ts.length - (intOf i).toNat)
        case atStart => exact ⟨0, Nat.zero_le _, rfl, HB5, SV5⟩
        case round =>
          obtain ⟨j, hj, rfl, hbj, SVj⟩ := hrel
          clear HB5 SV5
          by_cases hjl : j < ts.length
          · have T := (hD.below hbj).trains
            have hin1 := hin.out j hjl
            rcases T with h | ⟨nb, off, rfl, hcl⟩
            · simp [h] at hjl
            obtain ⟨q0, q1⟩ := hcl j hjl
            rw [getD_lt hjl] at q0 q1
            have SVk := SVj
            rcases SVj with h | ⟨nb2, off2, rfl, hcl2⟩
            · have := hlR.out; rw [h] at this; simp at this; omega
            obtain ⟨p0, p1⟩ := hcl2 j (by rw [hlR.out]; exact hjl)
            obtain ⟨r1, r2, r3, r4⟩ := hin1
            by_cases hjk : j = k
            · subst hjk
              rw [hsa.out] at p0 p1
              dsimp only at p0 p1
              have hs2 := hsq.out
              generalize nextS ts[j] = x at *
              generalize ts[j].s = s at *
              generalize ts[j].d = d at *
              have hdd : (x - s) * (x - s) = 1 := by rcases hs2 with h | h <;> rw [h] <;> rfl
              clear hcl hcl2 hsa hot hin hsq
              replace hs2 := hide hs2
              have hx0 : -10 ≤ x - s ∧ x - s ≤ 10 := by have := hs2.out; omega
              go_wp2
              go_quiet (fail)
              go_wp2
              go_roundw
              case rel => exact ⟨j + 1, by omega, by go_num, bdraw hbj _, SVk.below (bdraw (Below.refl _ _) _)⟩
              case measure => simp [intOf]; omega
            · have hjk' : ¬ ((j : Int) = (k : Int)) := by omega
              rw [hot.out j hjl hjk] at p0 p1
              generalize ts[j].s = s at *
              generalize ts[j].d = d at *
              clear hcl hcl2 hsa hot hin hsq
              go_wp2
              go_quiet (fail)
              go_wp2
              go_roundw
              case rel => exact ⟨j + 1, by omega, by go_num, bdraw hbj _, SVk.below (bdraw (Below.refl _ _) _)⟩
              case measure => simp [intOf]; omega
          · obtain rfl : j = ts.length := by omega
            clear SVj
            go_wp2
            go_roundw
            case rel => exact ⟨k + 1, by omega, by go_num, hbj⟩
            case measure => simp [intOf]; omega
    · obtain rfl : k = ts.length := by omega
      have HBe := btrans HB hb
      clear CM CI CP
      go_wp2
      go_ret
      exact ⟨rfl, HBe⟩
end Go.Proofs.Ytggdejceobagcaa
