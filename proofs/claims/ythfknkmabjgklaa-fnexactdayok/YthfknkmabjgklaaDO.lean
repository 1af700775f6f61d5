/- DayOk of the program and of the model. -/
import Derived.Test.YthfknkmabjgklaaNU
namespace Go.Proofs.Ythfknkmabjgklaa
open Go.RowKit
def lateB (zs : List Int) : Bool := zs.all fun z => inB z 0 10000
def DayP (n : Int) (es : List EdgeV) (ts : List TripV) (zs : List Int) : Prop := Ridden n es ts ∧ zs.length = ts.length ∧ lateB zs = true
theorem lateB_step {zs : List Int} {k : Nat} (hk : k < zs.length) (h : lateB (zs.take k) = true) : lateB (zs.take (k + 1)) = inB (zs.getD k 0) 0 10000 := by
  unfold lateB at h ⊢
  rw [List.take_succ_eq_append_getElem hk, List.all_append, h]
  simp [List.getD, hk]
theorem lateB_no {zs : List Int} {k : Nat} (hk : k < zs.length) (h : inB (zs.getD k 0) 0 10000 = false) : lateB zs = false := by
  cases hc : lateB zs
  · rfl
  · have := List.all_eq_true.1 hc _ (List.getElem_mem hk)
    simp only [List.getD, List.getElem?_eq_getElem hk, Option.getD_some] at h
    rw [h] at this; cases this
set_option maxHeartbeats 400000 in
theorem cLateOk (x : Int) (w : World) : Calls Try.prog 35 #[.int .i64 x] w fun e w' => e = .returned (.bool (inB x 0 10000)) ∧ w' = w := by
  go_enter Try.func35, Try.ntmps35
  go_wp2_with fail
  refine (cWithin x 0 10000 w).mono ?_
  rintro e w1 ⟨rfl, hw⟩
  subst w1
  go_wp2
  go_ret
  exact ⟨rfl, rfl⟩
set_option maxRecDepth 100000 in
set_option maxHeartbeats 1600000 in
theorem cAllInt (a : Option Addr) (cap : Nat) (zs : List Int) (w : World) (hz : Nums w a zs) (hl : zs.length ≤ 1048576) :
    Calls Try.prog 34 #[.slice a zs.length cap, .func (.func 35) #[] #[]] w fun e w' => e = .returned (.bool (lateB zs)) ∧ w' = w := by
  go_enter Try.func34, Try.ntmps34
  go_wp2
  go_loopw [6, 9] (fun _ i wr => ∃ k : Nat, k ≤ zs.length ∧ i = .int .i64 k ∧ Hid (lateB (zs.take k) = true) ∧ wr = w) (fun _ i _ => zs.length - (intOf i).toNat)
  case atStart => exact ⟨0, Nat.zero_le _, rfl, hide rfl, rfl⟩
  case round =>
    obtain ⟨j, hj, rfl, hall, hw⟩ := hrel
    subst wr
    by_cases hlt : j < zs.length
    · rcases hz with hz | ⟨b, off, rfl, hc⟩
      · simp [hz] at hlt
      have hck := hc j hlt
      have hst := hide (lateB_step hlt hall.out)
      have hno := hide (lateB_no hlt)
      clear hc hall
      generalize zs.getD j 0 = z at *
      have CO := cLateOk z w
      have hk0 : (0 : Int) ≤ (j : Int) := by omega
      have hk1 : (j : Int) < (zs.length : Int) := by omega
      cases hT : inB z 0 10000
      · have E := hide (hno.out hT)
        rw [hT] at CO
        clear hst hno
        go_wp2_with fail
        refine CO.mono ?_
        rintro e w2 ⟨rfl, hw2⟩
        subst w2
        clear CO
        go_wp2
        go_ret
        exact ⟨ret_bool E.out.symm, rfl⟩
      · rw [hT] at CO hst
        clear hno
        go_wp2_with fail
        refine CO.mono ?_
        rintro e w2 ⟨rfl, hw2⟩
        subst w2
        clear CO hck
        go_wp2
        go_roundw
        case rel => exact ⟨j + 1, by omega, by go_num, hst, trivial⟩
        case measure => simp [intOf]; omega
    · obtain rfl : j = zs.length := by omega
      rw [List.take_length] at hall
      clear hz
      go_wp2
      go_ret
      exact ⟨ret_bool hall.out.symm, rfl⟩
set_option maxRecDepth 100000 in
set_option maxHeartbeats 800000 in
theorem cDayI (a : Option Addr) (cap : Nat) (n : Int) (es : List EdgeV) (ta : Option Addr) (tc : Nat) (ts : List TripV) (la : Option Addr) (lc : Nat) (zs : List Int) (w : World) (he : Edges w a es) (hl : es.length ≤ 1048576) (hz : Trips w ta ts) (hS : Small ts) (hn : Nums w la zs) (hnl : zs.length ≤ 1048576) :
    Calls Try.prog 12 #[.agg #[.int .i64 n, .slice a es.length cap], .slice ta ts.length tc, .slice la zs.length lc] w (AnsIff w (DayP n es ts zs)) := by
  have hW := balloc w (.cells #[.int .i64 n, .slice a es.length cap] 32)
  obtain ⟨⟨x0, x1⟩, -⟩ := blk2 (one_block w (.cells #[.int .i64 n, .slice a es.length cap] 32))
  go_enter Try.func12, Try.ntmps12
  go_wp2_with fail
  refine (cRiddenI a cap n es ta tc ts _ (he.below hW) hl (hz.below hW) hS).mono ?_
  rintro e w1 ⟨r, rfl, hr, hb⟩
  have HB := btrans hW hb
  have hn1 := hn.below HB
  clear hW hb x0 x1
  cases r
  · have hno : Hid (¬ DayP n es ts zs) := hide (fun h => by have := hr.2 h.1; cases this)
    clear hr hn hn1 he hz
    go_wp2
    go_ret
    exact AnsIff.no hno.out HB
  have hR := hide (hr.1 rfl)
  by_cases hlen : zs.length = ts.length
  · have CA := cAllInt la lc zs w1 hn1 hnl
    have heq : ((zs.length : Int) == (ts.length : Int)) = true := by simp; omega
    cases hL : lateB zs
    · have hno : Hid (¬ DayP n es ts zs) := hide (fun h => by have h3 := h.2.2; rw [hL] at h3; cases h3)
      rw [hL] at CA
      replace hlen := hide hlen
      clear hr
      go_wp2_with fail
      refine CA.mono ?_
      rintro e w2 ⟨rfl, hw2⟩
      subst w2
      go_wp2
      go_ret
      exact AnsIff.no hno.out HB
    · have hyes : Hid (DayP n es ts zs) := hide ⟨hR.out, hlen, hL⟩
      rw [hL] at CA
      replace hlen := hide hlen
      clear hr
      go_wp2_with fail
      refine CA.mono ?_
      rintro e w2 ⟨rfl, hw2⟩
      subst w2
      go_wp2
      go_ret
      exact AnsIff.yes hyes.out HB
  · have heq : ((zs.length : Int) == (ts.length : Int)) = false := by simp; omega
    have hno : Hid (¬ DayP n es ts zs) := hide (fun h => hlen h.2.1)
    replace hlen := hide hlen
    clear hr
    go_wp2
    go_ret
    exact AnsIff.no hno.out HB
set_option maxRecDepth 100000 in
set_option maxHeartbeats 1600000 in
theorem cDayS (a : Option Addr) (cap : Nat) (n : Int) (es : List EdgeV) (ta : Option Addr) (tc : Nat) (ts : List TripV) (la : Option Addr) (lc : Nat) (zs : List Int) (w : World) (he : Edges w a es) (hl : es.length ≤ 1048576) (hz : Trips w ta ts) (hS : Small ts) (hn : Nums w la zs) (hnl : zs.length ≤ 1048576) :
    Calls Try.prog 8 #[.agg #[.int .i64 n, .slice a es.length cap], .slice ta ts.length tc, .slice la zs.length lc] w (AnsIff w (DayP n es ts zs)) := by
  have hW := balloc w (.cells #[.int .i64 n, .slice a es.length cap] 32)
  obtain ⟨⟨x0, x1⟩, -⟩ := blk2 (one_block w (.cells #[.int .i64 n, .slice a es.length cap] 32))
  go_enter Try.func8, Try.ntmps8
  go_wp2_with fail
  refine (cRiddenS a cap n es ta tc ts _ (he.below hW) hl (hz.below hW) hS).mono ?_
  rintro e w1 ⟨r, rfl, hr, hb⟩
  have HB := btrans hW hb
  have hn1 := hn.below HB
  clear hW hb x0 x1
  cases r
  · have hno : Hid (¬ DayP n es ts zs) := hide (fun h => by have := hr.2 h.1; cases this)
    clear hr hn hn1 he hz
    go_wp2
    go_ret
    exact AnsIff.no hno.out HB
  have hR := hide (hr.1 rfl)
  by_cases hlen : zs.length = ts.length
  · have heq : ((zs.length : Int) != (ts.length : Int)) = false := by simp [bne]; omega
    have hD1 : Hid (lateB zs = true → DayP n es ts zs) := hide (fun h => ⟨hR.out, hlen, h⟩)
    have hD2 : Hid (lateB zs = false → ¬ DayP n es ts zs) := hide (fun h h2 => by have h3 := h2.2.2; rw [h] at h3; cases h3)
    replace hlen := hide hlen
    clear hr
    go_wp2
    go_loopw [7] (fun i wr => ∃ k : Nat, k ≤ zs.length ∧ i = .int .i64 k ∧ Hid (lateB (zs.take k) = true) ∧ wr = w1) (fun i _ => zs.length - (intOf i).toNat)
    case atStart => exact ⟨0, Nat.zero_le _, rfl, hide rfl, rfl⟩
    case round =>
      obtain ⟨j, hj, rfl, hall, hw⟩ := hrel
      subst wr
      by_cases hlt : j < zs.length
      · rcases hn1 with hn1 | ⟨b, off, rfl, hc⟩
        · simp [hn1] at hlt
        have hck := hc j hlt
        have hst := hide (lateB_step hlt hall.out)
        have hno := hide (lateB_no hlt)
        clear hc hall
        generalize zs.getD j 0 = z at *
        have CO := cIn z 0 10000 w1
        have hk0 : (0 : Int) ≤ (j : Int) := by omega
        have hk1 : (j : Int) < (zs.length : Int) := by omega
        cases hT : inB z 0 10000
        · have E := hide (hD2.out (hno.out hT))
          rw [hT] at CO
          clear hst hno
          go_wp2_with fail
          refine CO.mono ?_
          rintro e w2 ⟨rfl, hw2⟩
          subst w2
          clear CO
          go_wp2
          go_ret
          exact AnsIff.no E.out HB
        · rw [hT] at CO hst
          clear hno
          go_wp2_with fail
          refine CO.mono ?_
          rintro e w2 ⟨rfl, hw2⟩
          subst w2
          clear CO hck
          go_wp2
          go_roundw
          case rel => exact ⟨j + 1, by omega, by go_num, hst, trivial⟩
          case measure => simp [intOf]; omega
      · obtain rfl : j = zs.length := by omega
        rw [List.take_length] at hall
        have E := hide (hD1.out hall.out)
        clear hn1
        go_wp2
        go_ret
        exact AnsIff.yes E.out HB
  · have heq : ((zs.length : Int) != (ts.length : Int)) = true := by simp [bne]; omega
    have hno : Hid (¬ DayP n es ts zs) := hide (fun h => hlen h.2.1)
    replace hlen := hide hlen
    clear hr
    go_wp2
    go_ret
    exact AnsIff.no hno.out HB
end Go.Proofs.Ythfknkmabjgklaa
