/- Apart of the program. -/
import Derived.Test.YthfknkmabjgklaaAP
namespace Go.Proofs.Ythfknkmabjgklaa
open Go.RowKit
theorem Runs.upto {w : World} {a : Option Addr} {rs : List RunV} (h : Runs w a rs) (k : Nat) : Runs w a (rs.take k) := by
  rcases h with h | ⟨b, off, rfl, hc⟩
  · exact .inl (by simp [h])
  · refine .inr ⟨b, off, rfl, fun i hi => ?_⟩
    rw [List.length_take] at hi
    have e : (rs.take k).getD i RunV.zero = rs.getD i RunV.zero := by
      have : i < k := by omega
      simp [List.getD, this]
    rw [e]
    exact hc i (by omega)
def meetR (lg : Nat → List RideV) (r o : RunV) : Bool := meetB lg r.t.toNat r.l.toNat o.t.toNat o.l.toNat r.f r.o o.f o.o
def apartTo (lg : Nat → List RideV) (rs : List RunV) (k : Nat) : Bool := (List.range k).all fun i => (rs.take i).all fun o => !(meetR lg (rs.getD i RunV.zero) o)
theorem apartTo_succ (lg : Nat → List RideV) (rs : List RunV) (k : Nat) : apartTo lg rs (k + 1) = (apartTo lg rs k && (rs.take k).all fun o => !(meetR lg (rs.getD k RunV.zero) o)) := by
  simp [apartTo, List.range_succ]
theorem apartTo_no {lg : Nat → List RideV} {rs : List RunV} {k : Nat} (hk : k < rs.length) (h : ((rs.take k).all fun o => !(meetR lg (rs.getD k RunV.zero) o)) = false) : apartTo lg rs rs.length = false := by
  cases hc : apartTo lg rs rs.length
  · rfl
  · have := List.all_eq_true.1 hc k (List.mem_range.2 hk)
    rw [h] at this; cases this
theorem runB_parts {N : Nat} {lg : Nat → List RideV} {r : RunV} (h : runB N lg r = true) : r.t = ((r.t.toNat : Nat) : Int) ∧ r.t.toNat < N ∧ r.l = ((r.l.toNat : Nat) : Int) ∧ r.l.toNat < (lg r.t.toNat).length ∧ r.f < r.o := by
  unfold runB at h
  simp only [Bool.and_eq_true, decide_eq_true_eq] at h
  obtain ⟨h1, h2, h3⟩ := h
  have := inB_true h1
  have := inB_true h2
  omega
/-- Runs that are apart. -/
def ApartP (n : Int) (es : List EdgeV) (ts : List TripV) (rs : List RunV) : Prop := Ridden n es ts ∧ rs.length ≤ 300 ∧ rs.all (runB ts.length (legsV es ts)) = true ∧ apartTo (legsV es ts) rs rs.length = true
theorem legV_legs {w : World} {g N : Nat} {es : List EdgeV} {ts : List TripV} (h : LegV w g N (rowU (usesL es ts))) (hN : N = ts.length) : LegV w g N (legsV es ts) := fun i hi => by
  have e : rowU (usesL es ts) i = legsV es ts i := by
    have := rowU_uses es ts i ts.length
    rw [if_pos (by omega)] at this
    exact this
  have := h i hi
  rw [e] at this
  exact this
theorem legs_small {es : List EdgeV} {ts : List TripV} (hS : Small ts) (i : Nat) : (legsV es ts i).length ≤ 1048576 := by
  unfold legsV
  rw [legsTo_len]
  unfold clA
  by_cases hi : i < ts.length
  · have := (hS.2 _ (List.getElem_mem hi))
    rw [show ts.getD i TripV.zero = ts[i] by simp [List.getD, hi]]
    omega
  · rw [show ts.getD i TripV.zero = TripV.zero by simp [List.getD, hi]]
    simp [TripV.zero]
set_option maxRecDepth 100000 in
set_option maxHeartbeats 6400000 in
theorem cApartI (a : Option Addr) (cap : Nat) (n : Int) (es : List EdgeV) (ta : Option Addr) (tc : Nat) (ts : List TripV) (ra : Option Addr) (rc : Nat) (rs : List RunV) (w : World) (he : Edges w a es) (hl : es.length ≤ 1048576) (hz : Trips w ta ts) (hS : Small ts) (hr : Runs w ra rs) (hrl : rs.length ≤ 1048576) (hrc : rs.length ≤ rc) :
    Calls Try.prog 26 #[.agg #[.int .i64 n, .slice a es.length cap], .slice ta ts.length tc, .slice ra rs.length rc] w (AnsIff w (ApartP n es ts rs)) := by
  have hW := balloc w (.cells #[.int .i64 n, .slice a es.length cap] 32)
  have X0 := one_block w (.cells #[.int .i64 n, .slice a es.length cap] 32)
  obtain ⟨⟨x0, x1⟩, -⟩ := blk2 X0
  go_enter Try.func26, Try.ntmps26
  go_wp2_with fail
  refine (cRiddenI a cap n es ta tc ts _ (he.below hW) hl (hz.below hW) hS).mono ?_
  rintro e w1 ⟨r, rfl, hrr, hb⟩
  have HB := btrans hW hb
  replace X0 := blk_keep hb X0
  clear hW hb x0 x1
  cases r
  · have hno : Hid (¬ ApartP n es ts rs) := hide (fun h => by have := hrr.2 h.1; cases this)
    clear hrr he hz hr
    go_wp2
    go_ret
    exact AnsIff.no hno.out HB
  have hR := hrr.1 rfl
  clear hrr
  by_cases h3 : 300 < rs.length
  · have h3i : (300 : Int) < (rs.length : Int) := by omega
    have hno : Hid (¬ ApartP n es ts rs) := hide (fun h => by have := h.2.1; omega)
    replace hR := hide hR
    clear he hz hr
    go_wp2
    go_ret
    exact AnsIff.no hno.out HB
  have h3i : ¬ ((300 : Int) < (rs.length : Int)) := by omega
  obtain ⟨⟨x0, x1⟩, -⟩ := blk2 X0
  have CL := cLegs a cap n es ta tc ts w1 (he.below HB) hl (hz.below HB) hS hR
  replace hR := hide hR
  have hNl := hS.1
  have hlg := legs_small (es := es) hS
  go_wp2_with fail
  refine CL.mono ?_
  rintro e w2 ⟨g, vs, rfl, hL, hb⟩
  have hV := legV_legs hL.view rfl
  replace HB := btrans HB hb
  obtain ⟨N, hN⟩ : ∃ N, ts.length = N := ⟨_, rfl⟩
  have hD : Hid (ApartP n es ts rs ↔ (rs.all (runB N (legsV es ts)) = true ∧ apartTo (legsV es ts) rs rs.length = true)) := hide (by
    unfold ApartP
    rw [hN]
    exact ⟨fun h => h.2.2, fun h => ⟨hR.out, by omega, h⟩⟩)
  rw [hN] at hV hNl ⊢
  replace hN := hide hN
  obtain ⟨lg, hlgd⟩ : ∃ lg, lg = legsV es ts := ⟨_, rfl⟩
  rw [← hlgd] at hV hlg hD
  have hr2 := hr.below HB
  have L0 := one_block w2 (.cells #[.slice (some ⟨g, 0, none⟩) N N] 74)
  have hb2 := balloc w2 (.cells #[.slice (some ⟨g, 0, none⟩) N N] 74)
  have lx := Go.Joins.cell_of_block L0 0
  replace HB := btrans HB hb2
  replace hr2 := hr2.below hb2
  replace hV := hV.below hb2
  have C1 := cAll1 w2.heap.size (runB N lg) ra rc rs _ hr2 hrl (fun W r hm hW => cApart1 w2.heap.size g N lg r W (ble hW lx) (hV.below hW) hNl hlg)
  clear CL hb hL hb2 X0 x0 x1 he hz hlgd L0
  go_wp2_with fail
  refine C1.mono ?_
  rintro e w3 ⟨rfl, hb3⟩
  replace HB := btrans HB hb3
  replace hr2 := hr2.below hb3
  replace hV := hV.below hb3
  replace lx := ble hb3 lx
  clear hb3 C1
  generalize w2.heap.size = lb at *
  cases hA : rs.all (runB N lg)
  · have hno : Hid (¬ ApartP n es ts rs) := hide (fun h => by have := (hD.out.1 h).1; rw [hA] at this; cases this)
    clear hr hr2 hV hlg
    go_wp2
    go_ret
    exact AnsIff.no hno.out HB
  have hall := hide (List.all_eq_true.1 hA)
  have hY : Hid (apartTo lg rs rs.length = true → ApartP n es ts rs) := hide (fun h => hD.out.2 ⟨hA, h⟩)
  have hZ : Hid (apartTo lg rs rs.length = false → ¬ ApartP n es ts rs) := hide (fun h h2 => by have := (hD.out.1 h2).2; rw [h] at this; cases this)
  clear hD hA hr
  replace hlg := hide hlg
  go_wp2
  go_loopw [8, 9, 28] (fun _ _ ix wr => ∃ k : Nat, k ≤ rs.length ∧ ix = .int .i64 k ∧ Hid (apartTo lg rs k = true) ∧ Below w3.heap.size w3 wr) (fun _ _ ix _ => rs.length - (intOf ix).toNat)
  case atStart => exact ⟨0, Nat.zero_le _, rfl, hide rfl, Below.refl _ _⟩
  case round =>
    obtain ⟨k, hk, rfl, hap, hb⟩ := hrel
    by_cases hlt : k < rs.length
    · have hRb := hr2.below hb
      have hRk := hRb.upto k
      have hlen : (rs.take k).length = k := by simp; omega
      have hge : rs.getD k RunV.zero = rs[k] := by simp [List.getD, hlt]
      have hst := hide (apartTo_succ lg rs k)
      have hno := hide (apartTo_no (lg := lg) hlt)
      have hrk : runB N lg (rs.getD k RunV.zero) = true := by rw [hge]; exact hall.out _ (List.getElem_mem hlt)
      rcases hRb with hRb | ⟨b, off, rfl, hc⟩
      · simp [hRb] at hlt
      obtain ⟨c0, c1, c2, c3⟩ := hc k hlt
      obtain ⟨R, hRd⟩ : ∃ R, R = rs.getD k RunV.zero := ⟨_, rfl⟩
      rw [← hRd] at c0 c1 c2 c3 hrk hst hno
      obtain ⟨p1, p2, p3, p4, -⟩ := runB_parts hrk
      obtain ⟨rt, rl, rf, ro⟩ := R
      dsimp only at c0 c1 c2 c3 p1 p2 p3 p4
      have hb2 := balloc wr (.cells #[.int .i64 rt, .int .i64 rl, .int .i64 rf, .int .i64 ro] 72)
      have HB2 := btrans hb hb2
      obtain ⟨⟨x0, x1, x2, x3⟩, -⟩ := blk4 (one_block wr (.cells #[.int .i64 rt, .int .i64 rl, .int .i64 rf, .int .i64 ro] 72))
      have lx2 := ble HB2 lx
      have hV2 := hV.below HB2
      have C2 := cAll2 lb wr.heap.size (fun o => !(meetR lg ⟨rt, rl, rf, ro⟩ o)) (some ⟨b, off, none⟩) rc (rs.take k) _ (hRk.below hb2) (by rw [hlen]; omega) (fun W o hm hW => by
        obtain ⟨o1, o2, o3, o4, -⟩ := runB_parts (hall.out o (List.mem_of_mem_take hm))
        have h1 := cApart2 lb wr.heap.size g N lg rt.toNat rl.toNat o.t.toNat o.l.toNat rf ro o.f o.o W (ble hW lx2) (hV2.below hW) (by rw [← p1]; exact ble hW x0) (by rw [← p3]; exact ble hW x1) (ble hW x2) (ble hW x3) p2 p4 o2 o4 hlg.out
        rw [← o1, ← o3] at h1
        exact h1)
      rw [hlen] at C2
      have i1 : (0 : Int) ≤ (k : Int) := by omega
      have i2 : (k : Int) < (rs.length : Int) := by omega
      have i3 : (k : Int) ≤ (rc : Int) := by omega
      have i4 : k ≤ rc := by omega
      clear hc hRk hge hRd hrk p1 p2 p3 p4 hb2 hb lx2 hV2 hlen
      cases hT : (rs.take k).all (fun o => !(meetR lg ⟨rt, rl, rf, ro⟩ o))
      · have E := hide (hZ.out (hno.out hT))
        rw [hT] at C2
        clear hst hno
        go_wp2_with fail
        refine C2.mono ?_
        rintro e w4 ⟨rfl, hb4⟩
        have HB4 := btrans HB (btrans HB2 hb4)
        clear C2
        go_wp2
        go_ret
        exact AnsIff.no E.out HB4
      · have hst2 : Hid (apartTo lg rs (k + 1) = true) := hide (by rw [hst.out, hap.out, hT]; rfl)
        rw [hT] at C2
        clear hst hno hap
        go_wp2_with fail
        refine C2.mono ?_
        rintro e w4 ⟨rfl, hb4⟩
        have HB4 := btrans HB2 hb4
        clear C2 HB2 hb4 x0 x1 x2 x3 c0 c1 c2 c3
        go_wp2
        go_roundw
        case rel => exact ⟨k + 1, by omega, by go_num, hst2, HB4⟩
        case measure => simp [intOf]; omega
    · obtain rfl : k = rs.length := by omega
      have E := hide (hY.out hap.out)
      have HB4 := btrans HB hb
      clear hr2 hap
      go_wp2
      go_ret
      exact AnsIff.yes E.out HB4
end Go.Proofs.Ythfknkmabjgklaa
