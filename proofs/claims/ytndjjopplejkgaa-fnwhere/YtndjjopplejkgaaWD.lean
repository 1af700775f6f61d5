/- The walk of FnWhere. -/
import Derived.Test.YtndjjopplejkgaaDW
import Derived.Deep.RegionHeld3
namespace Go.Proofs.Ytndjjopplejkgaa
open Go.RowKit

set_option maxRecDepth 100000 in
set_option maxHeartbeats 6400000 in
theorem walkWhereD (a : Option Addr) (cap : Nat) (zs : List Int) (w : World) (hz : Bytes w a zs) (hm : zs.length ≤ maxLen) :
    Calls Try.prog 3 #[.slice a zs.length cap] w fun e w' => e = .returned (.bool true) ∧ Below w.heap.size w w' := by
  by_cases hbig : 1048576 < zs.length
  · have hd : decide (1048576 < zs.length) = true := by simp [hbig]
    go_enter Try.func3, Try.ntmps3
    go_wp2_with fail
    refine (cbig a cap zs.length _ hm).mono ?_
    rintro e w1 ⟨rfl, hw⟩
    subst w1
    rw [hd]
    go_wp2
    go_ret
    exact ⟨rfl, Below.refl _ _⟩
  have hd : decide (1048576 < zs.length) = false := by simp; omega
  have hl : zs.length ≤ 1048576 := by omega
  go_enter Try.func3, Try.ntmps3
  go_wp2_with fail
  refine (cbig a cap zs.length _ hm).mono ?_
  rintro e w1 ⟨rfl, hw⟩
  subst w1
  rw [hd]
  clear hd hbig hm
  go_wp2_with fail
  refine (cRightTrip a cap zs _ hz hl).mono ?_
  rintro e w1 ⟨s, cs, ao, cp, rfl, hT, ho, HB⟩
  have T0 := one_block w1 (.cells #[.string s, .slice ao cs.length cp] 26)
  have hb := balloc w1 (.cells #[.string s, .slice ao cs.length cp] 26)
  replace HB := btrans HB hb
  have hH := (Halts.own ho).below hb
  have hcp := own_cap ho
  clear hb ho
  obtain ⟨-, l1, l2, hall, -⟩ := trip_parts hT
  dsimp only at l1 l2 hall
  obtain ⟨L, hL⟩ : ∃ L, L + 1 = cs.length := ⟨cs.length - 1, by omega⟩
  have hIn : ∀ m : Int, (cAt cs 0).a ≤ m → m ≤ (cAt cs L).d → Spot cs m (whereB ⟨s, cs⟩ m) := fun m h0 h1 => where_in hT h0 (by rw [show cs.length - 1 = L by omega]; exact h1)
  have hAh : whereB ⟨s, cs⟩ ((cAt cs 0).a - 1) = (-1, 0) := where_ahead hT (by omega)
  have hPa : whereB ⟨s, cs⟩ ((cAt cs L).d + 1) = (-1, 1) := where_past hT (by rw [show cs.length - 1 = L by omega]; omega)
  obtain ⟨-, ⟨p0, p1⟩, p2⟩ := call_parts (call_at hall (k := 0) (by omega))
  obtain ⟨-, ⟨r0, r1⟩, r2⟩ := call_parts (call_at hall (k := L) (by omega))
  have hle : (cAt cs 0).a ≤ (cAt cs L).d + 1 := by
    have := dep_up hall (trip_parts hT).2.2.2.2 L 0 (by omega)
    rw [Nat.zero_add] at this
    unfold cAt at *; omega
  have CW := fun (m : Int) (W : World) (hh : Halts W ao cs) => cWhereI s ao cp cs m W hh (by omega) hcp
  have hl12 : cs.length ≤ 12 := l2
  rcases hH with h | ⟨b, off, rfl, hc⟩
  · simp [h] at l1
  have hbl := cell_lt (hc 0 (by omega)).1
  have hHal : ∀ W, Below (w1.alloc (.cells #[.string s, .slice (some ⟨b, off, none⟩) cs.length cp] 26)).heap.size (w1.alloc (.cells #[.string s, .slice (some ⟨b, off, none⟩) cs.length cp] 26)) W → Halts W (some ⟨b, off, none⟩) cs := fun W hb => .inr ⟨b, off, rfl, fun i hi => by
    obtain ⟨c0, c1, c2⟩ := hc i hi
    exact ⟨ble hb c0, ble hb c1, ble hb c2⟩⟩
  have hC := hide hc
  have hHl := hide hHal
  have hI := hide hIn
  have hA := hide hAh
  have hP := hide hPa
  have c01 := (hc 0 (by omega)).2.1
  have cL2 := (hc L (by omega)).2.2
  rw [Nat.zero_mul, Nat.add_zero] at c01
  clear hc hHal hIn hAh hPa hT hall
  have hw1 : IntKind.i64.wrap ((cs.length : Int) - 1) = (L : Int) := by rw [wrap_in _ (by omega) (by omega)]; omega
  have hLl : L < cs.length := by omega
  have hLl' : (L : Int) < (cs.length : Int) := by omega
  have h0l : 0 < cs.length := by omega
  have h0l' : (0 : Int) < (cs.length : Int) := by omega
  replace hL := hide hL
  generalize hA0 : (cAt cs 0).a = A at *
  generalize hD0 : (cAt cs L).d = D at *
  replace hA0 := hide hA0
  replace hD0 := hide hD0
  obtain ⟨⟨t0, t1⟩, -⟩ := blk2 T0
  go_wp2_with fail
  generalize (w1.alloc (.cells #[.string s, .slice (some ⟨b, off, none⟩) cs.length cp] 26)) = w2 at *
  go_loopw [5, 6, 7] (fun vm _ _ wr => ∃ m : Int, A ≤ m ∧ m ≤ D + 1 ∧ vm = .int .i64 m ∧ Below w2.heap.size w2 wr) (fun vm _ _ _ => (D + 1 - intOf vm).toNat)
  case atStart => exact ⟨A, Int.le_refl _, hle, rfl, Below.refl _ _⟩
  case round =>
    clear t0 t1
    obtain ⟨m, hm0, hm1, rfl, hb⟩ := hrel
    have T1 := blk_keep hb T0
    obtain ⟨⟨t0, t1⟩, -⟩ := blk2 T1
    have cL3 := ble hb cL2
    have c03 := ble hb c01
    by_cases hmD : m ≤ D
    · obtain ⟨i, hi, hr1, hr2⟩ := hI.out m hm0 hmD
      have CW1 := CW m wr (hHl.out wr hb)
      rw [hr1] at CW1
      have hwm : IntKind.i64.wrap (m + 1) = m + 1 := wrap_in _ (by omega) (by omega)
      have hi0 : ¬ ((i : Int) < 0) := by omega
      have hi1 : ¬ ((L : Int) < (i : Int)) := by have := hL.out; omega
      have hii : (0 : Int) ≤ (i : Int) := Int.natCast_nonneg _
      have hi' : (i : Int) < (cs.length : Int) := by omega
      rcases hr2 with ⟨hr2, g1, g2⟩ | ⟨hr2, gi, g1, g2⟩
      · rw [hr2] at CW1
        obtain ⟨-, q1, q2⟩ := hC.out i hi
        replace q1 := ble hb q1
        replace q2 := ble hb q2
        change wr.cell? ⟨b, off + i * 3 + 1, none⟩ = some (.int .i64 (cAt cs i).a) at q1
        change wr.cell? ⟨b, off + i * 3 + 2, none⟩ = some (.int .i64 (cAt cs i).d) at q2
        generalize (cAt cs i).a = ai at *
        generalize (cAt cs i).d = di at *
        have g1' : ¬ (m < ai) := by omega
        have g2' : ¬ (di < m) := by omega
        go_wp2_with fail
        refine CW1.mono ?_
        rintro e w3 ⟨rfl, hb3⟩
        replace q1 := ble hb3 q1
        replace q2 := ble hb3 q2
        obtain ⟨⟨t2, t3⟩, -⟩ := blk2 (blk_keep hb3 T1)
        have hb4 := btrans hb hb3
        clear CW1 hb3 t0 t1 hr1 hr2 cL3 c03 T1
        go_wp2
        go_roundw
        case rel => exact ⟨m + 1, by omega, by omega, by go_num, hb4⟩
        case measure => simp [intOf]; omega
      · rw [hr2] at CW1
        obtain ⟨-, -, q2⟩ := hC.out i hi
        obtain ⟨-, q1, -⟩ := hC.out (i + 1) gi
        replace q1 := ble hb q1
        replace q2 := ble hb q2
        change wr.cell? ⟨b, off + (i + 1) * 3 + 1, none⟩ = some (.int .i64 (cAt cs (i + 1)).a) at q1
        change wr.cell? ⟨b, off + i * 3 + 2, none⟩ = some (.int .i64 (cAt cs i).d) at q2
        generalize (cAt cs (i + 1)).a = ai at *
        generalize (cAt cs i).d = di at *
        have g1' : ¬ (m ≤ di) := by omega
        have g2' : ¬ (ai ≤ m) := by omega
        have hiL : ¬ ((i : Int) = (L : Int)) := by have := hL.out; omega
        have hiL2 : ((i : Int) == (L : Int)) = false := beq_eq_false_iff_ne.2 hiL
        have hwi : IntKind.i64.wrap ((i : Int) + 1) = (i : Int) + 1 := wrap_in _ (by omega) (by omega)
        have hi2 : (i : Int) + 1 < (cs.length : Int) := by omega
        have hi3 : (0 : Int) ≤ (i : Int) + 1 := by omega
        have hi4 : ((i : Int) + 1).toNat = i + 1 := by omega
        go_wp2_with fail
        refine CW1.mono ?_
        rintro e w3 ⟨rfl, hb3⟩
        replace q1 := ble hb3 q1
        replace q2 := ble hb3 q2
        obtain ⟨⟨t2, t3⟩, -⟩ := blk2 (blk_keep hb3 T1)
        have hb4 := btrans hb hb3
        clear CW1 hb3 t0 t1 hr1 hr2 cL3 c03 T1
        go_wp2
        go_roundw
        case rel => exact ⟨m + 1, by omega, by omega, by go_num, hb4⟩
        case measure => simp [intOf]; omega
    · obtain rfl : m = D + 1 := by omega
      have hmD' : ¬ (D + 1 ≤ D) := by omega
      have CA := fun (W : World) (hh : Halts W (some ⟨b, off, none⟩) cs) => CW (A - 1) W hh
      have CP := fun (W : World) (hh : Halts W (some ⟨b, off, none⟩) cs) => CW (D + 1) W hh
      rw [hA.out] at CA
      rw [hP.out] at CP
      dsimp only at CA CP
      have hwA : IntKind.i64.wrap (A - 1) = A - 1 := wrap_in _ (by omega) (by omega)
      have hwD : IntKind.i64.wrap (D + 1) = D + 1 := wrap_in _ (by omega) (by omega)
      go_wp2_with fail
      go_region_held3 (fun w' => w'.cell? ⟨w1.heap.size, 0, none⟩ = some (.string s) ∧ w'.cell? ⟨w1.heap.size, 1, none⟩ = some (.slice (some ⟨b, off, none⟩) cs.length cp) ∧ w'.cell? ⟨b, off + 1, none⟩ = some (.int .i64 A) ∧ w'.cell? ⟨b, off + L * 3 + 2, none⟩ = some (.int .i64 D)) (go_keep) (first
        | (go_at_call 13; refine (CA _ (hHl.out _ (btrans hb (bdraw (Below.refl _ _) 1)))).mono ?_; rintro e wp ⟨rfl, hbp⟩; have Bp := btrans hb (undrew hbp); obtain ⟨⟨v0, v1⟩, -⟩ := blk2 (blk_keep Bp T0); have v2 := ble Bp c01; have v3 := ble Bp cL2))
      clear t0 t1 cL3 c03 T1 hbp
      go_wp2_with fail
      go_region_held3 (fun w' => w'.cell? ⟨w1.heap.size, 0, none⟩ = some (.string s) ∧ w'.cell? ⟨w1.heap.size, 1, none⟩ = some (.slice (some ⟨b, off, none⟩) cs.length cp) ∧ w'.cell? ⟨b, off + 1, none⟩ = some (.int .i64 A) ∧ w'.cell? ⟨b, off + L * 3 + 2, none⟩ = some (.int .i64 D)) (go_keep) (first
        | (go_at_call 13; refine (CP _ (hHl.out _ (btrans Bp (bdraw (Below.refl _ _) 1)))).mono ?_; rintro e wq ⟨rfl, hbq⟩; have Bq := btrans Bp (undrew hbq); obtain ⟨⟨y0, y1⟩, -⟩ := blk2 (blk_keep Bq T0); have y2 := ble Bq c01; have y3 := ble Bq cL2))
      clear v0 v1 v2 v3 hbq Bp
      go_wp2
      go_ret
      exact ⟨rfl, btrans HB Bq⟩
end Go.Proofs.Ytndjjopplejkgaa
