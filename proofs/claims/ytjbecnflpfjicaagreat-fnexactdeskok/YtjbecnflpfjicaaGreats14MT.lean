/- The model: TrainOk. -/
import Derived.Test.YtjbecnflpfjicaaGreats14Z
import Derived.Deep.RegionHeld3
import Derived.Deep.AppendLies
namespace Go.Proofs.YtjbecnflpfjicaaGreat.s14
open Go.RowKit Go.Lib
theorem blk3 {w : World} {g : Nat} {c0 c1 c2 : Value} {t : TypeId} (h : w.heap[g]? = some (.cells #[c0, c1, c2] t (0, 0))) :
    (w.cell? ⟨g, 0, none⟩ = some c0 ∧ w.cell? ⟨g, 1, none⟩ = some c1 ∧ w.cell? ⟨g, 2, none⟩ = some c2) ∧ (w.frozen? ⟨g, 0, none⟩ = false ∧ w.frozen? ⟨g, 1, none⟩ = false ∧ w.frozen? ⟨g, 2, none⟩ = false) :=
  ⟨⟨Go.Joins.cell_of_block h 0, Go.Joins.cell_of_block h 1, Go.Joins.cell_of_block h 2⟩, ⟨Go.Joins.unfrozen_of_block h 0, Go.Joins.unfrozen_of_block h 1, Go.Joins.unfrozen_of_block h 2⟩⟩

theorem bk3 {S P : Int} {x : BkV} : bkB S P x = (decide (0 < x.i) && inB x.s 0 (S - 1) && inB x.f 1 P && inB x.n 0 (x.f - 1)) := by
  rw [Bool.eq_iff_iff]
  simp only [bkB, inB, Bool.and_eq_true, decide_eq_true_eq]
  constructor
  · rintro ⟨h1, h2, h3, h4, h5, h6⟩; exact ⟨⟨⟨h1, h2, h3⟩, by omega, h6⟩, h4, by omega⟩
  · rintro ⟨⟨⟨h1, h2, h3⟩, h4, h6⟩, h5, h7⟩; exact ⟨h1, h2, h3, h5, by omega, h6⟩
theorem next_bad {S P : Int} {l : List BkV} {x : BkV} (h : bkB S P x = false ∨ ¬ lastI l < x.i) : nextB S P l x = false := by
  rcases h with h | h
  · simp [nextB, h]
  · simp [nextB, h]
theorem lastI_take {hs : List BkV} {k : Nat} (hk : k < hs.length) : lastI (hs.take (k + 1)) = (hs.getD k BkV.zero).i := by
  rw [List.take_succ_eq_append_getElem hk, lastI_app]; simp [List.getD, hk]
/-- Two bookings of one seat that share a piece. -/
def ovr (o b : BkV) : Prop := o.s = b.s ∧ o.n < b.f ∧ b.n < o.f
theorem mem_take {hs : List BkV} {k : Nat} {x : BkV} (hk : k ≤ hs.length) : x ∈ hs.take k ↔ ∃ j, j < k ∧ x = hs.getD j BkV.zero := by
  constructor
  · intro h
    obtain ⟨j, hj, rfl⟩ := List.getElem_of_mem h
    rw [List.length_take] at hj
    exact ⟨j, by omega, by simp [List.getD, show j < hs.length by omega]⟩
  · rintro ⟨j, hj, rfl⟩
    have : j < (hs.take k).length := by rw [List.length_take]; omega
    have e : (hs.take k)[j] = hs.getD j BkV.zero := by simp [List.getD, show j < hs.length by omega]
    rw [← e]; exact List.getElem_mem this
theorem next_iff {S P : Int} {hs : List BkV} {k : Nat} {x : BkV} (hk : k ≤ hs.length) (hU : upTo S P hs k) (hb : bkB S P x = true) (hl : lastI (hs.take k) < x.i) : nextB S P (hs.take k) x = true ↔ ∀ j, j < k → ¬ ovr (hs.getD j BkV.zero) x := by
  simp only [nextB, hb, decide_eq_true hl, Bool.true_and]
  rw [over_iff (hU.rt hk).ok (bkB_iff.1 hb).2.2.2.2.1]
  constructor
  · intro h j hj; exact h _ ((mem_take hk).2 ⟨j, hj, rfl⟩)
  · intro h x hx
    obtain ⟨j, hj, rfl⟩ := (mem_take hk).1 hx
    exact h j hj

set_option maxRecDepth 20000 in
set_option maxHeartbeats 12800000 in
theorem cTrainS (S P : Int) (a : Option Addr) (c : Nat) (hs : List BkV) (w : World) (hz : Bks w a hs) (hl : hs.length ≤ 1048576) :
    Calls Tryz.prog 15 #[.agg #[.int .i64 S, .int .i64 P, .slice a hs.length c]] w fun e w' => e = .returned (.bool (trainB S P hs)) ∧ Below w.heap.size w w' := by
  have hW := balloc w (.cells #[.int .i64 S, .int .i64 P, .slice a hs.length c] 43)
  have kt : (w.alloc (.cells #[.int .i64 S, .int .i64 P, .slice a hs.length c] 43)).heap[w.heap.size]? = some (.cells #[.int .i64 S, .int .i64 P, .slice a hs.length c] 43 (0, 0)) := heap_alloc_new w _
  have E : Hid (trainB S P hs = (inB S 1 60 && inB P 1 11 && decide (hs.length ≤ 200) && rtB S P hs)) := rfl
  have C1 := fun V => cIn S 1 60 V
  have C2 := fun V => cIn P 1 11 V
  generalize trainB S P hs = R at *
  go_enter Tryz.func15, Tryz.ntmps15
  go_wp2_with fail
  generalize w.alloc (.cells #[.int .i64 S, .int .i64 P, .slice a hs.length c] 43) = W at *
  obtain ⟨⟨t0, t1, t2⟩, -⟩ := blk3 kt
  refine (C1 _).mono ?_
  rintro e w1 ⟨rfl, rfl⟩
  cases hin : inB S 1 60
  · rw [hin] at E
    have hR : R = false := E.out
    subst hR
    clear C1 C2 hz
    go_wp2
    go_ret
    exact ⟨rfl, hW⟩
  go_wp2_with fail
  refine (C2 _).mono ?_
  rintro e w1 ⟨rfl, rfl⟩
  cases hip : inB P 1 11
  · rw [hin, hip] at E
    have hR : R = false := E.out
    subst hR
    clear C1 C2 hz
    go_wp2
    go_ret
    exact ⟨rfl, hW⟩
  by_cases hlen : hs.length ≤ 200
  rotate_left
  · have hR : R = false := by rw [E.out, decide_eq_false hlen]; simp
    have hlen' : (200 : Int) < (hs.length : Int) := by omega
    subst hR
    clear C1 C2 hz
    go_wp2
    go_ret
    exact ⟨rfl, hW⟩
  have hR : Hid (R = rtB S P hs) := hide (by rw [E.out, hin, hip, decide_eq_true hlen]; rfl)
  have hlen' : ¬ (200 : Int) < (hs.length : Int) := by omega
  obtain ⟨s0, s1⟩ := inB_true hin
  obtain ⟨p0, p1⟩ := inB_true hip
  have hws : IntKind.i64.wrap (S - 1) = S - 1 := wrap_in _ (by omega) (by omega)
  clear C1 C2 E hin hip
  go_wp2
  go_loopw [3] (fun i wr => ∃ k : Nat, i = .int .i64 k ∧ k ≤ hs.length ∧ Below w1.heap.size w1 wr ∧ Hid (upTo S P hs k)) (fun i _ => hs.length - (intOf i).toNat)
  case atStart => exact ⟨0, rfl, Nat.zero_le _, Below.refl _ _, hide (fun j hj => by omega)⟩
  case round =>
    obtain ⟨k, rfl, hk, hb, hU⟩ := hrel
    have hbw := btrans hW hb
    obtain ⟨⟨b0, b1, b2⟩, -⟩ := blk3 (blk_keep hb kt)
    have hbt : w.heap.size < wr.heap.size := cell_lt b0
    clear t0 t1 t2
    by_cases hlt : k < hs.length
    rotate_left
    · obtain rfl : k = hs.length := by omega
      have hR2 : R = true := by rw [hR.out]; exact rtB_upTo.2 hU.out
      subst hR2
      clear hz kt
      go_wp2
      go_ret
      exact ⟨rfl, hbw⟩
    rcases hz with h | ⟨hb0, ho, rfl, hc⟩
    · simp [h] at hlt
    have hcells := hide (fun j (hj : j < hs.length) => hc j hj)
    obtain ⟨q0, q1, q2, q3⟩ := hc k hlt
    replace q0 := ble hbw q0
    replace q1 := ble hbw q1
    replace q2 := ble hbw q2
    replace q3 := ble hbw q3
    have hhb : hb0 < wr.heap.size := cell_lt q0
    have hbad := fun h => hide (show R = false by rw [hR.out]; exact rtB_bad (S := S) (P := P) hlt (next_bad h))
    have hb3 := hide (bk3 (S := S) (P := P) (x := hs.getD k BkV.zero))
    have hni := fun h1 h2 => hide (next_iff (S := S) (P := P) (x := hs.getD k BkV.zero) hk hU.out h1 h2)
    have hstep := fun h => hide (hU.out.step h)
    have hbad2 := fun h => hide (show R = false by rw [hR.out]; exact rtB_bad (S := S) (P := P) hlt h)
    have hl0 := hide (show k = 0 → lastI (hs.take k) = 0 by rintro rfl; simp [lastI])
    have hl1 := hide (show ∀ q, k = q + 1 → lastI (hs.take k) = (hs.getD q BkV.zero).i by rintro q rfl; exact lastI_take (by omega))
    clear hc
    generalize hs.getD k BkV.zero = x at *
    obtain ⟨xi, xs, xn, xf⟩ := x
    dsimp only at *
    have hA := balloc wr (.cells #[.int .i64 xi, .int .i64 xs, .int .i64 xn, .int .i64 xf] 82)
    have kA : (wr.alloc (.cells #[.int .i64 xi, .int .i64 xs, .int .i64 xn, .int .i64 xf] 82)).heap[wr.heap.size]? = some (.cells #[.int .i64 xi, .int .i64 xs, .int .i64 xn, .int .i64 xf] 82 (0, 0)) := heap_alloc_new wr _
    have y0 := ble hA b0
    have y1 := ble hA b1
    have y2 := ble hA b2
    have z0 := ble hA q0
    have hbA := btrans hbw hA
    have hbA1 := btrans hb hA
    go_wp2_with fail
    clear b0 b1 b2 q0 q1 q2 q3 hb hbw
    generalize wr.alloc (.cells #[.int .i64 xi, .int .i64 xs, .int .i64 xn, .int .i64 xf] 82) = V at *
    have hVs : wr.heap.size < V.heap.size := lt_of_block kA
    have a0 : V.cell? ⟨wr.heap.size, 0, none⟩ = some (.int .i64 xi) := Go.Joins.cell_of_block kA 0
    have a1 : V.cell? ⟨wr.heap.size, 1, none⟩ = some (.int .i64 xs) := Go.Joins.cell_of_block kA 1
    have a2 : V.cell? ⟨wr.heap.size, 2, none⟩ = some (.int .i64 xn) := Go.Joins.cell_of_block kA 2
    have a3 : V.cell? ⟨wr.heap.size, 3, none⟩ = some (.int .i64 xf) := Go.Joins.cell_of_block kA 3
    have C1 := fun V => cIn xs 0 (S - 1) V
    have C2 := fun V => cIn xf 1 P V
    have C3 := fun V => cIn xn 0 (xf - 1) V
    clear hA z0
    generalize wr.heap.size = nb at *
    clear wr
    by_cases hi0 : xi ≤ 0
    · have d1 : decide (xi ≤ 0) = true := decide_eq_true hi0
      have hF := hbad (.inl (by rw [hb3.out, decide_eq_false (by omega)]; rfl))
      have hR2 : R = false := hF.out
      subst hR2
      clear hcells hbad hb3 hni hstep hbad2 hl0 hl1 kA kt hF
      go_quiet (first | (go_at_call 34; with_reducible refine Calls.quiet_of_same (C1 _)) | (go_at_call 34; with_reducible refine Calls.quiet_of_same (C2 _)) | (go_at_call 34; with_reducible refine Calls.quiet_of_same (C3 _)))
      go_wp2
      go_ret
      exact ⟨rfl, bdraw hbA _⟩
    have d1 : decide (xi ≤ 0) = false := decide_eq_false hi0
    have hin0 : Hid (∀ (hla : lastI (hs.take k) < xi), inB xs 0 (S - 1) = true → inB xf 1 P = true → inB xn 0 (xf - 1) = true → bkB S P ⟨xi, xs, xn, xf⟩ = true) := hide (fun _ h1 h2 h3 => by rw [hb3.out, h1, h2, h3, decide_eq_true (by omega)]; rfl)
    by_cases hk0 : k = 0
    · have hla : lastI (hs.take k) < xi := by rw [hl0.out hk0]; omega
      have d2 : decide (0 < k) = false := decide_eq_false (by omega)
      replace hk0 := hide hk0
      cases e1 : inB xs 0 (S - 1)
      · rw [e1] at C1
        have hF := hbad (.inl (by rw [hb3.out, e1]; simp))
        have hR2 : R = false := hF.out
        subst hR2
        clear hcells hbad hb3 hni hstep hbad2 hl0 hl1 kA kt hF
        go_quiet (first | (go_at_call 34; with_reducible refine Calls.quiet_of_same (C1 _)) | (go_at_call 34; with_reducible refine Calls.quiet_of_same (C2 _)) | (go_at_call 34; with_reducible refine Calls.quiet_of_same (C3 _)))
        go_wp2
        go_ret
        exact ⟨rfl, bdraw hbA _⟩
      rw [e1] at C1
      cases e2 : inB xf 1 P
      · rw [e2] at C2
        have hF := hbad (.inl (by rw [hb3.out, e2]; simp))
        have hR2 : R = false := hF.out
        subst hR2
        clear hcells hbad hb3 hni hstep hbad2 hl0 hl1 kA kt hF
        go_quiet (first | (go_at_call 34; with_reducible refine Calls.quiet_of_same (C1 _)) | (go_at_call 34; with_reducible refine Calls.quiet_of_same (C2 _)) | (go_at_call 34; with_reducible refine Calls.quiet_of_same (C3 _)))
        go_wp2
        go_ret
        exact ⟨rfl, bdraw hbA _⟩
      rw [e2] at C2
      obtain ⟨f0, f1⟩ := inB_true e2
      have hwf : IntKind.i64.wrap (xf - 1) = xf - 1 := wrap_in _ (by omega) (by omega)
      cases e3 : inB xn 0 (xf - 1)
      · rw [e3] at C3
        have hF := hbad (.inl (by rw [hb3.out, e3]; simp))
        have hR2 : R = false := hF.out
        subst hR2
        clear hcells hbad hb3 hni hstep hbad2 hl0 hl1 kA kt hF
        go_quiet (first | (go_at_call 34; with_reducible refine Calls.quiet_of_same (C1 _)) | (go_at_call 34; with_reducible refine Calls.quiet_of_same (C2 _)) | (go_at_call 34; with_reducible refine Calls.quiet_of_same (C3 _)))
        go_wp2
        go_ret
        exact ⟨rfl, bdraw hbA _⟩
      rw [e3] at C3
      have hnx := hni (hin0.out hla e1 e2 e3) hla
      clear hbad hb3 hni hl0 hl1 hin0
      go_quiet (first | (go_at_call 34; with_reducible refine Calls.quiet_of_same (C1 _)) | (go_at_call 34; with_reducible refine Calls.quiet_of_same (C2 _)) | (go_at_call 34; with_reducible refine Calls.quiet_of_same (C3 _)))
      clear e1 e2 e3 C1 C2 C3
      go_wp2
      go_loopw [5] (fun y wr => ∃ j : Nat, y = .int .i64 j ∧ j ≤ k ∧ Below V.heap.size V wr ∧ Hid (∀ i, i < j → ¬ ovr (hs.getD i BkV.zero) ⟨xi, xs, xn, xf⟩)) (fun y _ => k - (intOf y).toNat)
      case atStart => exact ⟨0, rfl, Nat.zero_le _, bdraw (Below.refl _ _) _, hide (fun i h => by omega)⟩
      case round =>
        obtain ⟨j, rfl, hj, hq, hO⟩ := hrel
        by_cases hjk : j < k
        · obtain ⟨r0, r1, r2, r3⟩ := hcells.out j (by omega)
          have hbq := btrans hbA hq
          replace r0 := ble hbq r0
          replace r1 := ble hbq r1
          replace r2 := ble hbq r2
          replace r3 := ble hbq r3
          have hhq : hb0 < wr.heap.size := cell_lt r0
          have u2 := ble hq y2
          have v1 := ble hq a1
          have v2 := ble hq a2
          have v3 := ble hq a3
          have hwr : nb < wr.heap.size := cell_lt v1
          have hwt : w.heap.size < wr.heap.size := cell_lt u2
          have hjk' : (j : Int) < (k : Int) := by omega
          have hjl : j < hs.length := by omega
          have hjl' : (j : Int) < (hs.length : Int) := by omega
          have hO2 := fun (h : ¬ ovr (hs.getD j BkV.zero) ⟨xi, xs, xn, xf⟩) => hide (fun i (hi : i < j + 1) => if e : i = j then by subst e; exact h else hO.out i (by omega))
          have hov := fun (h : ovr (hs.getD j BkV.zero) ⟨xi, xs, xn, xf⟩) => hbad2 (by
            cases hn : nextB S P (hs.take k) ⟨xi, xs, xn, xf⟩
            · rfl
            · exact absurd h (hnx.out.1 hn j hjk))
          unfold ovr at hO2 hov
          generalize hs.getD j BkV.zero = o at *
          obtain ⟨oi, os, on, of⟩ := o
          dsimp only at *
          have hqA := balloc wr (.cells #[.int .i64 oi, .int .i64 os, .int .i64 on, .int .i64 of] 82)
          have hq2 := btrans hq hqA
          have hbF := btrans hbA hq2
          clear hcells hnx hstep hbad2 y0 y1 y2 a0 a1 a2 a3 hq hqA hbA1 kA kt hO
          by_cases c1 : os = xs
          · by_cases c2 : on < xf
            · by_cases c3 : xn < of
              · have hF := hov ⟨c1, c2, c3⟩
                have hR2 : R = false := hF.out
                subst hR2
                subst c1
                clear hov hO2 hF
                go_wp2
                go_ret
                exact ⟨rfl, hbF⟩
              · have hn := hO2 (fun h => c3 h.2.2)
                subst c1
                clear hov hO2
                go_wp2
                go_roundw
                case rel => exact ⟨j + 1, by go_num, by omega, hq2, hn⟩
                case measure => simp [intOf]; omega
            · have hn := hO2 (fun h => c2 h.2.1)
              subst c1
              clear hov hO2
              go_wp2
              go_roundw
              case rel => exact ⟨j + 1, by go_num, by omega, hq2, hn⟩
              case measure => simp [intOf]; omega
          · have hn := hO2 (fun h => c1 h.1)
            have c1' : (os == xs) = false := by simp [c1]
            clear hov hO2
            go_wp2
            go_roundw
            case rel => exact ⟨j + 1, by go_num, by omega, hq2, hn⟩
            case measure => simp [intOf]; omega
        · obtain rfl : j = k := by omega
          have hU2 := hstep (hnx.out.2 hO.out)
          have hbE := btrans hbA1 hq
          clear hcells hnx hstep hbad2 y0 y1 y2 a0 a1 a2 a3 hq kA kt hO
          go_wp2
          go_roundw
          case rel => exact ⟨j + 1, by go_num, by omega, hbE, hU2⟩
          case measure => simp [intOf]; omega
    · have d2 : decide (0 < k) = true := decide_eq_true (by omega)
      obtain ⟨q, hkq⟩ : ∃ q, k = q + 1 := ⟨k - 1, by omega⟩
      have hlq := hide (hl1.out q hkq)
      obtain ⟨p0', -, -, -⟩ := hcells.out q (by omega)
      replace p0' := ble hbA p0'
      generalize (hs.getD q BkV.zero).i = pi at hlq p0'
      have hsubq : (k : Int) - 1 = (q : Int) := by omega
      have hsubq' : IntKind.i64.wrap ((k : Int) - 1) = (q : Int) := by rw [wrap_in _ (by omega) (by omega)]; omega
      have hql : q < hs.length := by omega
      have hql' : (q : Int) < (hs.length : Int) := by omega
      replace hkq := hide hkq
      by_cases hpi : xi ≤ pi
      · have d3 : decide (xi ≤ pi) = true := decide_eq_true hpi
        have hF := hbad (.inr (by rw [hlq.out]; omega))
        have hR2 : R = false := hF.out
        subst hR2
        clear hcells hbad hb3 hni hstep hbad2 hl0 hl1 kA kt hF
        go_quiet (first | (go_at_call 34; with_reducible refine Calls.quiet_of_same (C1 _)) | (go_at_call 34; with_reducible refine Calls.quiet_of_same (C2 _)) | (go_at_call 34; with_reducible refine Calls.quiet_of_same (C3 _)))
        go_wp2
        go_ret
        exact ⟨rfl, bdraw hbA _⟩
      have d3 : decide (xi ≤ pi) = false := decide_eq_false hpi
      have hla : lastI (hs.take k) < xi := by rw [hlq.out]; omega
      cases e1 : inB xs 0 (S - 1)
      · rw [e1] at C1
        have hF := hbad (.inl (by rw [hb3.out, e1]; simp))
        have hR2 : R = false := hF.out
        subst hR2
        clear hcells hbad hb3 hni hstep hbad2 hl0 hl1 kA kt hF
        go_quiet (first | (go_at_call 34; with_reducible refine Calls.quiet_of_same (C1 _)) | (go_at_call 34; with_reducible refine Calls.quiet_of_same (C2 _)) | (go_at_call 34; with_reducible refine Calls.quiet_of_same (C3 _)))
        go_wp2
        go_ret
        exact ⟨rfl, bdraw hbA _⟩
      rw [e1] at C1
      cases e2 : inB xf 1 P
      · rw [e2] at C2
        have hF := hbad (.inl (by rw [hb3.out, e2]; simp))
        have hR2 : R = false := hF.out
        subst hR2
        clear hcells hbad hb3 hni hstep hbad2 hl0 hl1 kA kt hF
        go_quiet (first | (go_at_call 34; with_reducible refine Calls.quiet_of_same (C1 _)) | (go_at_call 34; with_reducible refine Calls.quiet_of_same (C2 _)) | (go_at_call 34; with_reducible refine Calls.quiet_of_same (C3 _)))
        go_wp2
        go_ret
        exact ⟨rfl, bdraw hbA _⟩
      rw [e2] at C2
      obtain ⟨f0, f1⟩ := inB_true e2
      have hwf : IntKind.i64.wrap (xf - 1) = xf - 1 := wrap_in _ (by omega) (by omega)
      cases e3 : inB xn 0 (xf - 1)
      · rw [e3] at C3
        have hF := hbad (.inl (by rw [hb3.out, e3]; simp))
        have hR2 : R = false := hF.out
        subst hR2
        clear hcells hbad hb3 hni hstep hbad2 hl0 hl1 kA kt hF
        go_quiet (first | (go_at_call 34; with_reducible refine Calls.quiet_of_same (C1 _)) | (go_at_call 34; with_reducible refine Calls.quiet_of_same (C2 _)) | (go_at_call 34; with_reducible refine Calls.quiet_of_same (C3 _)))
        go_wp2
        go_ret
        exact ⟨rfl, bdraw hbA _⟩
      rw [e3] at C3
      have hnx := hni (hin0.out hla e1 e2 e3) hla
      clear hbad hb3 hni hl0 hl1 hin0
      go_quiet (first | (go_at_call 34; with_reducible refine Calls.quiet_of_same (C1 _)) | (go_at_call 34; with_reducible refine Calls.quiet_of_same (C2 _)) | (go_at_call 34; with_reducible refine Calls.quiet_of_same (C3 _)))
      clear e1 e2 e3 C1 C2 C3
      go_wp2
      go_loopw [5] (fun y wr => ∃ j : Nat, y = .int .i64 j ∧ j ≤ k ∧ Below V.heap.size V wr ∧ Hid (∀ i, i < j → ¬ ovr (hs.getD i BkV.zero) ⟨xi, xs, xn, xf⟩)) (fun y _ => k - (intOf y).toNat)
      case atStart => exact ⟨0, rfl, Nat.zero_le _, bdraw (Below.refl _ _) _, hide (fun i h => by omega)⟩
      case round =>
        obtain ⟨j, rfl, hj, hq, hO⟩ := hrel
        by_cases hjk : j < k
        · obtain ⟨r0, r1, r2, r3⟩ := hcells.out j (by omega)
          have hbq := btrans hbA hq
          replace r0 := ble hbq r0
          replace r1 := ble hbq r1
          replace r2 := ble hbq r2
          replace r3 := ble hbq r3
          have hhq : hb0 < wr.heap.size := cell_lt r0
          have u2 := ble hq y2
          have v1 := ble hq a1
          have v2 := ble hq a2
          have v3 := ble hq a3
          have hwr : nb < wr.heap.size := cell_lt v1
          have hwt : w.heap.size < wr.heap.size := cell_lt u2
          have hjk' : (j : Int) < (k : Int) := by omega
          have hjl : j < hs.length := by omega
          have hjl' : (j : Int) < (hs.length : Int) := by omega
          have hO2 := fun (h : ¬ ovr (hs.getD j BkV.zero) ⟨xi, xs, xn, xf⟩) => hide (fun i (hi : i < j + 1) => if e : i = j then by subst e; exact h else hO.out i (by omega))
          have hov := fun (h : ovr (hs.getD j BkV.zero) ⟨xi, xs, xn, xf⟩) => hbad2 (by
            cases hn : nextB S P (hs.take k) ⟨xi, xs, xn, xf⟩
            · rfl
            · exact absurd h (hnx.out.1 hn j hjk))
          unfold ovr at hO2 hov
          generalize hs.getD j BkV.zero = o at *
          obtain ⟨oi, os, on, of⟩ := o
          dsimp only at *
          have hqA := balloc wr (.cells #[.int .i64 oi, .int .i64 os, .int .i64 on, .int .i64 of] 82)
          have hq2 := btrans hq hqA
          have hbF := btrans hbA hq2
          clear hcells hnx hstep hbad2 y0 y1 y2 a0 a1 a2 a3 hq hqA hbA1 kA kt hO
          by_cases c1 : os = xs
          · by_cases c2 : on < xf
            · by_cases c3 : xn < of
              · have hF := hov ⟨c1, c2, c3⟩
                have hR2 : R = false := hF.out
                subst hR2
                subst c1
                clear hov hO2 hF
                go_wp2
                go_ret
                exact ⟨rfl, hbF⟩
              · have hn := hO2 (fun h => c3 h.2.2)
                subst c1
                clear hov hO2
                go_wp2
                go_roundw
                case rel => exact ⟨j + 1, by go_num, by omega, hq2, hn⟩
                case measure => simp [intOf]; omega
            · have hn := hO2 (fun h => c2 h.2.1)
              subst c1
              clear hov hO2
              go_wp2
              go_roundw
              case rel => exact ⟨j + 1, by go_num, by omega, hq2, hn⟩
              case measure => simp [intOf]; omega
          · have hn := hO2 (fun h => c1 h.1)
            have c1' : (os == xs) = false := by simp [c1]
            clear hov hO2
            go_wp2
            go_roundw
            case rel => exact ⟨j + 1, by go_num, by omega, hq2, hn⟩
            case measure => simp [intOf]; omega
        · obtain rfl : j = k := by omega
          have hU2 := hstep (hnx.out.2 hO.out)
          have hbE := btrans hbA1 hq
          clear hcells hnx hstep hbad2 y0 y1 y2 a0 a1 a2 a3 hq kA kt hO
          go_wp2
          go_roundw
          case rel => exact ⟨j + 1, by go_num, by omega, hbE, hU2⟩
          case measure => simp [intOf]; omega
end Go.Proofs.YtjbecnflpfjicaaGreat.s14
