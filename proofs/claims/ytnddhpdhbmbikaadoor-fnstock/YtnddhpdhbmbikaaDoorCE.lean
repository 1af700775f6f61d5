/- Which formations can run: of the program and of the model. -/
import Derived.Test.YtnddhpdhbmbikaaDoorCD
namespace Go.Proofs.YtnddhpdhbmbikaaDoor
open Go.RowKit

set_option maxRecDepth 20000 in
set_option maxHeartbeats 3200000 in
theorem cRunI (a : Option Addr) (cap : Nat) (l : List UV) (w : World) (he : Us w a l) (hl : l.length ≤ cap) (hcap : cap ≤ maxLen) :
    Calls Tryd.prog 13 #[.slice a l.length cap] w fun e w' => e = .returned (.bool (runB l)) ∧ Below w.heap.size w w' := by
  have CF := cFormI a cap l w he (Nat.le_trans hl hcap)
  unfold maxLen at hcap
  go_enter Tryd.func13, Tryd.ntmps13
  go_wp2_with fail
  refine CF.mono ?_
  rintro e w1 ⟨rfl, hb1⟩
  clear CF
  cases hf : formB l
  · have E := hide (runB_form hf)
    go_wp2
    go_ret
    exact ⟨ret_bool E.out.symm, hb1⟩
  have he1 := he.below hb1
  have h30 := (formB_iff.1 hf).1
  have HF := hide hf
  clear he hf
  by_cases h0 : l = []
  · subst h0
    go_wp2
    go_ret
    exact ⟨ret_bool runB_nil.symm, hb1⟩
  have H0 := hide h0
  have hp : 0 < l.length := List.length_pos_iff.2 h0
  clear h0
  rcases he1 with h | ⟨b1, o1, rfl, q1⟩
  · exact absurd h H0.out
  have hz : ((l.length : Int) == 0) = false := by rw [beq_eq_false_iff_ne]; omega
  have hp1 : (1 : Int) ≤ (l.length : Int) := by omega
  have hp2 : (1 : Int) ≤ (cap : Int) := by omega
  have hp3 : (l.length : Int) ≤ (cap : Int) := by omega
  have Q : Hid (∀ i, i < l.length → w1.cell? ⟨b1, o1 + i * 4, none⟩ = some (.int .i64 (l.getD i UV.zero).i) ∧ w1.cell? ⟨b1, o1 + i * 4 + 1, none⟩ = some (.int .i64 (l.getD i UV.zero).c) ∧ w1.cell? ⟨b1, o1 + i * 4 + 2, none⟩ = some (.int .i64 (l.getD i UV.zero).m) ∧ w1.cell? ⟨b1, o1 + i * 4 + 3, none⟩ = some (.bool (l.getD i UV.zero).b)) := hide q1
  clear q1
  by_cases hc1 : cap = 1
  · subst hc1
    have h1 : l.length = 1 := by omega
    have E : Hid (runB l = true) := hide ((show FitTo l l.length by rw [h1]; exact FitTo.one l).run HF.out H0.out)
    rw [h1]
    clear h1 hp hz hp1 hp2 hp3 hl
    go_wp2
    go_loopw [16] (fun i wr => i = .int .i64 0 ∧ Below w1.heap.size w1 wr) (fun _ _ => 0)
    case atStart => exact ⟨rfl, Below.refl _ _⟩
    case round =>
      obtain ⟨rfl, hb⟩ := hrel
      go_wp2
      go_ret
      exact ⟨ret_bool E.out.symm, btrans hb1 hb⟩
  obtain ⟨n, hn⟩ : ∃ n, l.length = n + 1 := ⟨l.length - 1, by omega⟩
  have hn' : (l.length : Int) - 1 = (n : Int) := by omega
  have hcn : ¬ ((cap : Int) = 1) := by omega
  have HN := hide hn
  clear hn
  go_wp2
  go_loopw [16] (fun i wr => ∃ k : Nat, k ≤ n ∧ i = .int .i64 k ∧ FitTo l (k + 1) ∧ Below w1.heap.size w1 wr) (fun i _ => n - (intOf i).toNat)
  case atStart => exact ⟨0, by omega, rfl, FitTo.one l, Below.refl _ _⟩
  case round =>
    obtain ⟨k, hk, rfl, hg, hb⟩ := hrel
    have hg := hide hg
    by_cases hlt : k < n
    · have hN := HN.out
      have hki : (k : Int) < (l.length : Int) := by omega
      obtain ⟨p0, p1, p2, p3⟩ := Q.out k (by omega)
      obtain ⟨r0, r1, r2, r3⟩ := Q.out (k + 1) (by omega)
      have eo : o1 + (k + 1) * 4 = o1 + 4 + k * 4 := by omega
      rw [eo] at r0 r1 r2 r3
      clear eo hN
      replace p0 := ble hb p0
      replace p1 := ble hb p1
      replace p2 := ble hb p2
      replace p3 := ble hb p3
      replace r0 := ble hb r0
      replace r1 := ble hb r1
      replace r2 := ble hb r2
      replace r3 := ble hb r3
      have CT := fun w => cFitI (l.getD k UV.zero) (l.getD (k + 1) UV.zero) w
      have Bad := hide (runB_bad (l := l) (k := k) (by have := HN.out; omega))
      have Nx := hide (hg.out.step (n := k))
      clear Q hg
      generalize l.getD k UV.zero = x at *
      generalize l.getD (k + 1) UV.zero = y at *
      obtain ⟨xi, xc, xm, xb⟩ := x
      obtain ⟨yi, yc, ym, yb⟩ := y
      unfold UV.val at CT
      dsimp only at *
      have hb2 := balloc wr (.cells #[.int .i64 yi, .int .i64 yc, .int .i64 ym, .bool yb] 34)
      have A1 := one_block' wr (.cells #[.int .i64 yi, .int .i64 yc, .int .i64 ym, .bool yb] 34)
      have s0 := ble hb2 p0
      have s1 := ble hb2 p1
      have s2 := ble hb2 p2
      have s3 := ble hb2 p3
      have s4 : (wr.alloc (.cells #[.int .i64 yi, .int .i64 yc, .int .i64 ym, .bool yb] 34)).cell? ⟨wr.heap.size, 0, none⟩ = some (.int .i64 yi) := blk_cell A1 0
      have s5 : (wr.alloc (.cells #[.int .i64 yi, .int .i64 yc, .int .i64 ym, .bool yb] 34)).cell? ⟨wr.heap.size, 1, none⟩ = some (.int .i64 yc) := blk_cell A1 1
      have s6 : (wr.alloc (.cells #[.int .i64 yi, .int .i64 yc, .int .i64 ym, .bool yb] 34)).cell? ⟨wr.heap.size, 2, none⟩ = some (.int .i64 ym) := blk_cell A1 2
      have s7 : (wr.alloc (.cells #[.int .i64 yi, .int .i64 yc, .int .i64 ym, .bool yb] 34)).cell? ⟨wr.heap.size, 3, none⟩ = some (.bool yb) := blk_cell A1 3
      have hB := btrans hb hb2
      generalize fitB ⟨xi, xc, xm, xb⟩ ⟨yi, yc, ym, yb⟩ = R at *
      go_wp2_with fail
      clear p0 p1 p2 p3 r0 r1 r2 r3 A1
      generalize (wr.alloc (.cells #[.int .i64 yi, .int .i64 yc, .int .i64 ym, .bool yb] 34)) = V at *
      generalize wr.heap.size = B1 at *
      go_region_held3 (fun w' => w'.cell? ⟨b1, o1 + k * 4, none⟩ = some (.int .i64 xi) ∧ w'.cell? ⟨b1, o1 + k * 4 + 1, none⟩ = some (.int .i64 xc) ∧ w'.cell? ⟨b1, o1 + k * 4 + 2, none⟩ = some (.int .i64 xm) ∧ w'.cell? ⟨b1, o1 + k * 4 + 3, none⟩ = some (.bool xb) ∧ w'.cell? ⟨B1, 0, none⟩ = some (.int .i64 yi) ∧ w'.cell? ⟨B1, 1, none⟩ = some (.int .i64 yc) ∧ w'.cell? ⟨B1, 2, none⟩ = some (.int .i64 ym) ∧ w'.cell? ⟨B1, 3, none⟩ = some (.bool yb)) (go_keep) (first
        | (go_at_call 32; with_reducible refine (CT _).mono ?_; rintro e wa ⟨rfl, hba⟩; have Ba := undrew hba; have t0 := ble Ba s0; have t1 := ble Ba s1; have t2 := ble Ba s2; have t3 := ble Ba s3; have t4 := ble Ba s4; have t5 := ble Ba s5; have t6 := ble Ba s6; have t7 := ble Ba s7))
      have HB := btrans hB Ba
      cases hR : R
      · have E := hide (Bad.out hR)
        clear Bad Nx CT
        go_wp2
        go_ret
        exact ⟨ret_bool E.out.symm, btrans hb1 HB⟩
      · have G := hide (Nx.out hR)
        clear Bad Nx CT
        go_wp2
        go_roundw
        case rel => exact ⟨k + 1, by omega, by go_num, G.out, HB⟩
        case measure => simp [intOf]; omega
    · obtain rfl : k = n := by omega
      have E : Hid (runB l = true) := hide ((show FitTo l l.length by rw [HN.out]; exact hg.out).run HF.out H0.out)
      clear hg Q
      go_wp2
      go_ret
      exact ⟨ret_bool E.out.symm, btrans hb1 hb⟩

end Go.Proofs.YtnddhpdhbmbikaaDoor
