/- Right formations: FormOk of the model; FormLen of both. -/
import Derived.Test.YtnddhpdhbmbikaaDoorCB
namespace Go.Proofs.YtnddhpdhbmbikaaDoor
open Go.RowKit

set_option maxRecDepth 20000 in
set_option maxHeartbeats 3200000 in
theorem cFormS (a : Option Addr) (cap : Nat) (l : List UV) (w : World) (he : Us w a l) (hl : l.length ≤ maxLen) :
    Calls Tryd.prog 35 #[.slice a l.length cap] w fun e w' => e = .returned (.bool (formB l)) ∧ Below w.heap.size w w' := by
  unfold maxLen at hl
  by_cases h30 : 30 < l.length
  · have E := hide (formB_long h30)
    have hi : (30 : Int) < (l.length : Int) := by omega
    go_enter Tryd.func35, Tryd.ntmps35
    go_wp2
    go_ret
    exact ⟨ret_bool E.out.symm, Below.refl _ _⟩
  have hi : ¬ (30 : Int) < (l.length : Int) := by omega
  have H30 := hide h30
  clear h30
  go_enter Tryd.func35, Tryd.ntmps35
  go_wp2
  go_loopw [3] (fun i wr => ∃ k : Nat, k ≤ l.length ∧ i = .int .i64 k ∧ GoodTo l k ∧ Below w.heap.size w wr) (fun i _ => l.length - (intOf i).toNat)
  case atStart => exact ⟨0, Nat.zero_le _, rfl, GoodTo.zero l, Below.refl _ _⟩
  case round =>
    obtain ⟨k, hk, rfl, hg, hb⟩ := hrel
    have hg := hide hg
    by_cases hlt : k < l.length
    · have hlt' : (k : Int) < (l.length : Int) := by omega
      rcases he with h | ⟨b1, o1, rfl, q1⟩
      · simp [h] at hlt
      obtain ⟨p0, p1, p2, p3⟩ := q1 k hlt
      replace p0 := ble hb p0
      replace p1 := ble hb p1
      replace p2 := ble hb p2
      replace p3 := ble hb p3
      have Q : Hid (∀ j, j < l.length → w.cell? ⟨b1, o1 + j * 4, none⟩ = some (.int .i64 (l.getD j UV.zero).i)) := hide (fun j hj => (q1 j hj).1)
      have Bad := hide (formB_bad hlt)
      have Twice : Hid (∀ j, j < k → (l.getD j UV.zero).i = (l.getD k UV.zero).i → formB l = false) := hide (fun j hj => formB_twice hlt hj)
      have Next : Hid (uOk (l.getD k UV.zero) = true → (∀ j, j < k → (l.getD j UV.zero).i ≠ (l.getD k UV.zero).i) → GoodTo l (k + 1)) := hide (fun hu hn => hg.out.step hu hn)
      have hk30 : k < 30 := by have := H30.out; omega
      clear q1 hg
      generalize l.getD k UV.zero = y at *
      obtain ⟨yi, yc, ym, yb⟩ := y
      dsimp only at *
      have U : Hid (uOk ⟨yi, yc, ym, yb⟩ = (inB yi 1 9999 && inB yc 1 9 && inB ym 1 200)) := rfl
      generalize uOk ⟨yi, yc, ym, yb⟩ = R at *
      have hb1 := balloc wr (.cells #[.int .i64 yi, .int .i64 yc, .int .i64 ym, .bool yb] 34)
      have A1 := one_block' wr (.cells #[.int .i64 yi, .int .i64 yc, .int .i64 ym, .bool yb] 34)
      have HB := btrans hb hb1
      go_wp2_with fail
      refine (cIn yi 1 9999 _).mono ?_
      rintro e w1 ⟨rfl, hw⟩
      subst hw
      cases h1 : inB yi 1 9999
      · have E := hide (Bad.out (by rw [U.out, h1]; rfl))
        clear Bad Twice Next U
        go_wp2
        go_ret
        exact ⟨ret_bool E.out.symm, HB⟩
      go_wp2_with fail
      refine (cIn yc 1 9 _).mono ?_
      rintro e w1 ⟨rfl, hw⟩
      subst hw
      cases h2 : inB yc 1 9
      · have E := hide (Bad.out (by rw [U.out, h1, h2]; rfl))
        clear Bad Twice Next U
        go_wp2
        go_ret
        exact ⟨ret_bool E.out.symm, HB⟩
      go_wp2_with fail
      refine (cIn ym 1 200 _).mono ?_
      rintro e w1 ⟨rfl, hw⟩
      subst hw
      cases h3 : inB ym 1 200
      · have E := hide (Bad.out (by rw [U.out, h1, h2, h3]; rfl))
        clear Bad Twice Next U
        go_wp2
        go_ret
        exact ⟨ret_bool E.out.symm, HB⟩
      have hR := hide (show R = true by rw [U.out, h1, h2, h3]; rfl)
      clear Bad U h1 h2 h3 p0 p1 p2 p3
      go_wp2
      generalize hWo : (wr.alloc (.cells #[.int .i64 yi, .int .i64 yc, .int .i64 ym, .bool yb] 34)) = wo at *
      generalize wr.heap.size = B1 at *
      clear hb1 hWo
      go_loopw [5] (fun i wx => ∃ j : Nat, j ≤ k ∧ i = .int .i64 j ∧ (∀ q, q < j → (l.getD q UV.zero).i ≠ yi) ∧ Below wo.heap.size wo wx) (fun i _ => k - (intOf i).toNat)
      case atStart => exact ⟨0, Nat.zero_le _, rfl, fun q hq => absurd hq (by omega), Below.refl _ _⟩
      case round =>
        obtain ⟨j, hj, rfl, hn, hbj⟩ := hrel
        have hn := hide hn
        by_cases hjk : j < k
        · have hjl : (j : Int) < (l.length : Int) := by omega
          have hjk' : (j : Int) < (k : Int) := by omega
          have p0 := ble (btrans HB hbj) (Q.out j (by omega))
          have c0 := blk_cell (blk_keep hbj A1) 0
          simp at c0
          have T1 := hide (Twice.out j hjk)
          have N1 : Hid ((l.getD j UV.zero).i ≠ yi → ∀ q, q < j + 1 → (l.getD q UV.zero).i ≠ yi) := hide (fun h q hq => by
            by_cases e : q = j
            · subst e; exact h
            · exact hn.out q (by omega))
          clear hn Twice
          generalize (l.getD j UV.zero).i = x at *
          by_cases hxy : x = yi
          · subst hxy
            have E := hide (T1.out rfl)
            clear Next T1 N1 Q
            go_wp2_with fail
            go_quiet (fail)
            go_wp2
            go_ret
            exact ⟨ret_bool E.out.symm, btrans HB (bdraw hbj _)⟩
          · have hne : (x == yi) = false := by simpa using hxy
            have HN := hide (N1.out hxy)
            clear hxy T1 N1
            go_wp2_with fail
            go_quiet (fail)
            go_wp2
            go_roundw
            case rel => exact ⟨j + 1, by omega, by go_num, HN.out, bdraw hbj _⟩
            case measure => simp [intOf]; omega
        · obtain rfl : j = k := by omega
          have G2 := hide (Next.out hR.out hn.out)
          clear hn Next Twice hR Q
          go_wp2
          go_roundw
          case rel => exact ⟨j + 1, by omega, by go_num, G2.out, btrans HB hbj⟩
          case measure => simp [intOf]; omega
    · obtain rfl : k = l.length := by omega
      have E := hide (hg.out.form (by have := H30.out; omega))
      clear hg he
      go_wp2
      go_ret
      exact ⟨ret_bool E.out.symm, hb⟩

set_option maxHeartbeats 1600000 in
theorem cLenI (a : Option Addr) (cap : Nat) (l : List UV) (w : World) (he : Us w a l) (hl : l.length ≤ maxLen) :
    Calls Tryd.prog 12 #[.slice a l.length cap] w fun e w' => e = .returned (.int .i64 (lenV l)) ∧ Below w.heap.size w w' := by
  have CF := cFormI a cap l w he hl
  unfold maxLen at hl
  have E : Hid (lenV l = if formB l then metres l else -1) := rfl
  generalize lenV l = R at *
  go_enter Tryd.func12, Tryd.ntmps12
  go_wp2_with fail
  refine CF.mono ?_
  rintro e w1 ⟨rfl, hb1⟩
  clear CF
  cases hf : formB l
  · rw [hf] at E
    go_wp2
    go_ret
    exact ⟨ret_int (by rw [E.out]; rfl), hb1⟩
  rw [hf] at E
  have h30 := (formB_iff.1 hf).1
  have FM : Hid (∀ k, 0 ≤ metres (l.take k) ∧ metres (l.take k) ≤ 6000) := hide (form_take_m hf)
  have MM : Hid (∀ k, k < l.length → 1 ≤ (l.getD k UV.zero).m ∧ (l.getD k UV.zero).m ≤ 200) := hide (fun k hk => form_m hf hk)
  have MS : Hid (∀ k, k < l.length → metres (l.take (k + 1)) = metres (l.take k) + (l.getD k UV.zero).m) := hide (fun k hk => metres_step hk)
  have he1 := he.below hb1
  clear he hf
  go_wp2
  go_loopw [3, 11] (fun s i wr => ∃ k : Nat, k ≤ l.length ∧ i = .int .i64 k ∧ s = .int .i64 (metres (l.take k)) ∧ Below w.heap.size w wr ∧ Below w1.heap.size w1 wr) (fun _ i _ => l.length - (intOf i).toNat)
  case atStart => exact ⟨0, Nat.zero_le _, rfl, by simp [metres], hb1, Below.refl _ _⟩
  case round =>
    obtain ⟨k, hk, rfl, rfl, hb, hbw⟩ := hrel
    by_cases hlt : k < l.length
    · rcases he1 with h | ⟨b1, o1, rfl, q1⟩
      · simp [h] at hlt
      obtain ⟨p0, p1, p2, p3⟩ := q1 k hlt
      replace p0 := ble hbw p0
      replace p1 := ble hbw p1
      replace p2 := ble hbw p2
      replace p3 := ble hbw p3
      obtain ⟨m1, m2⟩ := MM.out k hlt
      obtain ⟨f1, f2⟩ := FM.out k
      have S1 := hide (MS.out k hlt)
      clear q1
      generalize metres (l.take k) = M at *
      generalize l.getD k UV.zero = y at *
      obtain ⟨yi, yc, ym, yb⟩ := y
      dsimp only at *
      have hwr : IntKind.i64.wrap (M + ym) = M + ym := wrap_in _ (by omega) (by omega)
      have hb2 := balloc wr (.cells #[.int .i64 yi, .int .i64 yc, .int .i64 ym, .bool yb] 34)
      go_wp2
      go_roundw
      case rel => exact ⟨k + 1, by omega, by go_num, by rw [S1.out], btrans hb hb2, btrans hbw hb2⟩
      case measure => simp [intOf]; omega
    · obtain rfl : k = l.length := by omega
      rw [List.take_length]
      clear he1
      go_wp2
      go_ret
      exact ⟨ret_int (by rw [E.out]; rfl), hb⟩

end Go.Proofs.YtnddhpdhbmbikaaDoor
