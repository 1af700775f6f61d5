/- The walk of the law on ease: the top speed told is enough, one less is not. -/
import Derived.Test.YtnhcmjfmfgoakaaN
import Derived.Test.YtnhcmjfmfgoakaaZA
namespace Go.Proofs.Ytnhcmjfmfgoakaa
open Go.RowKit

theorem ease_law {u d : Int} {T : Nat} {zs : List Int} (R : Right ⟨u, d, T⟩ zs) {r : Int} (r0 : 0 ≤ r) (r1 : r ≤ 63) :
    ∃ (t W : Int) (i : Nat), runT (sqs ⟨u, d, T⟩ zs) = t ∧ W = t + t * r / 32 ∧ i < T ∧ easeT ⟨u, d, T⟩ zs W = (i : Int) + 1 ∧ easeT ⟨u, d, T⟩ zs (t - 1) = 0 ∧ runT (sqs ⟨u, d, (i : Int) + 1⟩ zs) ≤ W ∧ (i = 0 ∨ W < runT (sqs ⟨u, d, i⟩ zs)) ∧ 1 ≤ t ∧ t ≤ 100500 ∧ 0 ≤ t * r ∧ t * r ≤ 6331500 := by
  have tpos := runT_pos R
  have tin := (runT_in _ (sqs_len ⟨u, d, T⟩ zs)).2
  have t1 : (T : Int) ≤ 90 := R.t1
  have t0 : 1 ≤ (T : Int) := R.t0
  have hA := fun (k : Nat) (hk : (k : Int) + 1 ≤ T) => runT_anti (R.top (x := (k : Int) + 1) (by omega) (by omega)) R ⟨Int.le_refl _, Int.le_refl _, hk, rfl, fun _ => Int.le_refl _⟩
  have hA' : ∀ k : Nat, (k : Int) + 1 ≤ T → runT (sqs ⟨u, d, T⟩ zs) ≤ runT (sqs ⟨u, d, (k : Int) + 1⟩ zs) := hA
  have hlast : runT (sqs ⟨u, d, ((T - 1 : Nat) : Int) + 1⟩ zs) = runT (sqs ⟨u, d, T⟩ zs) := by
    have e : ((T - 1 : Nat) : Int) + 1 = T := by omega
    rw [e]
  generalize ht : runT (sqs ⟨u, d, T⟩ zs) = t at *
  have p0 : 0 ≤ t * r := Int.mul_nonneg (by omega) r0
  have p1 : t * r ≤ 100500 * 63 := Int.mul_le_mul tin r1 r0 (by omega)
  have d0 : 0 ≤ t * r / 32 := Int.ediv_nonneg p0 (by omega)
  have d1 : t * r / 32 ≤ t * r := Int.ediv_le_self _ p0
  have hin1 : inB (t + t * r / 32) 0 10000000 = true := by unfold inB; simp only [decide_eq_true_eq]; omega
  have hin2 : inB (t - 1) 0 10000000 = true := by unfold inB; simp only [decide_eq_true_eq]; omega
  have f1 : easeB u d (t + t * r / 32) zs (T - 1) = true := (ease_test _ _ _ _ _).1 (by rw [hlast]; omega)
  obtain ⟨i, hi, e1, e2, e3⟩ := ease_find (n := T) (by omega) f1
  refine ⟨t, _, i, rfl, rfl, hi, ?_, ?_, (ease_test _ _ _ _ _).2 e2, ?_, tpos, tin, p0, p1⟩
  · rw [easeT_in R.mB R.cB hin1]
    have e : (T : Int).toNat = T := by omega
    show easeF (easeB u d _ zs) ((T : Int).toNat) = _
    rw [e]; exact e1
  · rw [easeT_in R.mB R.cB hin2]
    have e : (T : Int).toNat = T := by omega
    show easeF (easeB u d _ zs) ((T : Int).toNat) = _
    rw [e]
    refine ease_miss fun j hj => ?_
    cases hb : easeB u d (t - 1) zs j
    · rfl
    · have := (ease_test _ _ _ _ _).2 hb
      have := hA' j (by omega)
      omega
  · by_cases h0 : i = 0
    · exact .inl h0
    · right
      have hf := e3 (i - 1) (by omega)
      have e : ((i - 1 : Nat) : Int) + 1 = i := by omega
      have hn : ¬ runT (sqs ⟨u, d, ((i - 1 : Nat) : Int) + 1⟩ zs) ≤ t + t * r / 32 := fun h => by
        have := (ease_test _ _ _ _ _).1 h
        rw [hf] at this; cases this
      rw [e] at hn
      omega

set_option maxRecDepth 20000 in
set_option maxHeartbeats 6400000 in
theorem walk5 (a : Option Addr) (cap : Nat) (bs : List Int) (w : World) (hz : Bytes w a bs) (hl : bs.length ≤ maxLen) :
    Calls Try.prog 5 #[.slice a bs.length cap] w fun e w' => e = .returned (.bool true) ∧ Below w.heap.size w w' := by
  by_cases hbig : 1048576 < bs.length
  · have hb : decide (1048576 < bs.length) = true := by simpa using hbig
    go_enter Try.func5, Try.ntmps5
    go_wp2_with (go_at_call 15; refine (c15 _ _ _ _ hl).mono ?_; rintro e w2 ⟨rfl, hw⟩; obtain rfl := hw.symm)
    go_ret
    exact ⟨rfl, Below.refl _ _⟩
  have hb : decide (1048576 < bs.length) = false := by simpa using hbig
  have hl2 : bs.length ≤ 1048576 := by omega
  clear hbig
  go_enter Try.func5, Try.ntmps5
  go_wp2_with fail
  refine (c15 _ _ _ _ hl).mono ?_
  rintro e w1 ⟨rfl, hw⟩
  obtain rfl := hw.symm
  rw [hb]
  go_wp2_with fail
  refine (c16 a cap bs _ hz hl2).mono ?_
  rintro e w1 ⟨m, v, zs, rfl, hD, ho, h0, h1, hall, hb1⟩
  have R := Right.drawn hD h0 h1 hall
  have hl1 : zs.length ≤ 1048576 := by omega
  obtain ⟨ao, cp, rfl⟩ := own_form ho
  have hI := ints_own ho rfl
  have CR := fun (t' : Int) (w' : World) (hz' : Ints w' ao zs) => c20 ao cp ⟨m.u, m.d, t'⟩ zs w' hz' hl1
  have CE := fun (x : Int) (w' : World) (hz' : Ints w' ao zs) => c24 ao cp m zs x w' hz' hl1
  have t1 := R.t1
  have t0 := R.t0
  obtain ⟨u, d, t⟩ := m
  unfold MotorV.val at *
  replace t0 : 1 ≤ t := t0
  replace t1 : t ≤ 90 := t1
  obtain ⟨T, rfl⟩ : ∃ T : Nat, t = (T : Int) := ⟨t.toNat, by omega⟩
  have LAW := hide (fun (r : Int) (r0 : 0 ≤ r) (r1 : r ≤ 63) => ease_law R r0 r1)
  clear hD hall ho hb h0 h1 R
  have X1 := Bx3.new w1 (.int .i64 u) (.int .i64 d) (.int .i64 T) 25
  have I1 := hI.below (balloc w1 (.cells #[.int .i64 u, .int .i64 d, .int .i64 T] 25))
  have Z1 := (hz.below hb1).below (balloc w1 (.cells #[.int .i64 u, .int .i64 d, .int .i64 T] 25))
  have HB1 := btrans hb1 (balloc w1 (.cells #[.int .i64 u, .int .i64 d, .int .i64 T] 25))
  clear hb1 hI
  go_wp2_with fail
  refine (CR T _ I1).mono ?_
  rintro e w2 ⟨rfl, hb⟩
  have X2 := X1.below hb
  have I2 := I1.below hb
  have Z2 := Z1.below hb
  have HB2 := btrans HB1 hb
  clear X1 I1 Z1 HB1 hb
  go_wp2_with fail
  refine (c22 a cap bs 3 _ Z2 hl2 (by omega) (by omega)).mono ?_
  rintro e w3 ⟨q, rfl, q0, q1, hw⟩
  obtain rfl := hw.symm
  obtain ⟨tt, W, i, ht, hW, hi, hE1, hE2, hR1, hR2, b1, b2, b3, b4⟩ := LAW.out (q % 64) (by omega) (by omega)
  rw [ht]
  have e1 : IntKind.i64.wrap (tt * (q % 64)) = tt * (q % 64) := wrap_in _ (by omega) (by omega)
  clear LAW
  obtain ⟨x0, x1, x2⟩ := id X2
  have hW := hide hW
  have hE1 := hide hE1
  have hE2 := hide hE2
  have ht := hide ht
  go_wp2_with fail
  rw [← hW.out]
  refine (CE W _ I2).mono ?_
  rintro e w4 ⟨rfl, hb⟩
  rw [hE1.out]
  have X4 := X2.below hb
  have I4 := I2.below hb
  have HB4 := btrans HB2 hb
  clear X2 I2 Z2 HB2 hb x0 x1 x2 hE1
  obtain ⟨x0, x1, x2⟩ := id X4
  have hi' : (i : Int) + 1 ≤ (T : Int) := by omega
  have n1 : ¬ tt ≤ 0 := by omega
  have n2 : ¬ (i : Int) + 1 < 1 := by omega
  have n3 : ¬ (T : Int) < (i : Int) + 1 := by omega
  go_wp2_with fail
  refine (CE (tt - 1) _ I4).mono ?_
  rintro e w5 ⟨rfl, hb⟩
  rw [hE2.out]
  have X5 := X4.below hb
  have I5 := I4.below hb
  have HB5 := btrans HB4 hb
  clear X4 I4 HB4 hb x0 x1 x2 hE2
  obtain ⟨x0, x1, x2⟩ := id X5
  have CR1 := CR ((i : Int) + 1) w5 I5
  replace CR1 : Calls Try.prog 20 #[.agg #[.int .i64 u, .int .i64 d, .int .i64 ((i : Int) + 1)], .slice ao zs.length cp] w5 fun e w' => e = .returned (.int .i64 (runT (sqs ⟨u, d, (i : Int) + 1⟩ zs))) ∧ Below w5.heap.size w5 w' := CR1
  generalize runT (sqs ⟨u, d, (i : Int) + 1⟩ zs) = T1 at *
  go_wp2_with fail
  refine CR1.mono ?_
  rintro e w6 ⟨rfl, hb⟩
  have X6 := X5.below hb
  have I6 := I5.below hb
  have HB6 := btrans HB5 hb
  clear X5 I5 HB5 hb x0 x1 x2 CR1
  obtain ⟨x0, x1, x2⟩ := id X6
  have n4 : ¬ W < T1 := by omega
  by_cases h0 : i = 0
  · subst h0
    go_wp2
    go_ret
    exact ⟨rfl, HB6⟩
  · have hlt : W < runT (sqs ⟨u, d, (i : Int)⟩ zs) := by
      rcases hR2 with h | h
      · exact absurd h h0
      · exact h
    have CR2 := CR (i : Int) w6 I6
    replace CR2 : Calls Try.prog 20 #[.agg #[.int .i64 u, .int .i64 d, .int .i64 (i : Int)], .slice ao zs.length cp] w6 fun e w' => e = .returned (.int .i64 (runT (sqs ⟨u, d, (i : Int)⟩ zs))) ∧ Below w6.heap.size w6 w' := CR2
    clear hR2
    generalize runT (sqs ⟨u, d, (i : Int)⟩ zs) = T2 at *
    have n5 : ¬ (i : Int) + 1 = 1 := by omega
    go_wp2_with fail
    refine CR2.mono ?_
    rintro e w7 ⟨rfl, hb⟩
    have HB7 := btrans HB6 hb
    clear HB6 hb CR2 X6 I6 x0 x1 x2
    go_wp2
    go_ret
    exact ⟨ret_bool (by rw [← hW.out]; simp [hlt]), HB7⟩
end Go.Proofs.Ytnhcmjfmfgoakaa
