/- Is this a train of cars. -/
import Derived.Test.YtcadgafenbmihabE
import Derived.Test.YtcadgafenbmihabPM
namespace Go.Proofs.Ytcadgafenbmihab
open Go.RowKit Fl

attribute [local go_sem] run_store_float


set_option maxHeartbeats 400000 in
theorem c67 (n : Nat) (w : World) : Calls Try.prog 31 #[.int .i64 n, .int .i64 1, .int .i64 40] w fun e w' => e = .returned (.bool (lenOk n)) ∧ w' = w := by
  have E : Hid (lenOk n = decide (1 ≤ (n : Int) ∧ (n : Int) ≤ 40)) := rfl
  generalize lenOk n = r at *
  by_cases h1 : 1 ≤ (n : Int)
  · by_cases h2 : (n : Int) ≤ 40
    · go_enter Try.func31, Try.ntmps31
      go_wp2
      go_ret
      exact ⟨ret_bool (by rw [E.out]; symm; simp; omega), rfl⟩
    · go_enter Try.func31, Try.ntmps31
      go_wp2
      go_ret
      exact ⟨ret_bool (by rw [E.out]; symm; simp; omega), rfl⟩
  · go_enter Try.func31, Try.ntmps31
    go_wp2
    go_ret
    exact ⟨ret_bool (by rw [E.out]; symm; simp; omega), rfl⟩

set_option maxHeartbeats 400000 in
theorem c68 (n : Nat) (w : World) : Calls Try.prog 27 #[.int .i64 n, .int .i64 1, .int .i64 40] w fun e w' => e = .returned (.bool (lenOk n)) ∧ w' = w := by
  have E : Hid (lenOk n = decide (1 ≤ (n : Int) ∧ (n : Int) ≤ 40)) := rfl
  generalize lenOk n = r at *
  by_cases h1 : 1 ≤ (n : Int)
  · by_cases h2 : (n : Int) ≤ 40
    · go_enter Try.func27, Try.ntmps27
      go_wp2
      go_ret
      exact ⟨ret_bool (by rw [E.out]; symm; simp; omega), rfl⟩
    · go_enter Try.func27, Try.ntmps27
      go_wp2
      go_ret
      exact ⟨ret_bool (by rw [E.out]; symm; simp; omega), rfl⟩
  · go_enter Try.func27, Try.ntmps27
    go_wp2
    go_ret
    exact ⟨ret_bool (by rw [E.out]; symm; simp; omega), rfl⟩

set_option maxHeartbeats 1600000 in
theorem c55 (a : Option Addr) (cap : Nat) (es : List CarV) (w : World) (he : Cars w a es) (hl : es.length ≤ 1048576) :
    Calls Try.prog 21 #[.slice a es.length cap] w fun e w' => e = .returned (.bool (trainOk es)) ∧ Below w.heap.size w w' := by
  have TB : ∀ k (hk : k < es.length), carOk es[k] = false → trainOk es = false := fun k hk => train_bad hk
  have TA : okTo es es.length = true → trainOk es = lenOk es.length := train_all
  generalize trainOk es = r at *
  go_enter Try.func21, Try.ntmps21
  go_wp2
  go_loopw [3] (fun i wr => ∃ k : Nat, k ≤ es.length ∧ okTo es k = true ∧ i = .int .i64 k ∧ Below w.heap.size w wr) (fun i _ => es.length - (intOf i).toNat)
  case atStart => exact ⟨0, Nat.zero_le _, rfl, rfl, Below.refl _ _⟩
  case round =>
    obtain ⟨k, hk, hgo, rfl, hb⟩ := hrel
    by_cases hlt : k < es.length
    · rcases he with he | ⟨b, off, rfl, hc⟩
      · simp [he] at hlt
      obtain ⟨q0, q1, q2, q3⟩ := hc k hlt
      have p0 := ble hb q0
      have p1 := ble hb q1
      have p2 := ble hb q2
      have p3 := ble hb q3
      have hbs := cell_lt q0
      clear hc q0 q1 q2 q3
      cases hcar : carOk es[k]
      · have R := hide (TB k hlt hcar)
        go_wp2_with fail
        refine (c17 es[k] _).mono ?_
        rintro e w1 ⟨rfl, hb1⟩
        rw [hcar]
        have HB1 := btrans hb hb1
        clear hb hb1
        go_wp2
        go_ret
        exact ⟨ret_bool R.out.symm, HB1⟩
      · have hg2 := okTo_succ hlt hgo hcar
        go_wp2_with fail
        refine (c17 es[k] _).mono ?_
        rintro e w1 ⟨rfl, hb1⟩
        rw [hcar]
        have HB1 := btrans hb hb1
        clear hb hb1
        go_wp2
        go_roundw
        case rel => exact ⟨k + 1, by omega, hg2, by go_num, HB1⟩
        case measure => simp [intOf]; omega
    · obtain rfl : k = es.length := by omega
      have R := hide (TA hgo)
      go_wp2_with fail
      refine (c67 _ _).mono ?_
      rintro e w1 ⟨rfl, hw⟩
      subst hw
      go_wp2
      go_ret
      exact ⟨ret_bool R.out.symm, hb⟩

set_option maxHeartbeats 1600000 in
theorem c69 (a : Option Addr) (cap : Nat) (es : List CarV) (w : World) (he : Cars w a es) (hl : es.length ≤ 1048576) :
    Calls Try.prog 28 #[.slice a es.length cap, .func (.func 29) #[] #[]] w fun e w' => e = .returned (.bool (okTo es es.length)) ∧ Below w.heap.size w w' := by
  have TB : ∀ k (hk : k < es.length), carOk es[k] = false → okTo es es.length = false := fun k hk => okTo_bad hk
  have E : Hid (okTo es es.length = okTo es es.length) := rfl
  generalize hr : okTo es es.length = r at E TB ⊢
  have hr := hide hr
  go_enter Try.func28, Try.ntmps28
  go_wp2
  go_loopw [6, 9] (fun _ i wr => ∃ k : Nat, k ≤ es.length ∧ okTo es k = true ∧ i = .int .i64 k ∧ Below w.heap.size w wr) (fun _ i _ => es.length - (intOf i).toNat)
  case atStart => exact ⟨0, Nat.zero_le _, rfl, rfl, Below.refl _ _⟩
  case round =>
    obtain ⟨k, hk, hgo, rfl, hb⟩ := hrel
    by_cases hlt : k < es.length
    · rcases he with he | ⟨b, off, rfl, hc⟩
      · simp [he] at hlt
      obtain ⟨q0, q1, q2, q3⟩ := hc k hlt
      have p0 := ble hb q0
      have p1 := ble hb q1
      have p2 := ble hb q2
      have p3 := ble hb q3
      have hbs := cell_lt q0
      clear hc q0 q1 q2 q3
      have HA := btrans hb (balloc wr (.cells #[.float .f64 es[k].m, .float .f64 es[k].a, .float .f64 es[k].b, .float .f64 es[k].c] 38))
      cases hcar : carOk es[k]
      · have R := hide (TB k hlt hcar)
        go_wp2_with fail
        refine (c19 es[k] _).mono ?_
        rintro e w1 ⟨rfl, hb1⟩
        rw [hcar]
        have HB1 := btrans HA hb1
        clear hb hb1 HA
        go_wp2
        go_ret
        exact ⟨ret_bool R.out.symm, HB1⟩
      · have hg2 := okTo_succ hlt hgo hcar
        go_wp2_with fail
        refine (c19 es[k] _).mono ?_
        rintro e w1 ⟨rfl, hb1⟩
        rw [hcar]
        have HB1 := btrans HA hb1
        clear hb hb1 HA
        go_wp2
        go_roundw
        case rel => exact ⟨k + 1, by omega, hg2, by go_num, HB1⟩
        case measure => simp [intOf]; omega
    · obtain rfl : k = es.length := by omega
      go_wp2
      go_ret
      exact ⟨ret_bool (by rw [← hr.out, hgo]), hb⟩

set_option maxHeartbeats 1600000 in
theorem c56 (a : Option Addr) (cap : Nat) (es : List CarV) (w : World) (he : Cars w a es) (hl : es.length ≤ 1048576) :
    Calls Try.prog 15 #[.slice a es.length cap] w fun e w' => e = .returned (.bool (trainOk es)) ∧ Below w.heap.size w w' := by
  have E : Hid (trainOk es = (lenOk es.length && okTo es es.length)) := rfl
  generalize trainOk es = r at *
  cases hn : lenOk es.length
  · rw [hn] at E
    go_enter Try.func15, Try.ntmps15
    go_wp2_with fail
    refine (c68 _ _).mono ?_
    rintro e w1 ⟨rfl, hw⟩
    subst hw
    rw [hn]
    go_wp2
    go_ret
    exact ⟨ret_bool E.out.symm, Below.refl _ _⟩
  · rw [hn] at E
    go_enter Try.func15, Try.ntmps15
    go_wp2_with fail
    refine (c68 _ _).mono ?_
    rintro e w1 ⟨rfl, hw⟩
    subst hw
    rw [hn]
    go_wp2_with fail
    refine (c69 a cap es _ he hl).mono ?_
    rintro e w1 ⟨rfl, hb⟩
    generalize okTo es es.length = r2 at *
    go_wp2
    go_ret
    exact ⟨ret_bool (by rw [E.out]; simp), hb⟩

end Go.Proofs.Ytcadgafenbmihab
