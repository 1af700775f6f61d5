/- Mass and drag of a train. -/
import Derived.Test.YtcadgafenbmihabG
namespace Go.Proofs.Ytcadgafenbmihab
open Go.RowKit Fl

attribute [local go_sem] run_store_float

theorem weigh_no {es : List CarV} (h : trainOk es = false) : weigh es = 0 := by unfold weigh; rw [h]; rfl
theorem weigh_yes {es : List CarV} (h : trainOk es = true) : weigh es = weighFrom 0 es := by unfold weigh; rw [h]; rfl
theorem drag_yes {es : List CarV} {v sl : Nat} (h : trainOk es = true) (h2 : spd v = true) (h3 : slp sl = true) : drag es v sl = dragFrom v sl 0 es := by unfold drag; rw [h, h2, h3]; rfl
theorem drag_no {es : List CarV} {v sl : Nat} (h : (trainOk es && spd v && slp sl) = false) : drag es v sl = 0 := by unfold drag; rw [h]; rfl

set_option maxHeartbeats 1600000 in
theorem c33 (a : Option Addr) (cap : Nat) (es : List CarV) (v sl : Nat) (w : World) (he : Cars w a es) (hl : es.length ≤ 1048576) :
    Calls Try.prog 24 #[.slice a es.length cap, .float .f64 v, .float .f64 sl] w fun e w' => e = .returned (.float .f64 (drag es v sl)) ∧ Below w.heap.size w w' := by
  have hs' : inR sl km1 k1 = slp sl := rfl
  cases ht : trainOk es
  · have R := hide (drag_no (v := v) (sl := sl) (by rw [ht]; rfl))
    generalize drag es v sl = r at *
    clear hs'
    go_enter Try.func24, Try.ntmps24
    go_wp2_with fail
    refine (c55 a cap es _ he hl).mono ?_
    rintro e w1 ⟨rfl, hb0⟩
    rw [ht]
    go_wp2
    go_ret
    exact ⟨ret_fl R.out.symm, hb0⟩
  cases hv : spd v
  · have R := hide (drag_no (es := es) (sl := sl) (by rw [ht, hv]; rfl))
    generalize drag es v sl = r at *
    clear hs'
    go_enter Try.func24, Try.ntmps24
    go_wp2_with fail
    refine (c55 a cap es _ he hl).mono ?_
    rintro e w1 ⟨rfl, hb0⟩
    rw [ht]
    go_wp2_with fail
    refine (c52 _ _).mono ?_
    rintro e w2 ⟨rfl, hw⟩
    subst hw
    rw [hv]
    go_wp2
    go_ret
    exact ⟨ret_fl R.out.symm, hb0⟩
  cases hs : slp sl
  · have R := hide (drag_no (es := es) (v := v) (by rw [ht, hv, hs]; rfl))
    generalize drag es v sl = r at *
    rw [hs] at hs'
    go_enter Try.func24, Try.ntmps24
    go_wp2_with fail
    refine (c55 a cap es _ he hl).mono ?_
    rintro e w1 ⟨rfl, hb0⟩
    rw [ht]
    go_wp2_with fail
    refine (c52 _ _).mono ?_
    rintro e w2 ⟨rfl, hw⟩
    subst hw
    rw [hv]
    go_wp2_with fail
    refine (c15 sl km1 k1 _).mono ?_
    rintro e w3 ⟨rfl, hw⟩
    subst hw
    rw [hs']
    go_wp2
    go_ret
    exact ⟨ret_fl R.out.symm, hb0⟩
  have WS : ∀ k (hk : k < es.length), _ := fun k hk => drag_step (v := v) ht hs hk
  have R := hide (drag_yes ht hv hs)
  have l2 := (train_len ht).2
  generalize drag es v sl = r at *
  rw [hs] at hs'
  go_enter Try.func24, Try.ntmps24
  go_wp2_with fail
  refine (c55 a cap es _ he hl).mono ?_
  rintro e w1 ⟨rfl, hb0⟩
  rw [ht]
  go_wp2_with fail
  refine (c52 _ _).mono ?_
  rintro e w2 ⟨rfl, hw⟩
  subst hw
  rw [hv]
  go_wp2_with fail
  refine (c15 sl km1 k1 _).mono ?_
  rintro e w3 ⟨rfl, hw⟩
  subst hw
  rw [hs']
  go_wp2
  go_loopw [7, 8, 9] (fun s i _ wr => ∃ k : Nat, k ≤ es.length ∧ i = .int .i64 k ∧ s = .float .f64 (dragFrom v sl 0 (es.take k)) ∧ Below w.heap.size w wr) (fun _ i _ _ => es.length - (intOf i).toNat)
  case atStart => exact ⟨0, Nat.zero_le _, rfl, rfl, hb0⟩
  case round =>
    obtain ⟨k, hk, rfl, rfl, hb⟩ := hrel
    by_cases hlt : k < es.length
    · rcases he with he | ⟨b, off, rfl, hc⟩
      · simp [he] at hlt
      obtain ⟨q0, q1, q2, q3⟩ := hc k hlt
      have p0 := ble hb q0
      have p1 := ble hb q1
      have p2 := ble hb q2
      have p3 := ble hb q3
      have hbs := cell_lt q0
      obtain ⟨u1, u2, u3⟩ := WS k hlt
      have o1 := fop u1
      have o2 := fop u2
      have o3 := fop u3
      clear hc q0 q1 q2 q3 WS R
      have e0 : es.getD k CarV.zero = es[k] := by simp [hlt]
      rw [e0] at p0 p1 p2 p3
      clear e0
      clear u1 u2 u3
      go_wp2_with fail
      refine (c23 es[k] _ _).mono ?_
      rintro e w4 ⟨rfl, hb4⟩
      have HB := btrans hb hb4
      have r0 := ble hb4 p0
      clear p0 p1 p2 p3 hb4
      go_wp2
      go_roundw
      case rel => exact ⟨k + 1, by omega, by go_num, rfl, HB⟩
      case measure => simp [intOf]; omega
    · obtain rfl : k = es.length := by omega
      clear WS
      go_wp2
      go_ret
      exact ⟨ret_fl (by first | exact R.out.symm | (rw [List.take_length]; exact R.out.symm)), hb⟩

set_option maxHeartbeats 1600000 in
theorem c34 (a : Option Addr) (cap : Nat) (es : List CarV) (v sl : Nat) (w : World) (he : Cars w a es) (hl : es.length ≤ 1048576) :
    Calls Try.prog 9 #[.slice a es.length cap, .float .f64 v, .float .f64 sl] w fun e w' => e = .returned (.float .f64 (drag es v sl)) ∧ Below w.heap.size w w' := by
  have hs' : inR sl km1 k1 = slp sl := rfl
  cases ht : trainOk es
  · have R := hide (drag_no (v := v) (sl := sl) (by rw [ht]; rfl))
    generalize drag es v sl = r at *
    clear hs'
    go_enter Try.func9, Try.ntmps9
    go_wp2_with fail
    refine (c56 a cap es _ he hl).mono ?_
    rintro e w1 ⟨rfl, hb0⟩
    rw [ht]
    go_wp2
    go_ret
    exact ⟨ret_fl R.out.symm, hb0⟩
  cases hv : spd v
  · have R := hide (drag_no (es := es) (sl := sl) (by rw [ht, hv]; rfl))
    generalize drag es v sl = r at *
    clear hs'
    go_enter Try.func9, Try.ntmps9
    go_wp2_with fail
    refine (c56 a cap es _ he hl).mono ?_
    rintro e w1 ⟨rfl, hb0⟩
    rw [ht]
    go_wp2_with fail
    refine (c53 _ _).mono ?_
    rintro e w2 ⟨rfl, hw⟩
    subst hw
    rw [hv]
    go_wp2
    go_ret
    exact ⟨ret_fl R.out.symm, hb0⟩
  cases hs : slp sl
  · have R := hide (drag_no (es := es) (v := v) (by rw [ht, hv, hs]; rfl))
    generalize drag es v sl = r at *
    rw [hs] at hs'
    go_enter Try.func9, Try.ntmps9
    go_wp2_with fail
    refine (c56 a cap es _ he hl).mono ?_
    rintro e w1 ⟨rfl, hb0⟩
    rw [ht]
    go_wp2_with fail
    refine (c53 _ _).mono ?_
    rintro e w2 ⟨rfl, hw⟩
    subst hw
    rw [hv]
    go_wp2_with fail
    refine (c58 _ _).mono ?_
    rintro e w3 ⟨rfl, hw⟩
    subst hw
    rw [hs]
    go_wp2
    go_ret
    exact ⟨ret_fl R.out.symm, hb0⟩
  have WS : ∀ k (hk : k < es.length), _ := fun k hk => drag_step (v := v) ht hs hk
  have R := hide (drag_yes ht hv hs)
  have l2 := (train_len ht).2
  generalize drag es v sl = r at *
  rw [hs] at hs'
  go_enter Try.func9, Try.ntmps9
  go_wp2_with fail
  refine (c56 a cap es _ he hl).mono ?_
  rintro e w1 ⟨rfl, hb0⟩
  rw [ht]
  go_wp2_with fail
  refine (c53 _ _).mono ?_
  rintro e w2 ⟨rfl, hw⟩
  subst hw
  rw [hv]
  go_wp2_with fail
  refine (c58 _ _).mono ?_
  rintro e w3 ⟨rfl, hw⟩
  subst hw
  rw [hs]
  go_wp2
  go_loopw [7, 9, 25] (fun s _ i wr => ∃ k : Nat, k ≤ es.length ∧ i = .int .i64 k ∧ s = .float .f64 (dragFrom v sl 0 (es.take k)) ∧ Below w.heap.size w wr) (fun _ _ i _ => es.length - (intOf i).toNat)
  case atStart => exact ⟨0, Nat.zero_le _, rfl, rfl, hb0⟩
  case round =>
    obtain ⟨k, hk, rfl, rfl, hb⟩ := hrel
    by_cases hlt : k < es.length
    · rcases he with he | ⟨b, off, rfl, hc⟩
      · simp [he] at hlt
      obtain ⟨q0, q1, q2, q3⟩ := hc k hlt
      have p0 := ble hb q0
      have p1 := ble hb q1
      have p2 := ble hb q2
      have p3 := ble hb q3
      have hbs := cell_lt q0
      obtain ⟨u1, u2, u3⟩ := WS k hlt
      have o1 := fop u1
      have o2 := fop u2
      have o3 := fop u3
      clear hc q0 q1 q2 q3 WS R
      have e0 : es.getD k CarV.zero = es[k] := by simp [hlt]
      rw [e0] at p0 p1 p2 p3
      clear e0
      clear u1 u3
      have HA := btrans hb (balloc wr (.cells #[.float .f64 es[k].m, .float .f64 es[k].a, .float .f64 es[k].b, .float .f64 es[k].c] 38))
      go_wp2_with fail
      refine (c24 es[k] _ _).mono ?_
      rintro e w4 ⟨rfl, hb4⟩
      have HB := btrans HA hb4
      have X := Bx4.mk hb4
      clear hb4 HA
      obtain ⟨b0, b1, b2, b3⟩ := X
      dsimp only at b0 b1 b2 b3
      go_wp2_with fail
      refine (c54 _ _ _ _ u2).mono ?_
      rintro e w5 ⟨rfl, hw⟩
      subst hw
      clear u2
      go_wp2
      go_roundw
      case rel => exact ⟨k + 1, by omega, by go_num, rfl, HB⟩
      case measure => simp [intOf]; omega
    · obtain rfl : k = es.length := by omega
      clear WS
      go_wp2
      go_ret
      exact ⟨ret_fl (by first | exact R.out.symm | (rw [List.take_length]; exact R.out.symm)), hb⟩

end Go.Proofs.Ytcadgafenbmihab
