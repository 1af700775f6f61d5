/- Fed of program and model. -/
import Derived.Test.YtapnidhokpkmdaaZH
namespace Go.Proofs.Ytapnidhokpkmdaa
open Go.RowKit Fl
attribute [local go_sem] run_store_float
theorem cZSizeI2 (a b : Nat) (w : World) : Calls Try.prog 23 #[.agg #[.float .f64 a, .float .f64 b]] w fun e w' => ∃ r, e = .returned (.float .f64 r) ∧ cl r = zsize (ZV.c ⟨a, b⟩) ∧ Below w.heap.size w w' := cZSizeI ⟨a, b⟩ w
theorem ge_cl (x y : Nat) : (FloatKind.f64.format.order x y == some .gt || FloatKind.f64.format.order x y == some .eq) = geZ (cl x) (cl y) := by rw [order_cl]; rfl
def feds (q : Option Nat) (es : List ZV) (k : Nat) : Bool := (es.take k).all (fun z => geZ (zsize z.c) q)
theorem feds_zero (q : Option Nat) (es : List ZV) : feds q es 0 = true := by simp [feds]
theorem feds_step {q : Option Nat} {es : List ZV} {k : Nat} (hk : k < es.length) (h : feds q es k = true) (g : geZ (zsize (es.getD k ZV.zero).c) q = true) : feds q es (k + 1) = true := by
  have e : es.getD k ZV.zero = es[k] := by simp [List.getD, hk]
  rw [e] at g
  exact all_step hk h g
theorem feds_bad {q : Option Nat} {es : List ZV} {k : Nat} (hk : k < es.length) (g : geZ (zsize (es.getD k ZV.zero).c) q = false) : es.all (fun z => geZ (zsize z.c) q) = false := by
  have e : es.getD k ZV.zero = es[k] := by simp [List.getD, hk]
  rw [e] at g
  exact all_bad hk g
theorem feds_all {q : Option Nat} {es : List ZV} (h : feds q es es.length = true) : es.all (fun z => geZ (zsize z.c) q) = true := by
  unfold feds at h
  rwa [List.take_length] at h
theorem fedB_cs (q : Option Nat) (es : List ZV) : fedB q (cs es) = (decide (es.length ≤ 40) && es.all (fun z => geZ (zsize z.c) q)) := by
  unfold fedB
  rw [cs_len]
  simp [cs, List.all_map, Function.comp_def]

set_option maxHeartbeats 1600000 in
theorem cFedC (b x y q : Nat) (w : World) (hq : w.cell? ⟨b, 0, none⟩ = some (.float .f64 q)) : Calls Try.prog 67 #[.agg #[.float .f64 x, .float .f64 y], .pointer (some ⟨b, 0, none⟩)] w fun e w' => e = .returned (.bool (geZ (zsize (ZV.c ⟨x, y⟩)) (cl q))) ∧ Below w.heap.size w w' := by
  have hb0 := balloc w (.cells #[.float .f64 x, .float .f64 y] 26)
  have K := one_block w (.cells #[.float .f64 x, .float .f64 y] 26)
  have h1 := ble hb0 hq
  obtain ⟨⟨c0, c1⟩, -⟩ := twoC K
  go_enter Try.func67, Try.ntmps67
  go_wp2_with fail
  generalize w.alloc (.cells #[.float .f64 x, .float .f64 y] 26) = v at *
  go_region_with (go_at_call 23; refine (cZSizeI2 x y _).mono ?_; rintro e w5 ⟨s5, rfl, h5, hb5⟩; have B5 := undrew hb5; have h2 := ble B5 h1)
  all_goals go_wp2
  all_goals go_ret
  all_goals exact ⟨ret_bool (by rw [← h5, ← ge_cl]), btrans hb0 B5⟩

set_option maxRecDepth 20000 in
set_option maxHeartbeats 3200000 in
theorem cAllFed (b q : Nat) (a : Option Addr) (cap : Nat) (es : List ZV) (w : World) (he : Zs w a es) (hl : es.length ≤ 40) (hq : w.cell? ⟨b, 0, none⟩ = some (.float .f64 q)) :
    Calls Try.prog 66 #[.slice a es.length cap, .func (.func 67) #[] #[.pointer (some ⟨b, 0, none⟩)]] w fun e w' => e = .returned (.bool (es.all (fun z => geZ (zsize z.c) (cl q)))) ∧ Below w.heap.size w w' := by
  go_enter Try.func66, Try.ntmps66
  go_wp2
  go_loopw [9] (fun i wr => ∃ k : Nat, k ≤ es.length ∧ i = .int .i64 k ∧ feds (cl q) es k = true ∧ Below w.heap.size w wr) (fun i _ => es.length - (intOf i).toNat)
  case atStart => exact ⟨0, Nat.zero_le _, rfl, feds_zero _ _, Below.refl _ _⟩
  case round =>
    obtain ⟨k, hk, rfl, hF, hb⟩ := hrel
    have HF := hide hF
    by_cases hlt : k < es.length
    · rcases he with h | ⟨eb, eo, rfl, q9⟩
      · simp [h] at hlt
      obtain ⟨p0, p1⟩ := q9 k hlt
      replace p0 := ble hb p0
      replace p1 := ble hb p1
      have hq1 := ble hb hq
      have G1 := hide (fun h => feds_step (q := cl q) hlt hF h)
      have G0 := hide (fun h => feds_bad (q := cl q) hlt h)
      clear q9 hF
      generalize es.getD k ZV.zero = z at *
      obtain ⟨x, y⟩ := z
      dsimp only at p0 p1
      have hb0 := balloc wr (.cells #[.float .f64 x, .float .f64 y] 26)
      have hq2 := ble hb0 hq1
      go_wp2_with fail
      refine (cFedC b x y q _ hq2).mono ?_
      rintro e w5 ⟨rfl, hb5⟩
      have HB5 := btrans (btrans hb hb0) hb5
      cases hg : geZ (zsize (ZV.c ⟨x, y⟩)) (cl q)
      · have hA := hide (G0.out hg)
        clear G0 G1 hg
        go_wp2
        go_ret
        exact ⟨ret_bool hA.out.symm, HB5⟩
      · have hA := G1.out hg
        clear G0 G1 hg
        go_wp2
        go_roundw
        case rel => exact ⟨k + 1, by omega, by go_num, hA, HB5⟩
        case measure => simp [intOf]; omega
    · obtain rfl : k = es.length := by omega
      have hA := hide (feds_all hF)
      clear hF HF he
      go_wp2
      go_ret
      exact ⟨ret_bool hA.out.symm, hb⟩

set_option maxRecDepth 20000 in
set_option maxHeartbeats 3200000 in
theorem cFedI (a : Option Addr) (cap : Nat) (es : List ZV) (l : Nat) (w : World) (he : Zs w a es) (hl : es.length ≤ maxLen) :
    Calls Try.prog 26 #[.slice a es.length cap, .float .f64 l] w fun e w' => e = .returned (.bool (fedB (zo .mul (cl l) (cl l)) (cs es))) ∧ Below w.heap.size w w' := by
  unfold maxLen at hl
  rw [fedB_cs]
  by_cases h40 : 40 < es.length
  · have h41 : (40 : Int) < es.length := by omega
    rw [show decide (es.length ≤ 40) = false by simp; omega, Bool.false_and]
    go_enter Try.func26, Try.ntmps26
    go_wp2
    go_ret
    exact ⟨rfl, Below.refl _ _⟩
  have h41 : ¬ (40 : Int) < es.length := by omega
  rw [show decide (es.length ≤ 40) = true by simp; omega, Bool.true_and]
  have h42 : es.length ≤ 40 := by omega
  clear h40
  have CT := fun w1 => cTimes l l w1
  generalize zo .mul (cl l) (cl l) = Q at *
  go_enter Try.func26, Try.ntmps26
  go_wp2_with fail
  refine (CT _).mono ?_
  rintro e w1 ⟨q, m, rfl, hq, hw1⟩
  subst w1
  subst hq
  clear CT
  have hbd := Go.Joins.below_draws w.heap.size w m
  generalize w.drewN m = v at *
  have hb0 := btrans hbd (balloc v (.cells #[.float .f64 q] 24))
  have hc : (v.alloc (.cells #[.float .f64 q] 24)).cell? ⟨v.heap.size, 0, none⟩ = some (.float .f64 q) := Go.Joins.cell_of_block (one_block v (.cells #[.float .f64 q] 24)) 0
  have CA := cAllFed v.heap.size q a cap es _ (he.below hb0) h42 hc
  clear hc
  go_wp2_with fail
  refine CA.mono ?_
  rintro e w2 ⟨rfl, hb2⟩
  have HB := btrans hb0 hb2
  clear hb0 hb2 CA
  go_wp2
  go_ret
  exact ⟨rfl, HB⟩

set_option maxRecDepth 20000 in
set_option maxHeartbeats 3200000 in
theorem cFedS (a : Option Addr) (cap : Nat) (es : List ZV) (l : Nat) (w : World) (he : Zs w a es) (hl : es.length ≤ maxLen) :
    Calls Try.prog 48 #[.slice a es.length cap, .float .f64 l] w fun e w' => e = .returned (.bool (fedB (zo .mul (cl l) (cl l)) (cs es))) ∧ Below w.heap.size w w' := by
  unfold maxLen at hl
  rw [fedB_cs]
  have N := fmul_run
  have hq := cl_fr .mul l l w
  rw [← hq]
  clear hq
  generalize hp : fr .mul l l w = q
  have N1 := fun t => N l l t w
  rw [hp] at N1
  clear N hp
  go_enter Try.func48, Try.ntmps48
  go_wp2
  clear N1
  generalize nd BinOp.mul l l = m
  have hb0 := Go.Joins.below_draws w.heap.size w m
  generalize w.drewN m = v at *
  go_loopw [6] (fun i wr => ∃ k : Nat, k ≤ es.length ∧ k ≤ 41 ∧ i = .int .i64 k ∧ feds (cl q) es k = true ∧ Below w.heap.size w wr) (fun i _ => es.length - (intOf i).toNat)
  case atStart => exact ⟨0, Nat.zero_le _, Nat.zero_le _, rfl, feds_zero _ _, hb0⟩
  case round =>
    obtain ⟨k, hk, hk41, rfl, hF, hb⟩ := hrel
    clear hb0
    have HF := hide hF
    by_cases hlt : k < es.length
    · by_cases hk4 : k ≤ 40
      · rcases he with h | ⟨eb, eo, rfl, q9⟩
        · simp [h] at hlt
        obtain ⟨p0, p1⟩ := q9 k hlt
        replace p0 := ble hb p0
        replace p1 := ble hb p1
        have G1 := hide (fun h => feds_step (q := cl q) hlt hF h)
        have G0 := hide (fun h => feds_bad (q := cl q) hlt h)
        have k40 : (k : Int) ≤ 40 := by omega
        clear q9 hF
        generalize es.getD k ZV.zero = z at *
        obtain ⟨x, y⟩ := z
        dsimp only at p0 p1
        go_wp2_with fail
        refine (cZSizeS2 x y _).mono ?_
        rintro e w5 ⟨s5, rfl, h5, hb5⟩
        have HB5 := btrans hb hb5
        cases hg : geZ (zsize (ZV.c ⟨x, y⟩)) (cl q)
        · have hA := hide (G0.out hg)
          rw [← h5, ← ge_cl] at hg
          clear G0 G1
          go_wp2
          go_ret
          exact ⟨ret_bool (by rw [hA.out, Bool.and_false]), HB5⟩
        · have hA := G1.out hg
          rw [← h5, ← ge_cl] at hg
          clear G0 G1
          go_wp2
          go_roundw
          case rel => exact ⟨k + 1, by omega, by omega, by go_num, hA, HB5⟩
          case measure => simp [intOf]; omega
      · have k40 : ¬ (k : Int) ≤ 40 := by omega
        have k41 : ¬ (es.length : Int) ≤ 40 := by omega
        have k42 : Hid (decide (es.length ≤ 40) = false) := hide (by simp; omega)
        clear hF HF he
        go_wp2
        go_ret
        exact ⟨ret_bool (by rw [k42.out, Bool.false_and]), hb⟩
    · obtain rfl : k = es.length := by omega
      have hA := hide (feds_all hF)
      clear hF HF he
      by_cases h40 : es.length ≤ 40
      · have k41 : (es.length : Int) ≤ 40 := by omega
        have k42 : Hid (decide (es.length ≤ 40) = true) := hide (by simp; omega)
        go_wp2
        go_ret
        exact ⟨ret_bool (by rw [k42.out, hA.out]; rfl), hb⟩
      · have k41 : ¬ (es.length : Int) ≤ 40 := by omega
        go_wp2
        go_ret
        exact ⟨ret_bool rfl, hb⟩
end Go.Proofs.Ytapnidhokpkmdaa
