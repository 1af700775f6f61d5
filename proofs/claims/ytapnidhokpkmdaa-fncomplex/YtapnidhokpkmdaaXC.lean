/- The walk of FnComplex. -/
import Derived.Test.YtapnidhokpkmdaaWZ
import Derived.Test.YtapnidhokpkmdaaFD
import Derived.Test.YtapnidhokpkmdaaDK
import Derived.Deep.Cut
namespace Go.Proofs.Ytapnidhokpkmdaa
open Go.RowKit Fl
attribute [local go_sem] run_store_float
theorem cZs2 (a b : Nat) (w : World) : Calls Try.prog 23 #[.agg #[.float .f64 a, .float .f64 b]] w fun e w' => ∃ r, e = .returned (.float .f64 r) ∧ cl r = zsize (ZV.c ⟨a, b⟩) ∧ Below w.heap.size w w' := cZSizeI ⟨a, b⟩ w
theorem wT (t : Nat) (h : t < 8) : wrap64 ((2 : Int) ^ t) = ((2 ^ t : Nat) : Int) := by
  have e : (2 : Int) ^ t = ((2 ^ t : Nat) : Int) := by simp
  have h9 : 2 ^ t ≤ 2 ^ 7 := Nat.pow_le_pow_right (by decide) (by omega)
  rw [e]
  generalize 2 ^ t = q at h9 ⊢
  unfold wrap64
  omega
/-- Two products in boxes of their own. -/
def Got2 (W : World) (P Q : C2) (pv qv : Value) (wc : World) : Prop :=
  ∃ (b5 p0 p1 b6 q0 q1 : Nat), pv = .pointer (some ⟨b5, 0, none⟩) ∧ qv = .pointer (some ⟨b6, 0, none⟩) ∧ wc.heap[b5]? = some (.cells #[.float .f64 p0, .float .f64 p1] 26 (0, 0)) ∧ wc.heap[b6]? = some (.cells #[.float .f64 q0, .float .f64 q1] 26 (0, 0)) ∧ ZV.c ⟨p0, p1⟩ = P ∧ ZV.c ⟨q0, q1⟩ = Q ∧ W.heap.size ≤ b5 ∧ W.heap.size ≤ b6 ∧ Below W.heap.size W wc

set_option maxRecDepth 20000 in
set_option maxHeartbeats 12800000 in
theorem walkComplexD (a : Option Addr) (cap : Nat) (bs : List Int) (w : World) (hz : Bytes w a bs) (hn : bs.length ≤ maxLen) :
    Calls Try.prog 4 #[.slice a bs.length cap] w fun e w' => e = .returned (.bool true) ∧ Below w.heap.size w w' := by
  go_enter Try.func4, Try.ntmps4
  go_wp2_with fail
  refine (cbig a cap bs.length _ hn).mono ?_
  rintro e w1 ⟨rfl, hw⟩
  subst w1
  by_cases hB : 1048576 < bs.length
  · rw [decide_eq_true hB]
    go_wp2
    go_ret
    exact ⟨rfl, Below.refl _ _⟩
  rw [decide_eq_false hB]
  have hl : bs.length ≤ 1048576 := by omega
  clear hB
  have CA := hide (fun (k : Nat) (hk : k ≤ 100000) (w1 : World) (h : Below w.heap.size w w1) => cat a cap bs k w1 (hz.below h) hl hk)
  have RA := hide (fun k => atZ_in hz k)
  have HB := Below.refl w.heap.size w
  have C0 := fun w1 h => CA.out 0 (by omega) w1 h
  have R0 := RA.out 0
  generalize atZ bs 0 = z0 at *
  have e0 : IntKind.i64.wrap (z0 - 128) = z0 - 128 := wrap_in _ (by omega) (by omega)
  obtain ⟨a0, Da0, Q0⟩ := quoD Dq4 (by decide) (n := z0 - 128) (by omega)
  go_wp2_with fail
  refine (C0 _ HB).mono ?_
  rintro e w1 ⟨rfl, hw⟩
  subst w1
  clear C0
  have C1 := fun w1 h => CA.out 1 (by omega) w1 h
  have R1 := RA.out 1
  generalize atZ bs 1 = z1 at *
  have e1 : IntKind.i64.wrap (z1 - 128) = z1 - 128 := wrap_in _ (by omega) (by omega)
  obtain ⟨a1, Da1, Q1⟩ := quoD Dq4 (by decide) (n := z1 - 128) (by omega)
  go_wp2_with fail
  refine (C1 _ HB).mono ?_
  rintro e w1 ⟨rfl, hw⟩
  subst w1
  clear C1
  have HB1 := btrans HB (balloc w (.cells #[.float .f64 a0, .float .f64 a1] 26))
  clear HB
  have HB := HB1
  clear HB1
  have C2 := fun w1 h => CA.out 2 (by omega) w1 h
  have R2 := RA.out 2
  generalize atZ bs 2 = z2 at *
  have e2 : IntKind.i64.wrap (z2 - 128) = z2 - 128 := wrap_in _ (by omega) (by omega)
  obtain ⟨b0, Db0, Q2⟩ := quoD Dq4 (by decide) (n := z2 - 128) (by omega)
  go_wp2_with fail
  refine (C2 _ HB).mono ?_
  rintro e w1 ⟨rfl, hw⟩
  subst w1
  clear C2
  have C3 := fun w1 h => CA.out 3 (by omega) w1 h
  have R3 := RA.out 3
  generalize atZ bs 3 = z3 at *
  have e3 : IntKind.i64.wrap (z3 - 128) = z3 - 128 := wrap_in _ (by omega) (by omega)
  obtain ⟨b1, Db1, Q3⟩ := quoD Dq4 (by decide) (n := z3 - 128) (by omega)
  go_wp2_with fail
  refine (C3 _ HB).mono ?_
  rintro e w1 ⟨rfl, hw⟩
  subst w1
  clear C3
  obtain ⟨KA, KB⟩ := twoB w (.cells #[.float .f64 a0, .float .f64 a1] 26) (.cells #[.float .f64 b0, .float .f64 b1] 26)
  have HB2 := btrans HB (balloc _ (.cells #[.float .f64 b0, .float .f64 b1] 26))
  clear HB
  go_upto_region 5 with fail
  generalize hba : w.heap.size = ba at KA KB ⊢
  generalize hbb : ba + 1 = bb at KB ⊢
  have HD := hide (show Dz 2 (z0 - 128) (cl a0) ∧ Dz 2 (z1 - 128) (cl a1) ∧ Dz 2 (z2 - 128) (cl b0) ∧ Dz 2 (z3 - 128) (cl b1) from ⟨Da0.cl, Da1.cl, Db0.cl, Db1.cl⟩)
  generalize (w.alloc (.cells #[.float .f64 a0, .float .f64 a1] 26)).alloc (.cells #[.float .f64 b0, .float .f64 b1] 26) = v at *
  clear hba hbb Q0 Q1 Q2 Q3 e0 e1 e2 e3 Da0 Da1 Db0 Db1
  obtain ⟨⟨u0, u1⟩, -⟩ := twoC KA
  obtain ⟨⟨u2, u3⟩, -⟩ := twoC KB
  go_cut [5, 6] from 36 (fun pv qv wc => Got2 v (zmul (ZV.c ⟨a0, a1⟩) (ZV.c ⟨b0, b1⟩)) (zmul (ZV.c ⟨b0, b1⟩) (ZV.c ⟨a0, a1⟩)) pv qv wc)
  case first => as_aux_lemma =>
    refine wp_region_held_drew (S := (fun w' => w'.cell? ⟨ba, 0, none⟩ = some (.float .f64 a0) ∧ w'.cell? ⟨ba, 1, none⟩ = some (.float .f64 a1) ∧ w'.cell? ⟨bb, 0, none⟩ = some (.float .f64 b0) ∧ w'.cell? ⟨bb, 1, none⟩ = some (.float .f64 b1))) (by kernel_rfl) ?_ (fun hHeld => ?_)
    · go_keep
    have B0 : Below v.heap.size v v.drew := (Below.refl _ _).drew
    generalize v.drew = wd at *
    refine wpAnyH_take (i := 0) (v := .agg #[.float .f64 a0, .float .f64 a1]) rfl (by kernel_rfl) (by kernel_rfl) (by kernel_rfl) (fun _ _ _ h => h) (Or.inl ⟨by kernel_rfl, fun w hS => by (obtain ⟨hS0, hS1, hS2, hS3⟩ := hS; go_simp)⟩) hHeld ?_
    change wpAnyH _ _ _ _ _ _ _ { tmps := List.toArray (_ :: _ :: _ :: _ :: _ :: _ :: _ :: _ :: _ :: _ :: _ :: _ :: _ :: _ :: _ :: _ :: _ :: _ :: _ :: _ :: _ :: _ :: _ :: _ :: _ :: _ :: _ :: _ :: _ :: _ :: _ :: _ :: _ :: _ :: _ :: _ :: .agg #[.float .f64 a0, .float .f64 a1] :: _ :: _ :: _ :: _ :: _ :: _ :: _ :: _ :: _ :: _ :: _ :: _ :: _ :: _ :: _ :: _ :: _ :: _ :: _ :: _ :: _ :: _ :: _ :: _ :: _ :: _ :: _ :: _ :: _ :: _ :: _ :: _ :: _ :: _ :: _ :: _ :: _ :: _ :: _ :: _ :: _ :: _ :: _ :: _ :: _ :: _ :: _ :: _ :: _ :: _ :: _ :: _ :: _ :: _ :: _ :: _ :: _ :: _ :: _ :: _ :: _ :: _ :: _ :: _ :: _ :: _ :: _ :: _ :: _ :: _ :: _ :: _ :: _ :: _ :: _ :: _ :: _ :: _ :: _ :: _ :: _ :: _ :: _ :: _ :: _ :: _ :: _ :: _ :: _ :: _ :: _ :: _ :: _ :: _ :: _ :: _ :: _ :: _ :: _ :: _ :: _ :: _ :: _ :: _ :: []), defers := [] } _
    refine wpAnyH_take (i := 1) (v := .agg #[.float .f64 b0, .float .f64 b1]) rfl (by kernel_rfl) (by kernel_rfl) (by kernel_rfl) (fun _ _ _ h => h) (Or.inl ⟨by kernel_rfl, fun w hS => by (obtain ⟨hS0, hS1, hS2, hS3⟩ := hS; go_simp)⟩) hHeld ?_
    change wpAnyH _ _ _ _ _ _ _ { tmps := List.toArray (_ :: _ :: _ :: _ :: _ :: _ :: _ :: _ :: _ :: _ :: _ :: _ :: _ :: _ :: _ :: _ :: _ :: _ :: _ :: _ :: _ :: _ :: _ :: _ :: _ :: _ :: _ :: _ :: _ :: _ :: _ :: _ :: _ :: _ :: _ :: _ :: .agg #[.float .f64 a0, .float .f64 a1] :: .agg #[.float .f64 b0, .float .f64 b1] :: _ :: _ :: _ :: _ :: _ :: _ :: _ :: _ :: _ :: _ :: _ :: _ :: _ :: _ :: _ :: _ :: _ :: _ :: _ :: _ :: _ :: _ :: _ :: _ :: _ :: _ :: _ :: _ :: _ :: _ :: _ :: _ :: _ :: _ :: _ :: _ :: _ :: _ :: _ :: _ :: _ :: _ :: _ :: _ :: _ :: _ :: _ :: _ :: _ :: _ :: _ :: _ :: _ :: _ :: _ :: _ :: _ :: _ :: _ :: _ :: _ :: _ :: _ :: _ :: _ :: _ :: _ :: _ :: _ :: _ :: _ :: _ :: _ :: _ :: _ :: _ :: _ :: _ :: _ :: _ :: _ :: _ :: _ :: _ :: _ :: _ :: _ :: _ :: _ :: _ :: _ :: _ :: _ :: _ :: _ :: _ :: _ :: _ :: _ :: _ :: _ :: _ :: _ :: []), defers := [] } _
    refine wpAnyH_take (i := 3) (v := .agg #[.float .f64 b0, .float .f64 b1]) rfl (by kernel_rfl) (by kernel_rfl) (by kernel_rfl) (fun _ _ _ h => h) (Or.inl ⟨by kernel_rfl, fun w hS => by (obtain ⟨hS0, hS1, hS2, hS3⟩ := hS; go_simp)⟩) hHeld ?_
    change wpAnyH _ _ _ _ _ _ _ { tmps := List.toArray (_ :: _ :: _ :: _ :: _ :: _ :: _ :: _ :: _ :: _ :: _ :: _ :: _ :: _ :: _ :: _ :: _ :: _ :: _ :: _ :: _ :: _ :: _ :: _ :: _ :: _ :: _ :: _ :: _ :: _ :: _ :: _ :: _ :: _ :: _ :: _ :: .agg #[.float .f64 a0, .float .f64 a1] :: .agg #[.float .f64 b0, .float .f64 b1] :: _ :: .agg #[.float .f64 b0, .float .f64 b1] :: _ :: _ :: _ :: _ :: _ :: _ :: _ :: _ :: _ :: _ :: _ :: _ :: _ :: _ :: _ :: _ :: _ :: _ :: _ :: _ :: _ :: _ :: _ :: _ :: _ :: _ :: _ :: _ :: _ :: _ :: _ :: _ :: _ :: _ :: _ :: _ :: _ :: _ :: _ :: _ :: _ :: _ :: _ :: _ :: _ :: _ :: _ :: _ :: _ :: _ :: _ :: _ :: _ :: _ :: _ :: _ :: _ :: _ :: _ :: _ :: _ :: _ :: _ :: _ :: _ :: _ :: _ :: _ :: _ :: _ :: _ :: _ :: _ :: _ :: _ :: _ :: _ :: _ :: _ :: _ :: _ :: _ :: _ :: _ :: _ :: _ :: _ :: _ :: _ :: _ :: _ :: _ :: _ :: _ :: _ :: _ :: _ :: _ :: _ :: _ :: _ :: []), defers := [] } _
    refine wpAnyH_take (i := 4) (v := .agg #[.float .f64 a0, .float .f64 a1]) rfl (by kernel_rfl) (by kernel_rfl) (by kernel_rfl) (fun _ _ _ h => h) (Or.inl ⟨by kernel_rfl, fun w hS => by (obtain ⟨hS0, hS1, hS2, hS3⟩ := hS; go_simp)⟩) hHeld ?_
    change wpAnyH _ _ _ _ _ _ _ { tmps := List.toArray (_ :: _ :: _ :: _ :: _ :: _ :: _ :: _ :: _ :: _ :: _ :: _ :: _ :: _ :: _ :: _ :: _ :: _ :: _ :: _ :: _ :: _ :: _ :: _ :: _ :: _ :: _ :: _ :: _ :: _ :: _ :: _ :: _ :: _ :: _ :: _ :: .agg #[.float .f64 a0, .float .f64 a1] :: .agg #[.float .f64 b0, .float .f64 b1] :: _ :: .agg #[.float .f64 b0, .float .f64 b1] :: .agg #[.float .f64 a0, .float .f64 a1] :: _ :: _ :: _ :: _ :: _ :: _ :: _ :: _ :: _ :: _ :: _ :: _ :: _ :: _ :: _ :: _ :: _ :: _ :: _ :: _ :: _ :: _ :: _ :: _ :: _ :: _ :: _ :: _ :: _ :: _ :: _ :: _ :: _ :: _ :: _ :: _ :: _ :: _ :: _ :: _ :: _ :: _ :: _ :: _ :: _ :: _ :: _ :: _ :: _ :: _ :: _ :: _ :: _ :: _ :: _ :: _ :: _ :: _ :: _ :: _ :: _ :: _ :: _ :: _ :: _ :: _ :: _ :: _ :: _ :: _ :: _ :: _ :: _ :: _ :: _ :: _ :: _ :: _ :: _ :: _ :: _ :: _ :: _ :: _ :: _ :: _ :: _ :: _ :: _ :: _ :: _ :: _ :: _ :: _ :: _ :: _ :: _ :: _ :: _ :: _ :: []), defers := [] } _
    refine wpAnyH_ready (rs := [2, 6, 7]) (by kernel_rfl) (by simp) ?_
    refine (AllReadyH.cons rfl (fun KK hK => ?_) (AllReadyH.cons rfl (fun KK hK => ?_) (AllReadyH.cons rfl (fun KK hK => ?_) AllReadyH.nil)))
    · skip
      go_simp
      refine (cZMulI2 a0 a1 b0 b1 _).mono ?_
      rintro e wc1 ⟨p0, p1, rfl, hP, hb⟩
      have Bc := btrans B0 hb
      clear hb
      go_wp2_with fail
      clear hHeld
      refine hK.out _ _ (by obtain ⟨⟨k0, k1⟩, -⟩ := twoC (keepB Bc KA); obtain ⟨⟨k2, k3⟩, -⟩ := twoC (keepB Bc KB); exact ⟨k0, k1, k2, k3⟩) (fun hHeld => ?_)
      clear hK KK
      change wpAnyH _ _ _ _ _ _ _ { tmps := List.toArray (_ :: _ :: _ :: _ :: _ :: _ :: _ :: _ :: _ :: _ :: _ :: _ :: _ :: _ :: _ :: _ :: _ :: _ :: _ :: _ :: _ :: _ :: _ :: _ :: _ :: _ :: _ :: _ :: _ :: _ :: _ :: _ :: _ :: _ :: _ :: _ :: .agg #[.float .f64 a0, .float .f64 a1] :: .agg #[.float .f64 b0, .float .f64 b1] :: .agg #[.float .f64 p0, .float .f64 p1] :: .agg #[.float .f64 b0, .float .f64 b1] :: .agg #[.float .f64 a0, .float .f64 a1] :: _ :: _ :: _ :: _ :: _ :: _ :: _ :: _ :: _ :: _ :: _ :: _ :: _ :: _ :: _ :: _ :: _ :: _ :: _ :: _ :: _ :: _ :: _ :: _ :: _ :: _ :: _ :: _ :: _ :: _ :: _ :: _ :: _ :: _ :: _ :: _ :: _ :: _ :: _ :: _ :: _ :: _ :: _ :: _ :: _ :: _ :: _ :: _ :: _ :: _ :: _ :: _ :: _ :: _ :: _ :: _ :: _ :: _ :: _ :: _ :: _ :: _ :: _ :: _ :: _ :: _ :: _ :: _ :: _ :: _ :: _ :: _ :: _ :: _ :: _ :: _ :: _ :: _ :: _ :: _ :: _ :: _ :: _ :: _ :: _ :: _ :: _ :: _ :: _ :: _ :: _ :: _ :: _ :: _ :: _ :: _ :: _ :: _ :: _ :: _ :: []), defers := [] } _
      refine wpAnyH_ready (rs := [5, 6, 7]) (by kernel_rfl) (by simp) ?_
      refine (AllReadyH.cons rfl (fun KK hK => ?_) (AllReadyH.cons rfl (fun KK hK => ?_) (AllReadyH.cons rfl (fun KK hK => ?_) AllReadyH.nil)))
      · skip
        go_simp
        refine (cZMulI2 b0 b1 a0 a1 _).mono ?_
        rintro e wc2 ⟨q0, q1, rfl, hQ, hb⟩
        have Bd := btrans Bc hb
        clear hb
        go_wp2_with fail
        clear hHeld
        refine hK.out _ _ (by obtain ⟨⟨k0, k1⟩, -⟩ := twoC (keepB Bd KA); obtain ⟨⟨k2, k3⟩, -⟩ := twoC (keepB Bd KB); exact ⟨k0, k1, k2, k3⟩) (fun hHeld => ?_)
        clear hK KK
        change wpAnyH _ _ _ _ _ _ _ { tmps := List.toArray (_ :: _ :: _ :: _ :: _ :: _ :: _ :: _ :: _ :: _ :: _ :: _ :: _ :: _ :: _ :: _ :: _ :: _ :: _ :: _ :: _ :: _ :: _ :: _ :: _ :: _ :: _ :: _ :: _ :: _ :: _ :: _ :: _ :: _ :: _ :: _ :: .agg #[.float .f64 a0, .float .f64 a1] :: .agg #[.float .f64 b0, .float .f64 b1] :: .agg #[.float .f64 p0, .float .f64 p1] :: .agg #[.float .f64 b0, .float .f64 b1] :: .agg #[.float .f64 a0, .float .f64 a1] :: .agg #[.float .f64 q0, .float .f64 q1] :: _ :: _ :: _ :: _ :: _ :: _ :: _ :: _ :: _ :: _ :: _ :: _ :: _ :: _ :: _ :: _ :: _ :: _ :: _ :: _ :: _ :: _ :: _ :: _ :: _ :: _ :: _ :: _ :: _ :: _ :: _ :: _ :: _ :: _ :: _ :: _ :: _ :: _ :: _ :: _ :: _ :: _ :: _ :: _ :: _ :: _ :: _ :: _ :: _ :: _ :: _ :: _ :: _ :: _ :: _ :: _ :: _ :: _ :: _ :: _ :: _ :: _ :: _ :: _ :: _ :: _ :: _ :: _ :: _ :: _ :: _ :: _ :: _ :: _ :: _ :: _ :: _ :: _ :: _ :: _ :: _ :: _ :: _ :: _ :: _ :: _ :: _ :: _ :: _ :: _ :: _ :: _ :: _ :: _ :: _ :: _ :: _ :: _ :: _ :: []), defers := [] } _
        refine wpAnyH_ready (rs := [6, 7]) (by kernel_rfl) (by simp) ?_
        refine (AllReadyH.cons rfl (fun KK hK => ?_) (AllReadyH.cons rfl (fun KK hK => ?_) AllReadyH.nil))
        · skip
          go_simp
          have hbz := balloc wc2 (.cells #[.float .f64 0, .float .f64 0] 26)
          have z6 : (wc2.alloc (.cells #[.float .f64 0, .float .f64 0] 26)).heap[wc2.heap.size]? = some (.cells #[.float .f64 0, .float .f64 0] 26 (0, 0)) := one_block wc2 _
          have zl6 : v.heap.size ≤ wc2.heap.size := Bd.size
          have Bz6 := btrans Bd hbz
          clear hbz
          generalize wc2.heap.size = b6 at *
          generalize wc2.alloc (.cells #[.float .f64 0, .float .f64 0] 26) = wz6 at *
          clear hHeld
          refine hK.out _ _ (by obtain ⟨⟨k0, k1⟩, -⟩ := twoC (keepB Bz6 KA); obtain ⟨⟨k2, k3⟩, -⟩ := twoC (keepB Bz6 KB); exact ⟨k0, k1, k2, k3⟩) (fun hHeld => ?_)
          clear hK KK
          change wpAnyH _ _ _ _ _ _ _ { tmps := List.toArray (_ :: _ :: _ :: _ :: _ :: .pointer (some ⟨b6, 0, none⟩) :: _ :: _ :: _ :: _ :: _ :: _ :: _ :: _ :: _ :: _ :: _ :: _ :: _ :: _ :: _ :: _ :: _ :: _ :: _ :: _ :: _ :: _ :: _ :: _ :: _ :: _ :: _ :: _ :: _ :: _ :: .agg #[.float .f64 a0, .float .f64 a1] :: .agg #[.float .f64 b0, .float .f64 b1] :: .agg #[.float .f64 p0, .float .f64 p1] :: .agg #[.float .f64 b0, .float .f64 b1] :: .agg #[.float .f64 a0, .float .f64 a1] :: .agg #[.float .f64 q0, .float .f64 q1] :: _ :: _ :: _ :: _ :: _ :: _ :: _ :: _ :: _ :: _ :: _ :: _ :: _ :: _ :: _ :: _ :: _ :: _ :: _ :: _ :: _ :: _ :: _ :: _ :: _ :: _ :: _ :: _ :: _ :: _ :: _ :: _ :: _ :: _ :: _ :: _ :: _ :: _ :: _ :: _ :: _ :: _ :: _ :: _ :: _ :: _ :: _ :: _ :: _ :: _ :: _ :: _ :: _ :: _ :: _ :: _ :: _ :: _ :: _ :: _ :: _ :: _ :: _ :: _ :: _ :: _ :: _ :: _ :: _ :: _ :: _ :: _ :: _ :: _ :: _ :: _ :: _ :: _ :: _ :: _ :: _ :: _ :: _ :: _ :: _ :: _ :: _ :: _ :: _ :: _ :: _ :: _ :: _ :: _ :: _ :: _ :: _ :: _ :: _ :: []), defers := [] } _
          refine wpAnyH_ready (rs := [7]) (by kernel_rfl) (by simp) ?_
          refine (AllReadyH.cons rfl (fun KK hK => ?_) AllReadyH.nil)
          go_simp
          have hbz := balloc wz6 (.cells #[.float .f64 0, .float .f64 0] 26)
          have z7 : (wz6.alloc (.cells #[.float .f64 0, .float .f64 0] 26)).heap[wz6.heap.size]? = some (.cells #[.float .f64 0, .float .f64 0] 26 (0, 0)) := one_block wz6 _
          have zl7 : v.heap.size ≤ wz6.heap.size := Bz6.size
          have Bz7 := btrans Bz6 hbz
          have ne67 : b6 ≠ wz6.heap.size := Nat.ne_of_lt (lt_of_block z6)
          have z6 := keepB hbz z6
          clear hbz
          generalize wz6.heap.size = b7 at *
          generalize wz6.alloc (.cells #[.float .f64 0, .float .f64 0] 26) = wz7 at *
          clear hHeld
          refine hK.out _ _ (by obtain ⟨⟨k0, k1⟩, -⟩ := twoC (keepB Bz7 KA); obtain ⟨⟨k2, k3⟩, -⟩ := twoC (keepB Bz7 KB); exact ⟨k0, k1, k2, k3⟩) (fun hHeld => ?_)
          clear hK KK
          change wpAnyH _ _ _ _ _ _ _ { tmps := List.toArray (_ :: _ :: _ :: _ :: _ :: .pointer (some ⟨b6, 0, none⟩) :: .pointer (some ⟨b7, 0, none⟩) :: _ :: _ :: _ :: _ :: _ :: _ :: _ :: _ :: _ :: _ :: _ :: _ :: _ :: _ :: _ :: _ :: _ :: _ :: _ :: _ :: _ :: _ :: _ :: _ :: _ :: _ :: _ :: _ :: _ :: .agg #[.float .f64 a0, .float .f64 a1] :: .agg #[.float .f64 b0, .float .f64 b1] :: .agg #[.float .f64 p0, .float .f64 p1] :: .agg #[.float .f64 b0, .float .f64 b1] :: .agg #[.float .f64 a0, .float .f64 a1] :: .agg #[.float .f64 q0, .float .f64 q1] :: _ :: _ :: _ :: _ :: _ :: _ :: _ :: _ :: _ :: _ :: _ :: _ :: _ :: _ :: _ :: _ :: _ :: _ :: _ :: _ :: _ :: _ :: _ :: _ :: _ :: _ :: _ :: _ :: _ :: _ :: _ :: _ :: _ :: _ :: _ :: _ :: _ :: _ :: _ :: _ :: _ :: _ :: _ :: _ :: _ :: _ :: _ :: _ :: _ :: _ :: _ :: _ :: _ :: _ :: _ :: _ :: _ :: _ :: _ :: _ :: _ :: _ :: _ :: _ :: _ :: _ :: _ :: _ :: _ :: _ :: _ :: _ :: _ :: _ :: _ :: _ :: _ :: _ :: _ :: _ :: _ :: _ :: _ :: _ :: _ :: _ :: _ :: _ :: _ :: _ :: _ :: _ :: _ :: _ :: _ :: _ :: _ :: _ :: _ :: []), defers := [] } _
          refine wpAnyH_ready (rs := [8]) (by kernel_rfl) (by simp) ?_
          refine (AllReadyH.cons rfl (fun KK hK => ?_) AllReadyH.nil)
          obtain ⟨⟨m0, m1⟩, y0, y1⟩ := twoC z6
          have n67 : b6 ≠ b7 := ne67
          have Bs : Below v.heap.size v ((wz7.setCell ⟨b6, 0, none⟩ (.float .f64 p0)).setCell ⟨b6, 1, none⟩ (.float .f64 p1)) := below_set zl6 (below_set zl6 Bz7)
          have x6 : ((wz7.setCell ⟨b6, 0, none⟩ (.float .f64 p0)).setCell ⟨b6, 1, none⟩ (.float .f64 p1)).heap[b6]? = some (.cells #[.float .f64 p0, .float .f64 p1] 26 (0, 0)) := heap_same _ b6 1 _ _ _ (heap_same _ b6 0 _ _ _ z6)
          have x7 : ((wz7.setCell ⟨b6, 0, none⟩ (.float .f64 p0)).setCell ⟨b6, 1, none⟩ (.float .f64 p1)).heap[b7]? = some (.cells #[.float .f64 0, .float .f64 0] 26 (0, 0)) := (heap_setCell n67.symm).trans ((heap_setCell n67.symm).trans z7)
          go_simp
          clear hHeld
          refine hK.out _ _ (by obtain ⟨⟨k0, k1⟩, -⟩ := twoC (keepB Bs KA); obtain ⟨⟨k2, k3⟩, -⟩ := twoC (keepB Bs KB); exact ⟨k0, k1, k2, k3⟩) (fun hHeld => ?_)
          clear hK KK
          change wpAnyH _ _ _ _ _ _ _ { tmps := List.toArray (_ :: _ :: _ :: _ :: _ :: .pointer (some ⟨b6, 0, none⟩) :: .pointer (some ⟨b7, 0, none⟩) :: _ :: _ :: _ :: _ :: _ :: _ :: _ :: _ :: _ :: _ :: _ :: _ :: _ :: _ :: _ :: _ :: _ :: _ :: _ :: _ :: _ :: _ :: _ :: _ :: _ :: _ :: _ :: _ :: _ :: .agg #[.float .f64 a0, .float .f64 a1] :: .agg #[.float .f64 b0, .float .f64 b1] :: .agg #[.float .f64 p0, .float .f64 p1] :: .agg #[.float .f64 b0, .float .f64 b1] :: .agg #[.float .f64 a0, .float .f64 a1] :: .agg #[.float .f64 q0, .float .f64 q1] :: _ :: _ :: _ :: _ :: _ :: _ :: _ :: _ :: _ :: _ :: _ :: _ :: _ :: _ :: _ :: _ :: _ :: _ :: _ :: _ :: _ :: _ :: _ :: _ :: _ :: _ :: _ :: _ :: _ :: _ :: _ :: _ :: _ :: _ :: _ :: _ :: _ :: _ :: _ :: _ :: _ :: _ :: _ :: _ :: _ :: _ :: _ :: _ :: _ :: _ :: _ :: _ :: _ :: _ :: _ :: _ :: _ :: _ :: _ :: _ :: _ :: _ :: _ :: _ :: _ :: _ :: _ :: _ :: _ :: _ :: _ :: _ :: _ :: _ :: _ :: _ :: _ :: _ :: _ :: _ :: _ :: _ :: _ :: _ :: _ :: _ :: _ :: _ :: _ :: _ :: _ :: _ :: _ :: _ :: _ :: _ :: _ :: _ :: _ :: []), defers := [] } _
          refine wpAnyH_ready (rs := [9]) (by kernel_rfl) (by simp) ?_
          refine (AllReadyH.cons rfl (fun KK hK => ?_) AllReadyH.nil)
          obtain ⟨⟨m2, m3⟩, y2, y3⟩ := twoC x7
          have Bt : Below v.heap.size v ((((wz7.setCell ⟨b6, 0, none⟩ (.float .f64 p0)).setCell ⟨b6, 1, none⟩ (.float .f64 p1)).setCell ⟨b7, 0, none⟩ (.float .f64 q0)).setCell ⟨b7, 1, none⟩ (.float .f64 q1)) := below_set zl7 (below_set zl7 Bs)
          have v7 : ((((wz7.setCell ⟨b6, 0, none⟩ (.float .f64 p0)).setCell ⟨b6, 1, none⟩ (.float .f64 p1)).setCell ⟨b7, 0, none⟩ (.float .f64 q0)).setCell ⟨b7, 1, none⟩ (.float .f64 q1)).heap[b7]? = some (.cells #[.float .f64 q0, .float .f64 q1] 26 (0, 0)) := heap_same _ b7 1 _ _ _ (heap_same _ b7 0 _ _ _ x7)
          have v6 : ((((wz7.setCell ⟨b6, 0, none⟩ (.float .f64 p0)).setCell ⟨b6, 1, none⟩ (.float .f64 p1)).setCell ⟨b7, 0, none⟩ (.float .f64 q0)).setCell ⟨b7, 1, none⟩ (.float .f64 q1)).heap[b6]? = some (.cells #[.float .f64 p0, .float .f64 p1] 26 (0, 0)) := (heap_setCell n67).trans ((heap_setCell n67).trans x6)
          go_simp
          clear hHeld
          refine hK.out _ _ (by obtain ⟨⟨k0, k1⟩, -⟩ := twoC (keepB Bt KA); obtain ⟨⟨k2, k3⟩, -⟩ := twoC (keepB Bt KB); exact ⟨k0, k1, k2, k3⟩) (fun hHeld => ?_)
          clear hK KK
          change wpAnyH _ _ _ _ _ _ _ { tmps := List.toArray (_ :: _ :: _ :: _ :: _ :: .pointer (some ⟨b6, 0, none⟩) :: .pointer (some ⟨b7, 0, none⟩) :: _ :: _ :: _ :: _ :: _ :: _ :: _ :: _ :: _ :: _ :: _ :: _ :: _ :: _ :: _ :: _ :: _ :: _ :: _ :: _ :: _ :: _ :: _ :: _ :: _ :: _ :: _ :: _ :: _ :: .agg #[.float .f64 a0, .float .f64 a1] :: .agg #[.float .f64 b0, .float .f64 b1] :: .agg #[.float .f64 p0, .float .f64 p1] :: .agg #[.float .f64 b0, .float .f64 b1] :: .agg #[.float .f64 a0, .float .f64 a1] :: .agg #[.float .f64 q0, .float .f64 q1] :: _ :: _ :: _ :: _ :: _ :: _ :: _ :: _ :: _ :: _ :: _ :: _ :: _ :: _ :: _ :: _ :: _ :: _ :: _ :: _ :: _ :: _ :: _ :: _ :: _ :: _ :: _ :: _ :: _ :: _ :: _ :: _ :: _ :: _ :: _ :: _ :: _ :: _ :: _ :: _ :: _ :: _ :: _ :: _ :: _ :: _ :: _ :: _ :: _ :: _ :: _ :: _ :: _ :: _ :: _ :: _ :: _ :: _ :: _ :: _ :: _ :: _ :: _ :: _ :: _ :: _ :: _ :: _ :: _ :: _ :: _ :: _ :: _ :: _ :: _ :: _ :: _ :: _ :: _ :: _ :: _ :: _ :: _ :: _ :: _ :: _ :: _ :: _ :: _ :: _ :: _ :: _ :: _ :: _ :: _ :: _ :: _ :: _ :: _ :: []), defers := [] } _
          refine wpAnyH_done (by kernel_rfl) ?_ _
          go_wp2_with fail
          go_meet
          exact ⟨b6, p0, p1, b7, q0, q1, rfl, rfl, v6, v7, hP, hQ, zl6, zl7, Bt⟩
        · skip
          go_simp
          have hbz := balloc wc2 (.cells #[.float .f64 0, .float .f64 0] 26)
          have z7 : (wc2.alloc (.cells #[.float .f64 0, .float .f64 0] 26)).heap[wc2.heap.size]? = some (.cells #[.float .f64 0, .float .f64 0] 26 (0, 0)) := one_block wc2 _
          have zl7 : v.heap.size ≤ wc2.heap.size := Bd.size
          have Bz7 := btrans Bd hbz
          clear hbz
          generalize wc2.heap.size = b7 at *
          generalize wc2.alloc (.cells #[.float .f64 0, .float .f64 0] 26) = wz7 at *
          clear hHeld
          refine hK.out _ _ (by obtain ⟨⟨k0, k1⟩, -⟩ := twoC (keepB Bz7 KA); obtain ⟨⟨k2, k3⟩, -⟩ := twoC (keepB Bz7 KB); exact ⟨k0, k1, k2, k3⟩) (fun hHeld => ?_)
          clear hK KK
          change wpAnyH _ _ _ _ _ _ _ { tmps := List.toArray (_ :: _ :: _ :: _ :: _ :: _ :: .pointer (some ⟨b7, 0, none⟩) :: _ :: _ :: _ :: _ :: _ :: _ :: _ :: _ :: _ :: _ :: _ :: _ :: _ :: _ :: _ :: _ :: _ :: _ :: _ :: _ :: _ :: _ :: _ :: _ :: _ :: _ :: _ :: _ :: _ :: .agg #[.float .f64 a0, .float .f64 a1] :: .agg #[.float .f64 b0, .float .f64 b1] :: .agg #[.float .f64 p0, .float .f64 p1] :: .agg #[.float .f64 b0, .float .f64 b1] :: .agg #[.float .f64 a0, .float .f64 a1] :: .agg #[.float .f64 q0, .float .f64 q1] :: _ :: _ :: _ :: _ :: _ :: _ :: _ :: _ :: _ :: _ :: _ :: _ :: _ :: _ :: _ :: _ :: _ :: _ :: _ :: _ :: _ :: _ :: _ :: _ :: _ :: _ :: _ :: _ :: _ :: _ :: _ :: _ :: _ :: _ :: _ :: _ :: _ :: _ :: _ :: _ :: _ :: _ :: _ :: _ :: _ :: _ :: _ :: _ :: _ :: _ :: _ :: _ :: _ :: _ :: _ :: _ :: _ :: _ :: _ :: _ :: _ :: _ :: _ :: _ :: _ :: _ :: _ :: _ :: _ :: _ :: _ :: _ :: _ :: _ :: _ :: _ :: _ :: _ :: _ :: _ :: _ :: _ :: _ :: _ :: _ :: _ :: _ :: _ :: _ :: _ :: _ :: _ :: _ :: _ :: _ :: _ :: _ :: _ :: _ :: []), defers := [] } _
          refine wpAnyH_ready (rs := [6]) (by kernel_rfl) (by simp) ?_
          refine (AllReadyH.cons rfl (fun KK hK => ?_) AllReadyH.nil)
          go_simp
          have hbz := balloc wz7 (.cells #[.float .f64 0, .float .f64 0] 26)
          have z6 : (wz7.alloc (.cells #[.float .f64 0, .float .f64 0] 26)).heap[wz7.heap.size]? = some (.cells #[.float .f64 0, .float .f64 0] 26 (0, 0)) := one_block wz7 _
          have zl6 : v.heap.size ≤ wz7.heap.size := Bz7.size
          have Bz6 := btrans Bz7 hbz
          have ne67 : b7 ≠ wz7.heap.size := Nat.ne_of_lt (lt_of_block z7)
          have z7 := keepB hbz z7
          clear hbz
          generalize wz7.heap.size = b6 at *
          generalize wz7.alloc (.cells #[.float .f64 0, .float .f64 0] 26) = wz6 at *
          clear hHeld
          refine hK.out _ _ (by obtain ⟨⟨k0, k1⟩, -⟩ := twoC (keepB Bz6 KA); obtain ⟨⟨k2, k3⟩, -⟩ := twoC (keepB Bz6 KB); exact ⟨k0, k1, k2, k3⟩) (fun hHeld => ?_)
          clear hK KK
          change wpAnyH _ _ _ _ _ _ _ { tmps := List.toArray (_ :: _ :: _ :: _ :: _ :: .pointer (some ⟨b6, 0, none⟩) :: .pointer (some ⟨b7, 0, none⟩) :: _ :: _ :: _ :: _ :: _ :: _ :: _ :: _ :: _ :: _ :: _ :: _ :: _ :: _ :: _ :: _ :: _ :: _ :: _ :: _ :: _ :: _ :: _ :: _ :: _ :: _ :: _ :: _ :: _ :: .agg #[.float .f64 a0, .float .f64 a1] :: .agg #[.float .f64 b0, .float .f64 b1] :: .agg #[.float .f64 p0, .float .f64 p1] :: .agg #[.float .f64 b0, .float .f64 b1] :: .agg #[.float .f64 a0, .float .f64 a1] :: .agg #[.float .f64 q0, .float .f64 q1] :: _ :: _ :: _ :: _ :: _ :: _ :: _ :: _ :: _ :: _ :: _ :: _ :: _ :: _ :: _ :: _ :: _ :: _ :: _ :: _ :: _ :: _ :: _ :: _ :: _ :: _ :: _ :: _ :: _ :: _ :: _ :: _ :: _ :: _ :: _ :: _ :: _ :: _ :: _ :: _ :: _ :: _ :: _ :: _ :: _ :: _ :: _ :: _ :: _ :: _ :: _ :: _ :: _ :: _ :: _ :: _ :: _ :: _ :: _ :: _ :: _ :: _ :: _ :: _ :: _ :: _ :: _ :: _ :: _ :: _ :: _ :: _ :: _ :: _ :: _ :: _ :: _ :: _ :: _ :: _ :: _ :: _ :: _ :: _ :: _ :: _ :: _ :: _ :: _ :: _ :: _ :: _ :: _ :: _ :: _ :: _ :: _ :: _ :: _ :: []), defers := [] } _
          refine wpAnyH_ready (rs := [8]) (by kernel_rfl) (by simp) ?_
          refine (AllReadyH.cons rfl (fun KK hK => ?_) AllReadyH.nil)
          obtain ⟨⟨m0, m1⟩, y0, y1⟩ := twoC z6
          have n67 : b6 ≠ b7 := ne67.symm
          have Bs : Below v.heap.size v ((wz6.setCell ⟨b6, 0, none⟩ (.float .f64 p0)).setCell ⟨b6, 1, none⟩ (.float .f64 p1)) := below_set zl6 (below_set zl6 Bz6)
          have x6 : ((wz6.setCell ⟨b6, 0, none⟩ (.float .f64 p0)).setCell ⟨b6, 1, none⟩ (.float .f64 p1)).heap[b6]? = some (.cells #[.float .f64 p0, .float .f64 p1] 26 (0, 0)) := heap_same _ b6 1 _ _ _ (heap_same _ b6 0 _ _ _ z6)
          have x7 : ((wz6.setCell ⟨b6, 0, none⟩ (.float .f64 p0)).setCell ⟨b6, 1, none⟩ (.float .f64 p1)).heap[b7]? = some (.cells #[.float .f64 0, .float .f64 0] 26 (0, 0)) := (heap_setCell n67.symm).trans ((heap_setCell n67.symm).trans z7)
          go_simp
          clear hHeld
          refine hK.out _ _ (by obtain ⟨⟨k0, k1⟩, -⟩ := twoC (keepB Bs KA); obtain ⟨⟨k2, k3⟩, -⟩ := twoC (keepB Bs KB); exact ⟨k0, k1, k2, k3⟩) (fun hHeld => ?_)
          clear hK KK
          change wpAnyH _ _ _ _ _ _ _ { tmps := List.toArray (_ :: _ :: _ :: _ :: _ :: .pointer (some ⟨b6, 0, none⟩) :: .pointer (some ⟨b7, 0, none⟩) :: _ :: _ :: _ :: _ :: _ :: _ :: _ :: _ :: _ :: _ :: _ :: _ :: _ :: _ :: _ :: _ :: _ :: _ :: _ :: _ :: _ :: _ :: _ :: _ :: _ :: _ :: _ :: _ :: _ :: .agg #[.float .f64 a0, .float .f64 a1] :: .agg #[.float .f64 b0, .float .f64 b1] :: .agg #[.float .f64 p0, .float .f64 p1] :: .agg #[.float .f64 b0, .float .f64 b1] :: .agg #[.float .f64 a0, .float .f64 a1] :: .agg #[.float .f64 q0, .float .f64 q1] :: _ :: _ :: _ :: _ :: _ :: _ :: _ :: _ :: _ :: _ :: _ :: _ :: _ :: _ :: _ :: _ :: _ :: _ :: _ :: _ :: _ :: _ :: _ :: _ :: _ :: _ :: _ :: _ :: _ :: _ :: _ :: _ :: _ :: _ :: _ :: _ :: _ :: _ :: _ :: _ :: _ :: _ :: _ :: _ :: _ :: _ :: _ :: _ :: _ :: _ :: _ :: _ :: _ :: _ :: _ :: _ :: _ :: _ :: _ :: _ :: _ :: _ :: _ :: _ :: _ :: _ :: _ :: _ :: _ :: _ :: _ :: _ :: _ :: _ :: _ :: _ :: _ :: _ :: _ :: _ :: _ :: _ :: _ :: _ :: _ :: _ :: _ :: _ :: _ :: _ :: _ :: _ :: _ :: _ :: _ :: _ :: _ :: _ :: _ :: []), defers := [] } _
          refine wpAnyH_ready (rs := [9]) (by kernel_rfl) (by simp) ?_
          refine (AllReadyH.cons rfl (fun KK hK => ?_) AllReadyH.nil)
          obtain ⟨⟨m2, m3⟩, y2, y3⟩ := twoC x7
          have Bt : Below v.heap.size v ((((wz6.setCell ⟨b6, 0, none⟩ (.float .f64 p0)).setCell ⟨b6, 1, none⟩ (.float .f64 p1)).setCell ⟨b7, 0, none⟩ (.float .f64 q0)).setCell ⟨b7, 1, none⟩ (.float .f64 q1)) := below_set zl7 (below_set zl7 Bs)
          have v7 : ((((wz6.setCell ⟨b6, 0, none⟩ (.float .f64 p0)).setCell ⟨b6, 1, none⟩ (.float .f64 p1)).setCell ⟨b7, 0, none⟩ (.float .f64 q0)).setCell ⟨b7, 1, none⟩ (.float .f64 q1)).heap[b7]? = some (.cells #[.float .f64 q0, .float .f64 q1] 26 (0, 0)) := heap_same _ b7 1 _ _ _ (heap_same _ b7 0 _ _ _ x7)
          have v6 : ((((wz6.setCell ⟨b6, 0, none⟩ (.float .f64 p0)).setCell ⟨b6, 1, none⟩ (.float .f64 p1)).setCell ⟨b7, 0, none⟩ (.float .f64 q0)).setCell ⟨b7, 1, none⟩ (.float .f64 q1)).heap[b6]? = some (.cells #[.float .f64 p0, .float .f64 p1] 26 (0, 0)) := (heap_setCell n67).trans ((heap_setCell n67).trans x6)
          go_simp
          clear hHeld
          refine hK.out _ _ (by obtain ⟨⟨k0, k1⟩, -⟩ := twoC (keepB Bt KA); obtain ⟨⟨k2, k3⟩, -⟩ := twoC (keepB Bt KB); exact ⟨k0, k1, k2, k3⟩) (fun hHeld => ?_)
          clear hK KK
          change wpAnyH _ _ _ _ _ _ _ { tmps := List.toArray (_ :: _ :: _ :: _ :: _ :: .pointer (some ⟨b6, 0, none⟩) :: .pointer (some ⟨b7, 0, none⟩) :: _ :: _ :: _ :: _ :: _ :: _ :: _ :: _ :: _ :: _ :: _ :: _ :: _ :: _ :: _ :: _ :: _ :: _ :: _ :: _ :: _ :: _ :: _ :: _ :: _ :: _ :: _ :: _ :: _ :: .agg #[.float .f64 a0, .float .f64 a1] :: .agg #[.float .f64 b0, .float .f64 b1] :: .agg #[.float .f64 p0, .float .f64 p1] :: .agg #[.float .f64 b0, .float .f64 b1] :: .agg #[.float .f64 a0, .float .f64 a1] :: .agg #[.float .f64 q0, .float .f64 q1] :: _ :: _ :: _ :: _ :: _ :: _ :: _ :: _ :: _ :: _ :: _ :: _ :: _ :: _ :: _ :: _ :: _ :: _ :: _ :: _ :: _ :: _ :: _ :: _ :: _ :: _ :: _ :: _ :: _ :: _ :: _ :: _ :: _ :: _ :: _ :: _ :: _ :: _ :: _ :: _ :: _ :: _ :: _ :: _ :: _ :: _ :: _ :: _ :: _ :: _ :: _ :: _ :: _ :: _ :: _ :: _ :: _ :: _ :: _ :: _ :: _ :: _ :: _ :: _ :: _ :: _ :: _ :: _ :: _ :: _ :: _ :: _ :: _ :: _ :: _ :: _ :: _ :: _ :: _ :: _ :: _ :: _ :: _ :: _ :: _ :: _ :: _ :: _ :: _ :: _ :: _ :: _ :: _ :: _ :: _ :: _ :: _ :: _ :: _ :: []), defers := [] } _
          refine wpAnyH_done (by kernel_rfl) ?_ _
          go_wp2_with fail
          go_meet
          exact ⟨b6, p0, p1, b7, q0, q1, rfl, rfl, v6, v7, hP, hQ, zl6, zl7, Bt⟩
      · skip
        go_simp
        have hbz := balloc wc1 (.cells #[.float .f64 0, .float .f64 0] 26)
        have z6 : (wc1.alloc (.cells #[.float .f64 0, .float .f64 0] 26)).heap[wc1.heap.size]? = some (.cells #[.float .f64 0, .float .f64 0] 26 (0, 0)) := one_block wc1 _
        have zl6 : v.heap.size ≤ wc1.heap.size := Bc.size
        have Bz6 := btrans Bc hbz
        clear hbz
        generalize wc1.heap.size = b6 at *
        generalize wc1.alloc (.cells #[.float .f64 0, .float .f64 0] 26) = wz6 at *
        clear hHeld
        refine hK.out _ _ (by obtain ⟨⟨k0, k1⟩, -⟩ := twoC (keepB Bz6 KA); obtain ⟨⟨k2, k3⟩, -⟩ := twoC (keepB Bz6 KB); exact ⟨k0, k1, k2, k3⟩) (fun hHeld => ?_)
        clear hK KK
        change wpAnyH _ _ _ _ _ _ _ { tmps := List.toArray (_ :: _ :: _ :: _ :: _ :: .pointer (some ⟨b6, 0, none⟩) :: _ :: _ :: _ :: _ :: _ :: _ :: _ :: _ :: _ :: _ :: _ :: _ :: _ :: _ :: _ :: _ :: _ :: _ :: _ :: _ :: _ :: _ :: _ :: _ :: _ :: _ :: _ :: _ :: _ :: _ :: .agg #[.float .f64 a0, .float .f64 a1] :: .agg #[.float .f64 b0, .float .f64 b1] :: .agg #[.float .f64 p0, .float .f64 p1] :: .agg #[.float .f64 b0, .float .f64 b1] :: .agg #[.float .f64 a0, .float .f64 a1] :: _ :: _ :: _ :: _ :: _ :: _ :: _ :: _ :: _ :: _ :: _ :: _ :: _ :: _ :: _ :: _ :: _ :: _ :: _ :: _ :: _ :: _ :: _ :: _ :: _ :: _ :: _ :: _ :: _ :: _ :: _ :: _ :: _ :: _ :: _ :: _ :: _ :: _ :: _ :: _ :: _ :: _ :: _ :: _ :: _ :: _ :: _ :: _ :: _ :: _ :: _ :: _ :: _ :: _ :: _ :: _ :: _ :: _ :: _ :: _ :: _ :: _ :: _ :: _ :: _ :: _ :: _ :: _ :: _ :: _ :: _ :: _ :: _ :: _ :: _ :: _ :: _ :: _ :: _ :: _ :: _ :: _ :: _ :: _ :: _ :: _ :: _ :: _ :: _ :: _ :: _ :: _ :: _ :: _ :: _ :: _ :: _ :: _ :: _ :: _ :: []), defers := [] } _
        refine wpAnyH_ready (rs := [5, 7]) (by kernel_rfl) (by simp) ?_
        refine (AllReadyH.cons rfl (fun KK hK => ?_) (AllReadyH.cons rfl (fun KK hK => ?_) AllReadyH.nil))
        · skip
          go_simp
          refine (cZMulI2 b0 b1 a0 a1 _).mono ?_
          rintro e wc2 ⟨q0, q1, rfl, hQ, hb⟩
          have Bd := btrans Bz6 hb
          have z6 := keepB hb z6
          clear hb
          go_wp2_with fail
          clear hHeld
          refine hK.out _ _ (by obtain ⟨⟨k0, k1⟩, -⟩ := twoC (keepB Bd KA); obtain ⟨⟨k2, k3⟩, -⟩ := twoC (keepB Bd KB); exact ⟨k0, k1, k2, k3⟩) (fun hHeld => ?_)
          clear hK KK
          change wpAnyH _ _ _ _ _ _ _ { tmps := List.toArray (_ :: _ :: _ :: _ :: _ :: .pointer (some ⟨b6, 0, none⟩) :: _ :: _ :: _ :: _ :: _ :: _ :: _ :: _ :: _ :: _ :: _ :: _ :: _ :: _ :: _ :: _ :: _ :: _ :: _ :: _ :: _ :: _ :: _ :: _ :: _ :: _ :: _ :: _ :: _ :: _ :: .agg #[.float .f64 a0, .float .f64 a1] :: .agg #[.float .f64 b0, .float .f64 b1] :: .agg #[.float .f64 p0, .float .f64 p1] :: .agg #[.float .f64 b0, .float .f64 b1] :: .agg #[.float .f64 a0, .float .f64 a1] :: .agg #[.float .f64 q0, .float .f64 q1] :: _ :: _ :: _ :: _ :: _ :: _ :: _ :: _ :: _ :: _ :: _ :: _ :: _ :: _ :: _ :: _ :: _ :: _ :: _ :: _ :: _ :: _ :: _ :: _ :: _ :: _ :: _ :: _ :: _ :: _ :: _ :: _ :: _ :: _ :: _ :: _ :: _ :: _ :: _ :: _ :: _ :: _ :: _ :: _ :: _ :: _ :: _ :: _ :: _ :: _ :: _ :: _ :: _ :: _ :: _ :: _ :: _ :: _ :: _ :: _ :: _ :: _ :: _ :: _ :: _ :: _ :: _ :: _ :: _ :: _ :: _ :: _ :: _ :: _ :: _ :: _ :: _ :: _ :: _ :: _ :: _ :: _ :: _ :: _ :: _ :: _ :: _ :: _ :: _ :: _ :: _ :: _ :: _ :: _ :: _ :: _ :: _ :: _ :: _ :: []), defers := [] } _
          refine wpAnyH_ready (rs := [7]) (by kernel_rfl) (by simp) ?_
          refine (AllReadyH.cons rfl (fun KK hK => ?_) AllReadyH.nil)
          go_simp
          have hbz := balloc wc2 (.cells #[.float .f64 0, .float .f64 0] 26)
          have z7 : (wc2.alloc (.cells #[.float .f64 0, .float .f64 0] 26)).heap[wc2.heap.size]? = some (.cells #[.float .f64 0, .float .f64 0] 26 (0, 0)) := one_block wc2 _
          have zl7 : v.heap.size ≤ wc2.heap.size := Bd.size
          have Bz7 := btrans Bd hbz
          have ne67 : b6 ≠ wc2.heap.size := Nat.ne_of_lt (lt_of_block z6)
          have z6 := keepB hbz z6
          clear hbz
          generalize wc2.heap.size = b7 at *
          generalize wc2.alloc (.cells #[.float .f64 0, .float .f64 0] 26) = wz7 at *
          clear hHeld
          refine hK.out _ _ (by obtain ⟨⟨k0, k1⟩, -⟩ := twoC (keepB Bz7 KA); obtain ⟨⟨k2, k3⟩, -⟩ := twoC (keepB Bz7 KB); exact ⟨k0, k1, k2, k3⟩) (fun hHeld => ?_)
          clear hK KK
          change wpAnyH _ _ _ _ _ _ _ { tmps := List.toArray (_ :: _ :: _ :: _ :: _ :: .pointer (some ⟨b6, 0, none⟩) :: .pointer (some ⟨b7, 0, none⟩) :: _ :: _ :: _ :: _ :: _ :: _ :: _ :: _ :: _ :: _ :: _ :: _ :: _ :: _ :: _ :: _ :: _ :: _ :: _ :: _ :: _ :: _ :: _ :: _ :: _ :: _ :: _ :: _ :: _ :: .agg #[.float .f64 a0, .float .f64 a1] :: .agg #[.float .f64 b0, .float .f64 b1] :: .agg #[.float .f64 p0, .float .f64 p1] :: .agg #[.float .f64 b0, .float .f64 b1] :: .agg #[.float .f64 a0, .float .f64 a1] :: .agg #[.float .f64 q0, .float .f64 q1] :: _ :: _ :: _ :: _ :: _ :: _ :: _ :: _ :: _ :: _ :: _ :: _ :: _ :: _ :: _ :: _ :: _ :: _ :: _ :: _ :: _ :: _ :: _ :: _ :: _ :: _ :: _ :: _ :: _ :: _ :: _ :: _ :: _ :: _ :: _ :: _ :: _ :: _ :: _ :: _ :: _ :: _ :: _ :: _ :: _ :: _ :: _ :: _ :: _ :: _ :: _ :: _ :: _ :: _ :: _ :: _ :: _ :: _ :: _ :: _ :: _ :: _ :: _ :: _ :: _ :: _ :: _ :: _ :: _ :: _ :: _ :: _ :: _ :: _ :: _ :: _ :: _ :: _ :: _ :: _ :: _ :: _ :: _ :: _ :: _ :: _ :: _ :: _ :: _ :: _ :: _ :: _ :: _ :: _ :: _ :: _ :: _ :: _ :: _ :: []), defers := [] } _
          refine wpAnyH_ready (rs := [8]) (by kernel_rfl) (by simp) ?_
          refine (AllReadyH.cons rfl (fun KK hK => ?_) AllReadyH.nil)
          obtain ⟨⟨m0, m1⟩, y0, y1⟩ := twoC z6
          have n67 : b6 ≠ b7 := ne67
          have Bs : Below v.heap.size v ((wz7.setCell ⟨b6, 0, none⟩ (.float .f64 p0)).setCell ⟨b6, 1, none⟩ (.float .f64 p1)) := below_set zl6 (below_set zl6 Bz7)
          have x6 : ((wz7.setCell ⟨b6, 0, none⟩ (.float .f64 p0)).setCell ⟨b6, 1, none⟩ (.float .f64 p1)).heap[b6]? = some (.cells #[.float .f64 p0, .float .f64 p1] 26 (0, 0)) := heap_same _ b6 1 _ _ _ (heap_same _ b6 0 _ _ _ z6)
          have x7 : ((wz7.setCell ⟨b6, 0, none⟩ (.float .f64 p0)).setCell ⟨b6, 1, none⟩ (.float .f64 p1)).heap[b7]? = some (.cells #[.float .f64 0, .float .f64 0] 26 (0, 0)) := (heap_setCell n67.symm).trans ((heap_setCell n67.symm).trans z7)
          go_simp
          clear hHeld
          refine hK.out _ _ (by obtain ⟨⟨k0, k1⟩, -⟩ := twoC (keepB Bs KA); obtain ⟨⟨k2, k3⟩, -⟩ := twoC (keepB Bs KB); exact ⟨k0, k1, k2, k3⟩) (fun hHeld => ?_)
          clear hK KK
          change wpAnyH _ _ _ _ _ _ _ { tmps := List.toArray (_ :: _ :: _ :: _ :: _ :: .pointer (some ⟨b6, 0, none⟩) :: .pointer (some ⟨b7, 0, none⟩) :: _ :: _ :: _ :: _ :: _ :: _ :: _ :: _ :: _ :: _ :: _ :: _ :: _ :: _ :: _ :: _ :: _ :: _ :: _ :: _ :: _ :: _ :: _ :: _ :: _ :: _ :: _ :: _ :: _ :: .agg #[.float .f64 a0, .float .f64 a1] :: .agg #[.float .f64 b0, .float .f64 b1] :: .agg #[.float .f64 p0, .float .f64 p1] :: .agg #[.float .f64 b0, .float .f64 b1] :: .agg #[.float .f64 a0, .float .f64 a1] :: .agg #[.float .f64 q0, .float .f64 q1] :: _ :: _ :: _ :: _ :: _ :: _ :: _ :: _ :: _ :: _ :: _ :: _ :: _ :: _ :: _ :: _ :: _ :: _ :: _ :: _ :: _ :: _ :: _ :: _ :: _ :: _ :: _ :: _ :: _ :: _ :: _ :: _ :: _ :: _ :: _ :: _ :: _ :: _ :: _ :: _ :: _ :: _ :: _ :: _ :: _ :: _ :: _ :: _ :: _ :: _ :: _ :: _ :: _ :: _ :: _ :: _ :: _ :: _ :: _ :: _ :: _ :: _ :: _ :: _ :: _ :: _ :: _ :: _ :: _ :: _ :: _ :: _ :: _ :: _ :: _ :: _ :: _ :: _ :: _ :: _ :: _ :: _ :: _ :: _ :: _ :: _ :: _ :: _ :: _ :: _ :: _ :: _ :: _ :: _ :: _ :: _ :: _ :: _ :: _ :: []), defers := [] } _
          refine wpAnyH_ready (rs := [9]) (by kernel_rfl) (by simp) ?_
          refine (AllReadyH.cons rfl (fun KK hK => ?_) AllReadyH.nil)
          obtain ⟨⟨m2, m3⟩, y2, y3⟩ := twoC x7
          have Bt : Below v.heap.size v ((((wz7.setCell ⟨b6, 0, none⟩ (.float .f64 p0)).setCell ⟨b6, 1, none⟩ (.float .f64 p1)).setCell ⟨b7, 0, none⟩ (.float .f64 q0)).setCell ⟨b7, 1, none⟩ (.float .f64 q1)) := below_set zl7 (below_set zl7 Bs)
          have v7 : ((((wz7.setCell ⟨b6, 0, none⟩ (.float .f64 p0)).setCell ⟨b6, 1, none⟩ (.float .f64 p1)).setCell ⟨b7, 0, none⟩ (.float .f64 q0)).setCell ⟨b7, 1, none⟩ (.float .f64 q1)).heap[b7]? = some (.cells #[.float .f64 q0, .float .f64 q1] 26 (0, 0)) := heap_same _ b7 1 _ _ _ (heap_same _ b7 0 _ _ _ x7)
          have v6 : ((((wz7.setCell ⟨b6, 0, none⟩ (.float .f64 p0)).setCell ⟨b6, 1, none⟩ (.float .f64 p1)).setCell ⟨b7, 0, none⟩ (.float .f64 q0)).setCell ⟨b7, 1, none⟩ (.float .f64 q1)).heap[b6]? = some (.cells #[.float .f64 p0, .float .f64 p1] 26 (0, 0)) := (heap_setCell n67).trans ((heap_setCell n67).trans x6)
          go_simp
          clear hHeld
          refine hK.out _ _ (by obtain ⟨⟨k0, k1⟩, -⟩ := twoC (keepB Bt KA); obtain ⟨⟨k2, k3⟩, -⟩ := twoC (keepB Bt KB); exact ⟨k0, k1, k2, k3⟩) (fun hHeld => ?_)
          clear hK KK
          change wpAnyH _ _ _ _ _ _ _ { tmps := List.toArray (_ :: _ :: _ :: _ :: _ :: .pointer (some ⟨b6, 0, none⟩) :: .pointer (some ⟨b7, 0, none⟩) :: _ :: _ :: _ :: _ :: _ :: _ :: _ :: _ :: _ :: _ :: _ :: _ :: _ :: _ :: _ :: _ :: _ :: _ :: _ :: _ :: _ :: _ :: _ :: _ :: _ :: _ :: _ :: _ :: _ :: .agg #[.float .f64 a0, .float .f64 a1] :: .agg #[.float .f64 b0, .float .f64 b1] :: .agg #[.float .f64 p0, .float .f64 p1] :: .agg #[.float .f64 b0, .float .f64 b1] :: .agg #[.float .f64 a0, .float .f64 a1] :: .agg #[.float .f64 q0, .float .f64 q1] :: _ :: _ :: _ :: _ :: _ :: _ :: _ :: _ :: _ :: _ :: _ :: _ :: _ :: _ :: _ :: _ :: _ :: _ :: _ :: _ :: _ :: _ :: _ :: _ :: _ :: _ :: _ :: _ :: _ :: _ :: _ :: _ :: _ :: _ :: _ :: _ :: _ :: _ :: _ :: _ :: _ :: _ :: _ :: _ :: _ :: _ :: _ :: _ :: _ :: _ :: _ :: _ :: _ :: _ :: _ :: _ :: _ :: _ :: _ :: _ :: _ :: _ :: _ :: _ :: _ :: _ :: _ :: _ :: _ :: _ :: _ :: _ :: _ :: _ :: _ :: _ :: _ :: _ :: _ :: _ :: _ :: _ :: _ :: _ :: _ :: _ :: _ :: _ :: _ :: _ :: _ :: _ :: _ :: _ :: _ :: _ :: _ :: _ :: _ :: []), defers := [] } _
          refine wpAnyH_done (by kernel_rfl) ?_ _
          go_wp2_with fail
          go_meet
          exact ⟨b6, p0, p1, b7, q0, q1, rfl, rfl, v6, v7, hP, hQ, zl6, zl7, Bt⟩
        · skip
          go_simp
          have hbz := balloc wz6 (.cells #[.float .f64 0, .float .f64 0] 26)
          have z7 : (wz6.alloc (.cells #[.float .f64 0, .float .f64 0] 26)).heap[wz6.heap.size]? = some (.cells #[.float .f64 0, .float .f64 0] 26 (0, 0)) := one_block wz6 _
          have zl7 : v.heap.size ≤ wz6.heap.size := Bz6.size
          have Bz7 := btrans Bz6 hbz
          have ne67 : b6 ≠ wz6.heap.size := Nat.ne_of_lt (lt_of_block z6)
          have z6 := keepB hbz z6
          clear hbz
          generalize wz6.heap.size = b7 at *
          generalize wz6.alloc (.cells #[.float .f64 0, .float .f64 0] 26) = wz7 at *
          clear hHeld
          refine hK.out _ _ (by obtain ⟨⟨k0, k1⟩, -⟩ := twoC (keepB Bz7 KA); obtain ⟨⟨k2, k3⟩, -⟩ := twoC (keepB Bz7 KB); exact ⟨k0, k1, k2, k3⟩) (fun hHeld => ?_)
          clear hK KK
          change wpAnyH _ _ _ _ _ _ _ { tmps := List.toArray (_ :: _ :: _ :: _ :: _ :: .pointer (some ⟨b6, 0, none⟩) :: .pointer (some ⟨b7, 0, none⟩) :: _ :: _ :: _ :: _ :: _ :: _ :: _ :: _ :: _ :: _ :: _ :: _ :: _ :: _ :: _ :: _ :: _ :: _ :: _ :: _ :: _ :: _ :: _ :: _ :: _ :: _ :: _ :: _ :: _ :: .agg #[.float .f64 a0, .float .f64 a1] :: .agg #[.float .f64 b0, .float .f64 b1] :: .agg #[.float .f64 p0, .float .f64 p1] :: .agg #[.float .f64 b0, .float .f64 b1] :: .agg #[.float .f64 a0, .float .f64 a1] :: _ :: _ :: _ :: _ :: _ :: _ :: _ :: _ :: _ :: _ :: _ :: _ :: _ :: _ :: _ :: _ :: _ :: _ :: _ :: _ :: _ :: _ :: _ :: _ :: _ :: _ :: _ :: _ :: _ :: _ :: _ :: _ :: _ :: _ :: _ :: _ :: _ :: _ :: _ :: _ :: _ :: _ :: _ :: _ :: _ :: _ :: _ :: _ :: _ :: _ :: _ :: _ :: _ :: _ :: _ :: _ :: _ :: _ :: _ :: _ :: _ :: _ :: _ :: _ :: _ :: _ :: _ :: _ :: _ :: _ :: _ :: _ :: _ :: _ :: _ :: _ :: _ :: _ :: _ :: _ :: _ :: _ :: _ :: _ :: _ :: _ :: _ :: _ :: _ :: _ :: _ :: _ :: _ :: _ :: _ :: _ :: _ :: _ :: _ :: _ :: []), defers := [] } _
          refine wpAnyH_ready (rs := [5]) (by kernel_rfl) (by simp) ?_
          refine (AllReadyH.cons rfl (fun KK hK => ?_) AllReadyH.nil)
          go_simp
          refine (cZMulI2 b0 b1 a0 a1 _).mono ?_
          rintro e wc2 ⟨q0, q1, rfl, hQ, hb⟩
          have Bd := btrans Bz7 hb
          have z6 := keepB hb z6
          have z7 := keepB hb z7
          clear hb
          go_wp2_with fail
          clear hHeld
          refine hK.out _ _ (by obtain ⟨⟨k0, k1⟩, -⟩ := twoC (keepB Bd KA); obtain ⟨⟨k2, k3⟩, -⟩ := twoC (keepB Bd KB); exact ⟨k0, k1, k2, k3⟩) (fun hHeld => ?_)
          clear hK KK
          change wpAnyH _ _ _ _ _ _ _ { tmps := List.toArray (_ :: _ :: _ :: _ :: _ :: .pointer (some ⟨b6, 0, none⟩) :: .pointer (some ⟨b7, 0, none⟩) :: _ :: _ :: _ :: _ :: _ :: _ :: _ :: _ :: _ :: _ :: _ :: _ :: _ :: _ :: _ :: _ :: _ :: _ :: _ :: _ :: _ :: _ :: _ :: _ :: _ :: _ :: _ :: _ :: _ :: .agg #[.float .f64 a0, .float .f64 a1] :: .agg #[.float .f64 b0, .float .f64 b1] :: .agg #[.float .f64 p0, .float .f64 p1] :: .agg #[.float .f64 b0, .float .f64 b1] :: .agg #[.float .f64 a0, .float .f64 a1] :: .agg #[.float .f64 q0, .float .f64 q1] :: _ :: _ :: _ :: _ :: _ :: _ :: _ :: _ :: _ :: _ :: _ :: _ :: _ :: _ :: _ :: _ :: _ :: _ :: _ :: _ :: _ :: _ :: _ :: _ :: _ :: _ :: _ :: _ :: _ :: _ :: _ :: _ :: _ :: _ :: _ :: _ :: _ :: _ :: _ :: _ :: _ :: _ :: _ :: _ :: _ :: _ :: _ :: _ :: _ :: _ :: _ :: _ :: _ :: _ :: _ :: _ :: _ :: _ :: _ :: _ :: _ :: _ :: _ :: _ :: _ :: _ :: _ :: _ :: _ :: _ :: _ :: _ :: _ :: _ :: _ :: _ :: _ :: _ :: _ :: _ :: _ :: _ :: _ :: _ :: _ :: _ :: _ :: _ :: _ :: _ :: _ :: _ :: _ :: _ :: _ :: _ :: _ :: _ :: _ :: []), defers := [] } _
          refine wpAnyH_ready (rs := [8]) (by kernel_rfl) (by simp) ?_
          refine (AllReadyH.cons rfl (fun KK hK => ?_) AllReadyH.nil)
          obtain ⟨⟨m0, m1⟩, y0, y1⟩ := twoC z6
          have n67 : b6 ≠ b7 := ne67
          have Bs : Below v.heap.size v ((wc2.setCell ⟨b6, 0, none⟩ (.float .f64 p0)).setCell ⟨b6, 1, none⟩ (.float .f64 p1)) := below_set zl6 (below_set zl6 Bd)
          have x6 : ((wc2.setCell ⟨b6, 0, none⟩ (.float .f64 p0)).setCell ⟨b6, 1, none⟩ (.float .f64 p1)).heap[b6]? = some (.cells #[.float .f64 p0, .float .f64 p1] 26 (0, 0)) := heap_same _ b6 1 _ _ _ (heap_same _ b6 0 _ _ _ z6)
          have x7 : ((wc2.setCell ⟨b6, 0, none⟩ (.float .f64 p0)).setCell ⟨b6, 1, none⟩ (.float .f64 p1)).heap[b7]? = some (.cells #[.float .f64 0, .float .f64 0] 26 (0, 0)) := (heap_setCell n67.symm).trans ((heap_setCell n67.symm).trans z7)
          go_simp
          clear hHeld
          refine hK.out _ _ (by obtain ⟨⟨k0, k1⟩, -⟩ := twoC (keepB Bs KA); obtain ⟨⟨k2, k3⟩, -⟩ := twoC (keepB Bs KB); exact ⟨k0, k1, k2, k3⟩) (fun hHeld => ?_)
          clear hK KK
          change wpAnyH _ _ _ _ _ _ _ { tmps := List.toArray (_ :: _ :: _ :: _ :: _ :: .pointer (some ⟨b6, 0, none⟩) :: .pointer (some ⟨b7, 0, none⟩) :: _ :: _ :: _ :: _ :: _ :: _ :: _ :: _ :: _ :: _ :: _ :: _ :: _ :: _ :: _ :: _ :: _ :: _ :: _ :: _ :: _ :: _ :: _ :: _ :: _ :: _ :: _ :: _ :: _ :: .agg #[.float .f64 a0, .float .f64 a1] :: .agg #[.float .f64 b0, .float .f64 b1] :: .agg #[.float .f64 p0, .float .f64 p1] :: .agg #[.float .f64 b0, .float .f64 b1] :: .agg #[.float .f64 a0, .float .f64 a1] :: .agg #[.float .f64 q0, .float .f64 q1] :: _ :: _ :: _ :: _ :: _ :: _ :: _ :: _ :: _ :: _ :: _ :: _ :: _ :: _ :: _ :: _ :: _ :: _ :: _ :: _ :: _ :: _ :: _ :: _ :: _ :: _ :: _ :: _ :: _ :: _ :: _ :: _ :: _ :: _ :: _ :: _ :: _ :: _ :: _ :: _ :: _ :: _ :: _ :: _ :: _ :: _ :: _ :: _ :: _ :: _ :: _ :: _ :: _ :: _ :: _ :: _ :: _ :: _ :: _ :: _ :: _ :: _ :: _ :: _ :: _ :: _ :: _ :: _ :: _ :: _ :: _ :: _ :: _ :: _ :: _ :: _ :: _ :: _ :: _ :: _ :: _ :: _ :: _ :: _ :: _ :: _ :: _ :: _ :: _ :: _ :: _ :: _ :: _ :: _ :: _ :: _ :: _ :: _ :: _ :: []), defers := [] } _
          refine wpAnyH_ready (rs := [9]) (by kernel_rfl) (by simp) ?_
          refine (AllReadyH.cons rfl (fun KK hK => ?_) AllReadyH.nil)
          obtain ⟨⟨m2, m3⟩, y2, y3⟩ := twoC x7
          have Bt : Below v.heap.size v ((((wc2.setCell ⟨b6, 0, none⟩ (.float .f64 p0)).setCell ⟨b6, 1, none⟩ (.float .f64 p1)).setCell ⟨b7, 0, none⟩ (.float .f64 q0)).setCell ⟨b7, 1, none⟩ (.float .f64 q1)) := below_set zl7 (below_set zl7 Bs)
          have v7 : ((((wc2.setCell ⟨b6, 0, none⟩ (.float .f64 p0)).setCell ⟨b6, 1, none⟩ (.float .f64 p1)).setCell ⟨b7, 0, none⟩ (.float .f64 q0)).setCell ⟨b7, 1, none⟩ (.float .f64 q1)).heap[b7]? = some (.cells #[.float .f64 q0, .float .f64 q1] 26 (0, 0)) := heap_same _ b7 1 _ _ _ (heap_same _ b7 0 _ _ _ x7)
          have v6 : ((((wc2.setCell ⟨b6, 0, none⟩ (.float .f64 p0)).setCell ⟨b6, 1, none⟩ (.float .f64 p1)).setCell ⟨b7, 0, none⟩ (.float .f64 q0)).setCell ⟨b7, 1, none⟩ (.float .f64 q1)).heap[b6]? = some (.cells #[.float .f64 p0, .float .f64 p1] 26 (0, 0)) := (heap_setCell n67).trans ((heap_setCell n67).trans x6)
          go_simp
          clear hHeld
          refine hK.out _ _ (by obtain ⟨⟨k0, k1⟩, -⟩ := twoC (keepB Bt KA); obtain ⟨⟨k2, k3⟩, -⟩ := twoC (keepB Bt KB); exact ⟨k0, k1, k2, k3⟩) (fun hHeld => ?_)
          clear hK KK
          change wpAnyH _ _ _ _ _ _ _ { tmps := List.toArray (_ :: _ :: _ :: _ :: _ :: .pointer (some ⟨b6, 0, none⟩) :: .pointer (some ⟨b7, 0, none⟩) :: _ :: _ :: _ :: _ :: _ :: _ :: _ :: _ :: _ :: _ :: _ :: _ :: _ :: _ :: _ :: _ :: _ :: _ :: _ :: _ :: _ :: _ :: _ :: _ :: _ :: _ :: _ :: _ :: _ :: .agg #[.float .f64 a0, .float .f64 a1] :: .agg #[.float .f64 b0, .float .f64 b1] :: .agg #[.float .f64 p0, .float .f64 p1] :: .agg #[.float .f64 b0, .float .f64 b1] :: .agg #[.float .f64 a0, .float .f64 a1] :: .agg #[.float .f64 q0, .float .f64 q1] :: _ :: _ :: _ :: _ :: _ :: _ :: _ :: _ :: _ :: _ :: _ :: _ :: _ :: _ :: _ :: _ :: _ :: _ :: _ :: _ :: _ :: _ :: _ :: _ :: _ :: _ :: _ :: _ :: _ :: _ :: _ :: _ :: _ :: _ :: _ :: _ :: _ :: _ :: _ :: _ :: _ :: _ :: _ :: _ :: _ :: _ :: _ :: _ :: _ :: _ :: _ :: _ :: _ :: _ :: _ :: _ :: _ :: _ :: _ :: _ :: _ :: _ :: _ :: _ :: _ :: _ :: _ :: _ :: _ :: _ :: _ :: _ :: _ :: _ :: _ :: _ :: _ :: _ :: _ :: _ :: _ :: _ :: _ :: _ :: _ :: _ :: _ :: _ :: _ :: _ :: _ :: _ :: _ :: _ :: _ :: _ :: _ :: _ :: _ :: []), defers := [] } _
          refine wpAnyH_done (by kernel_rfl) ?_ _
          go_wp2_with fail
          go_meet
          exact ⟨b6, p0, p1, b7, q0, q1, rfl, rfl, v6, v7, hP, hQ, zl6, zl7, Bt⟩
      · skip
        go_simp
        have hbz := balloc wc1 (.cells #[.float .f64 0, .float .f64 0] 26)
        have z7 : (wc1.alloc (.cells #[.float .f64 0, .float .f64 0] 26)).heap[wc1.heap.size]? = some (.cells #[.float .f64 0, .float .f64 0] 26 (0, 0)) := one_block wc1 _
        have zl7 : v.heap.size ≤ wc1.heap.size := Bc.size
        have Bz7 := btrans Bc hbz
        clear hbz
        generalize wc1.heap.size = b7 at *
        generalize wc1.alloc (.cells #[.float .f64 0, .float .f64 0] 26) = wz7 at *
        clear hHeld
        refine hK.out _ _ (by obtain ⟨⟨k0, k1⟩, -⟩ := twoC (keepB Bz7 KA); obtain ⟨⟨k2, k3⟩, -⟩ := twoC (keepB Bz7 KB); exact ⟨k0, k1, k2, k3⟩) (fun hHeld => ?_)
        clear hK KK
        change wpAnyH _ _ _ _ _ _ _ { tmps := List.toArray (_ :: _ :: _ :: _ :: _ :: _ :: .pointer (some ⟨b7, 0, none⟩) :: _ :: _ :: _ :: _ :: _ :: _ :: _ :: _ :: _ :: _ :: _ :: _ :: _ :: _ :: _ :: _ :: _ :: _ :: _ :: _ :: _ :: _ :: _ :: _ :: _ :: _ :: _ :: _ :: _ :: .agg #[.float .f64 a0, .float .f64 a1] :: .agg #[.float .f64 b0, .float .f64 b1] :: .agg #[.float .f64 p0, .float .f64 p1] :: .agg #[.float .f64 b0, .float .f64 b1] :: .agg #[.float .f64 a0, .float .f64 a1] :: _ :: _ :: _ :: _ :: _ :: _ :: _ :: _ :: _ :: _ :: _ :: _ :: _ :: _ :: _ :: _ :: _ :: _ :: _ :: _ :: _ :: _ :: _ :: _ :: _ :: _ :: _ :: _ :: _ :: _ :: _ :: _ :: _ :: _ :: _ :: _ :: _ :: _ :: _ :: _ :: _ :: _ :: _ :: _ :: _ :: _ :: _ :: _ :: _ :: _ :: _ :: _ :: _ :: _ :: _ :: _ :: _ :: _ :: _ :: _ :: _ :: _ :: _ :: _ :: _ :: _ :: _ :: _ :: _ :: _ :: _ :: _ :: _ :: _ :: _ :: _ :: _ :: _ :: _ :: _ :: _ :: _ :: _ :: _ :: _ :: _ :: _ :: _ :: _ :: _ :: _ :: _ :: _ :: _ :: _ :: _ :: _ :: _ :: _ :: _ :: []), defers := [] } _
        refine wpAnyH_ready (rs := [5, 6]) (by kernel_rfl) (by simp) ?_
        refine (AllReadyH.cons rfl (fun KK hK => ?_) (AllReadyH.cons rfl (fun KK hK => ?_) AllReadyH.nil))
        · skip
          go_simp
          refine (cZMulI2 b0 b1 a0 a1 _).mono ?_
          rintro e wc2 ⟨q0, q1, rfl, hQ, hb⟩
          have Bd := btrans Bz7 hb
          have z7 := keepB hb z7
          clear hb
          go_wp2_with fail
          clear hHeld
          refine hK.out _ _ (by obtain ⟨⟨k0, k1⟩, -⟩ := twoC (keepB Bd KA); obtain ⟨⟨k2, k3⟩, -⟩ := twoC (keepB Bd KB); exact ⟨k0, k1, k2, k3⟩) (fun hHeld => ?_)
          clear hK KK
          change wpAnyH _ _ _ _ _ _ _ { tmps := List.toArray (_ :: _ :: _ :: _ :: _ :: _ :: .pointer (some ⟨b7, 0, none⟩) :: _ :: _ :: _ :: _ :: _ :: _ :: _ :: _ :: _ :: _ :: _ :: _ :: _ :: _ :: _ :: _ :: _ :: _ :: _ :: _ :: _ :: _ :: _ :: _ :: _ :: _ :: _ :: _ :: _ :: .agg #[.float .f64 a0, .float .f64 a1] :: .agg #[.float .f64 b0, .float .f64 b1] :: .agg #[.float .f64 p0, .float .f64 p1] :: .agg #[.float .f64 b0, .float .f64 b1] :: .agg #[.float .f64 a0, .float .f64 a1] :: .agg #[.float .f64 q0, .float .f64 q1] :: _ :: _ :: _ :: _ :: _ :: _ :: _ :: _ :: _ :: _ :: _ :: _ :: _ :: _ :: _ :: _ :: _ :: _ :: _ :: _ :: _ :: _ :: _ :: _ :: _ :: _ :: _ :: _ :: _ :: _ :: _ :: _ :: _ :: _ :: _ :: _ :: _ :: _ :: _ :: _ :: _ :: _ :: _ :: _ :: _ :: _ :: _ :: _ :: _ :: _ :: _ :: _ :: _ :: _ :: _ :: _ :: _ :: _ :: _ :: _ :: _ :: _ :: _ :: _ :: _ :: _ :: _ :: _ :: _ :: _ :: _ :: _ :: _ :: _ :: _ :: _ :: _ :: _ :: _ :: _ :: _ :: _ :: _ :: _ :: _ :: _ :: _ :: _ :: _ :: _ :: _ :: _ :: _ :: _ :: _ :: _ :: _ :: _ :: _ :: []), defers := [] } _
          refine wpAnyH_ready (rs := [6]) (by kernel_rfl) (by simp) ?_
          refine (AllReadyH.cons rfl (fun KK hK => ?_) AllReadyH.nil)
          go_simp
          have hbz := balloc wc2 (.cells #[.float .f64 0, .float .f64 0] 26)
          have z6 : (wc2.alloc (.cells #[.float .f64 0, .float .f64 0] 26)).heap[wc2.heap.size]? = some (.cells #[.float .f64 0, .float .f64 0] 26 (0, 0)) := one_block wc2 _
          have zl6 : v.heap.size ≤ wc2.heap.size := Bd.size
          have Bz6 := btrans Bd hbz
          have ne67 : b7 ≠ wc2.heap.size := Nat.ne_of_lt (lt_of_block z7)
          have z7 := keepB hbz z7
          clear hbz
          generalize wc2.heap.size = b6 at *
          generalize wc2.alloc (.cells #[.float .f64 0, .float .f64 0] 26) = wz6 at *
          clear hHeld
          refine hK.out _ _ (by obtain ⟨⟨k0, k1⟩, -⟩ := twoC (keepB Bz6 KA); obtain ⟨⟨k2, k3⟩, -⟩ := twoC (keepB Bz6 KB); exact ⟨k0, k1, k2, k3⟩) (fun hHeld => ?_)
          clear hK KK
          change wpAnyH _ _ _ _ _ _ _ { tmps := List.toArray (_ :: _ :: _ :: _ :: _ :: .pointer (some ⟨b6, 0, none⟩) :: .pointer (some ⟨b7, 0, none⟩) :: _ :: _ :: _ :: _ :: _ :: _ :: _ :: _ :: _ :: _ :: _ :: _ :: _ :: _ :: _ :: _ :: _ :: _ :: _ :: _ :: _ :: _ :: _ :: _ :: _ :: _ :: _ :: _ :: _ :: .agg #[.float .f64 a0, .float .f64 a1] :: .agg #[.float .f64 b0, .float .f64 b1] :: .agg #[.float .f64 p0, .float .f64 p1] :: .agg #[.float .f64 b0, .float .f64 b1] :: .agg #[.float .f64 a0, .float .f64 a1] :: .agg #[.float .f64 q0, .float .f64 q1] :: _ :: _ :: _ :: _ :: _ :: _ :: _ :: _ :: _ :: _ :: _ :: _ :: _ :: _ :: _ :: _ :: _ :: _ :: _ :: _ :: _ :: _ :: _ :: _ :: _ :: _ :: _ :: _ :: _ :: _ :: _ :: _ :: _ :: _ :: _ :: _ :: _ :: _ :: _ :: _ :: _ :: _ :: _ :: _ :: _ :: _ :: _ :: _ :: _ :: _ :: _ :: _ :: _ :: _ :: _ :: _ :: _ :: _ :: _ :: _ :: _ :: _ :: _ :: _ :: _ :: _ :: _ :: _ :: _ :: _ :: _ :: _ :: _ :: _ :: _ :: _ :: _ :: _ :: _ :: _ :: _ :: _ :: _ :: _ :: _ :: _ :: _ :: _ :: _ :: _ :: _ :: _ :: _ :: _ :: _ :: _ :: _ :: _ :: _ :: []), defers := [] } _
          refine wpAnyH_ready (rs := [8]) (by kernel_rfl) (by simp) ?_
          refine (AllReadyH.cons rfl (fun KK hK => ?_) AllReadyH.nil)
          obtain ⟨⟨m0, m1⟩, y0, y1⟩ := twoC z6
          have n67 : b6 ≠ b7 := ne67.symm
          have Bs : Below v.heap.size v ((wz6.setCell ⟨b6, 0, none⟩ (.float .f64 p0)).setCell ⟨b6, 1, none⟩ (.float .f64 p1)) := below_set zl6 (below_set zl6 Bz6)
          have x6 : ((wz6.setCell ⟨b6, 0, none⟩ (.float .f64 p0)).setCell ⟨b6, 1, none⟩ (.float .f64 p1)).heap[b6]? = some (.cells #[.float .f64 p0, .float .f64 p1] 26 (0, 0)) := heap_same _ b6 1 _ _ _ (heap_same _ b6 0 _ _ _ z6)
          have x7 : ((wz6.setCell ⟨b6, 0, none⟩ (.float .f64 p0)).setCell ⟨b6, 1, none⟩ (.float .f64 p1)).heap[b7]? = some (.cells #[.float .f64 0, .float .f64 0] 26 (0, 0)) := (heap_setCell n67.symm).trans ((heap_setCell n67.symm).trans z7)
          go_simp
          clear hHeld
          refine hK.out _ _ (by obtain ⟨⟨k0, k1⟩, -⟩ := twoC (keepB Bs KA); obtain ⟨⟨k2, k3⟩, -⟩ := twoC (keepB Bs KB); exact ⟨k0, k1, k2, k3⟩) (fun hHeld => ?_)
          clear hK KK
          change wpAnyH _ _ _ _ _ _ _ { tmps := List.toArray (_ :: _ :: _ :: _ :: _ :: .pointer (some ⟨b6, 0, none⟩) :: .pointer (some ⟨b7, 0, none⟩) :: _ :: _ :: _ :: _ :: _ :: _ :: _ :: _ :: _ :: _ :: _ :: _ :: _ :: _ :: _ :: _ :: _ :: _ :: _ :: _ :: _ :: _ :: _ :: _ :: _ :: _ :: _ :: _ :: _ :: .agg #[.float .f64 a0, .float .f64 a1] :: .agg #[.float .f64 b0, .float .f64 b1] :: .agg #[.float .f64 p0, .float .f64 p1] :: .agg #[.float .f64 b0, .float .f64 b1] :: .agg #[.float .f64 a0, .float .f64 a1] :: .agg #[.float .f64 q0, .float .f64 q1] :: _ :: _ :: _ :: _ :: _ :: _ :: _ :: _ :: _ :: _ :: _ :: _ :: _ :: _ :: _ :: _ :: _ :: _ :: _ :: _ :: _ :: _ :: _ :: _ :: _ :: _ :: _ :: _ :: _ :: _ :: _ :: _ :: _ :: _ :: _ :: _ :: _ :: _ :: _ :: _ :: _ :: _ :: _ :: _ :: _ :: _ :: _ :: _ :: _ :: _ :: _ :: _ :: _ :: _ :: _ :: _ :: _ :: _ :: _ :: _ :: _ :: _ :: _ :: _ :: _ :: _ :: _ :: _ :: _ :: _ :: _ :: _ :: _ :: _ :: _ :: _ :: _ :: _ :: _ :: _ :: _ :: _ :: _ :: _ :: _ :: _ :: _ :: _ :: _ :: _ :: _ :: _ :: _ :: _ :: _ :: _ :: _ :: _ :: _ :: []), defers := [] } _
          refine wpAnyH_ready (rs := [9]) (by kernel_rfl) (by simp) ?_
          refine (AllReadyH.cons rfl (fun KK hK => ?_) AllReadyH.nil)
          obtain ⟨⟨m2, m3⟩, y2, y3⟩ := twoC x7
          have Bt : Below v.heap.size v ((((wz6.setCell ⟨b6, 0, none⟩ (.float .f64 p0)).setCell ⟨b6, 1, none⟩ (.float .f64 p1)).setCell ⟨b7, 0, none⟩ (.float .f64 q0)).setCell ⟨b7, 1, none⟩ (.float .f64 q1)) := below_set zl7 (below_set zl7 Bs)
          have v7 : ((((wz6.setCell ⟨b6, 0, none⟩ (.float .f64 p0)).setCell ⟨b6, 1, none⟩ (.float .f64 p1)).setCell ⟨b7, 0, none⟩ (.float .f64 q0)).setCell ⟨b7, 1, none⟩ (.float .f64 q1)).heap[b7]? = some (.cells #[.float .f64 q0, .float .f64 q1] 26 (0, 0)) := heap_same _ b7 1 _ _ _ (heap_same _ b7 0 _ _ _ x7)
          have v6 : ((((wz6.setCell ⟨b6, 0, none⟩ (.float .f64 p0)).setCell ⟨b6, 1, none⟩ (.float .f64 p1)).setCell ⟨b7, 0, none⟩ (.float .f64 q0)).setCell ⟨b7, 1, none⟩ (.float .f64 q1)).heap[b6]? = some (.cells #[.float .f64 p0, .float .f64 p1] 26 (0, 0)) := (heap_setCell n67).trans ((heap_setCell n67).trans x6)
          go_simp
          clear hHeld
          refine hK.out _ _ (by obtain ⟨⟨k0, k1⟩, -⟩ := twoC (keepB Bt KA); obtain ⟨⟨k2, k3⟩, -⟩ := twoC (keepB Bt KB); exact ⟨k0, k1, k2, k3⟩) (fun hHeld => ?_)
          clear hK KK
          change wpAnyH _ _ _ _ _ _ _ { tmps := List.toArray (_ :: _ :: _ :: _ :: _ :: .pointer (some ⟨b6, 0, none⟩) :: .pointer (some ⟨b7, 0, none⟩) :: _ :: _ :: _ :: _ :: _ :: _ :: _ :: _ :: _ :: _ :: _ :: _ :: _ :: _ :: _ :: _ :: _ :: _ :: _ :: _ :: _ :: _ :: _ :: _ :: _ :: _ :: _ :: _ :: _ :: .agg #[.float .f64 a0, .float .f64 a1] :: .agg #[.float .f64 b0, .float .f64 b1] :: .agg #[.float .f64 p0, .float .f64 p1] :: .agg #[.float .f64 b0, .float .f64 b1] :: .agg #[.float .f64 a0, .float .f64 a1] :: .agg #[.float .f64 q0, .float .f64 q1] :: _ :: _ :: _ :: _ :: _ :: _ :: _ :: _ :: _ :: _ :: _ :: _ :: _ :: _ :: _ :: _ :: _ :: _ :: _ :: _ :: _ :: _ :: _ :: _ :: _ :: _ :: _ :: _ :: _ :: _ :: _ :: _ :: _ :: _ :: _ :: _ :: _ :: _ :: _ :: _ :: _ :: _ :: _ :: _ :: _ :: _ :: _ :: _ :: _ :: _ :: _ :: _ :: _ :: _ :: _ :: _ :: _ :: _ :: _ :: _ :: _ :: _ :: _ :: _ :: _ :: _ :: _ :: _ :: _ :: _ :: _ :: _ :: _ :: _ :: _ :: _ :: _ :: _ :: _ :: _ :: _ :: _ :: _ :: _ :: _ :: _ :: _ :: _ :: _ :: _ :: _ :: _ :: _ :: _ :: _ :: _ :: _ :: _ :: _ :: []), defers := [] } _
          refine wpAnyH_done (by kernel_rfl) ?_ _
          go_wp2_with fail
          go_meet
          exact ⟨b6, p0, p1, b7, q0, q1, rfl, rfl, v6, v7, hP, hQ, zl6, zl7, Bt⟩
        · skip
          go_simp
          have hbz := balloc wz7 (.cells #[.float .f64 0, .float .f64 0] 26)
          have z6 : (wz7.alloc (.cells #[.float .f64 0, .float .f64 0] 26)).heap[wz7.heap.size]? = some (.cells #[.float .f64 0, .float .f64 0] 26 (0, 0)) := one_block wz7 _
          have zl6 : v.heap.size ≤ wz7.heap.size := Bz7.size
          have Bz6 := btrans Bz7 hbz
          have ne67 : b7 ≠ wz7.heap.size := Nat.ne_of_lt (lt_of_block z7)
          have z7 := keepB hbz z7
          clear hbz
          generalize wz7.heap.size = b6 at *
          generalize wz7.alloc (.cells #[.float .f64 0, .float .f64 0] 26) = wz6 at *
          clear hHeld
          refine hK.out _ _ (by obtain ⟨⟨k0, k1⟩, -⟩ := twoC (keepB Bz6 KA); obtain ⟨⟨k2, k3⟩, -⟩ := twoC (keepB Bz6 KB); exact ⟨k0, k1, k2, k3⟩) (fun hHeld => ?_)
          clear hK KK
          change wpAnyH _ _ _ _ _ _ _ { tmps := List.toArray (_ :: _ :: _ :: _ :: _ :: .pointer (some ⟨b6, 0, none⟩) :: .pointer (some ⟨b7, 0, none⟩) :: _ :: _ :: _ :: _ :: _ :: _ :: _ :: _ :: _ :: _ :: _ :: _ :: _ :: _ :: _ :: _ :: _ :: _ :: _ :: _ :: _ :: _ :: _ :: _ :: _ :: _ :: _ :: _ :: _ :: .agg #[.float .f64 a0, .float .f64 a1] :: .agg #[.float .f64 b0, .float .f64 b1] :: .agg #[.float .f64 p0, .float .f64 p1] :: .agg #[.float .f64 b0, .float .f64 b1] :: .agg #[.float .f64 a0, .float .f64 a1] :: _ :: _ :: _ :: _ :: _ :: _ :: _ :: _ :: _ :: _ :: _ :: _ :: _ :: _ :: _ :: _ :: _ :: _ :: _ :: _ :: _ :: _ :: _ :: _ :: _ :: _ :: _ :: _ :: _ :: _ :: _ :: _ :: _ :: _ :: _ :: _ :: _ :: _ :: _ :: _ :: _ :: _ :: _ :: _ :: _ :: _ :: _ :: _ :: _ :: _ :: _ :: _ :: _ :: _ :: _ :: _ :: _ :: _ :: _ :: _ :: _ :: _ :: _ :: _ :: _ :: _ :: _ :: _ :: _ :: _ :: _ :: _ :: _ :: _ :: _ :: _ :: _ :: _ :: _ :: _ :: _ :: _ :: _ :: _ :: _ :: _ :: _ :: _ :: _ :: _ :: _ :: _ :: _ :: _ :: _ :: _ :: _ :: _ :: _ :: _ :: []), defers := [] } _
          refine wpAnyH_ready (rs := [5]) (by kernel_rfl) (by simp) ?_
          refine (AllReadyH.cons rfl (fun KK hK => ?_) AllReadyH.nil)
          go_simp
          refine (cZMulI2 b0 b1 a0 a1 _).mono ?_
          rintro e wc2 ⟨q0, q1, rfl, hQ, hb⟩
          have Bd := btrans Bz6 hb
          have z6 := keepB hb z6
          have z7 := keepB hb z7
          clear hb
          go_wp2_with fail
          clear hHeld
          refine hK.out _ _ (by obtain ⟨⟨k0, k1⟩, -⟩ := twoC (keepB Bd KA); obtain ⟨⟨k2, k3⟩, -⟩ := twoC (keepB Bd KB); exact ⟨k0, k1, k2, k3⟩) (fun hHeld => ?_)
          clear hK KK
          change wpAnyH _ _ _ _ _ _ _ { tmps := List.toArray (_ :: _ :: _ :: _ :: _ :: .pointer (some ⟨b6, 0, none⟩) :: .pointer (some ⟨b7, 0, none⟩) :: _ :: _ :: _ :: _ :: _ :: _ :: _ :: _ :: _ :: _ :: _ :: _ :: _ :: _ :: _ :: _ :: _ :: _ :: _ :: _ :: _ :: _ :: _ :: _ :: _ :: _ :: _ :: _ :: _ :: .agg #[.float .f64 a0, .float .f64 a1] :: .agg #[.float .f64 b0, .float .f64 b1] :: .agg #[.float .f64 p0, .float .f64 p1] :: .agg #[.float .f64 b0, .float .f64 b1] :: .agg #[.float .f64 a0, .float .f64 a1] :: .agg #[.float .f64 q0, .float .f64 q1] :: _ :: _ :: _ :: _ :: _ :: _ :: _ :: _ :: _ :: _ :: _ :: _ :: _ :: _ :: _ :: _ :: _ :: _ :: _ :: _ :: _ :: _ :: _ :: _ :: _ :: _ :: _ :: _ :: _ :: _ :: _ :: _ :: _ :: _ :: _ :: _ :: _ :: _ :: _ :: _ :: _ :: _ :: _ :: _ :: _ :: _ :: _ :: _ :: _ :: _ :: _ :: _ :: _ :: _ :: _ :: _ :: _ :: _ :: _ :: _ :: _ :: _ :: _ :: _ :: _ :: _ :: _ :: _ :: _ :: _ :: _ :: _ :: _ :: _ :: _ :: _ :: _ :: _ :: _ :: _ :: _ :: _ :: _ :: _ :: _ :: _ :: _ :: _ :: _ :: _ :: _ :: _ :: _ :: _ :: _ :: _ :: _ :: _ :: _ :: []), defers := [] } _
          refine wpAnyH_ready (rs := [8]) (by kernel_rfl) (by simp) ?_
          refine (AllReadyH.cons rfl (fun KK hK => ?_) AllReadyH.nil)
          obtain ⟨⟨m0, m1⟩, y0, y1⟩ := twoC z6
          have n67 : b6 ≠ b7 := ne67.symm
          have Bs : Below v.heap.size v ((wc2.setCell ⟨b6, 0, none⟩ (.float .f64 p0)).setCell ⟨b6, 1, none⟩ (.float .f64 p1)) := below_set zl6 (below_set zl6 Bd)
          have x6 : ((wc2.setCell ⟨b6, 0, none⟩ (.float .f64 p0)).setCell ⟨b6, 1, none⟩ (.float .f64 p1)).heap[b6]? = some (.cells #[.float .f64 p0, .float .f64 p1] 26 (0, 0)) := heap_same _ b6 1 _ _ _ (heap_same _ b6 0 _ _ _ z6)
          have x7 : ((wc2.setCell ⟨b6, 0, none⟩ (.float .f64 p0)).setCell ⟨b6, 1, none⟩ (.float .f64 p1)).heap[b7]? = some (.cells #[.float .f64 0, .float .f64 0] 26 (0, 0)) := (heap_setCell n67.symm).trans ((heap_setCell n67.symm).trans z7)
          go_simp
          clear hHeld
          refine hK.out _ _ (by obtain ⟨⟨k0, k1⟩, -⟩ := twoC (keepB Bs KA); obtain ⟨⟨k2, k3⟩, -⟩ := twoC (keepB Bs KB); exact ⟨k0, k1, k2, k3⟩) (fun hHeld => ?_)
          clear hK KK
          change wpAnyH _ _ _ _ _ _ _ { tmps := List.toArray (_ :: _ :: _ :: _ :: _ :: .pointer (some ⟨b6, 0, none⟩) :: .pointer (some ⟨b7, 0, none⟩) :: _ :: _ :: _ :: _ :: _ :: _ :: _ :: _ :: _ :: _ :: _ :: _ :: _ :: _ :: _ :: _ :: _ :: _ :: _ :: _ :: _ :: _ :: _ :: _ :: _ :: _ :: _ :: _ :: _ :: .agg #[.float .f64 a0, .float .f64 a1] :: .agg #[.float .f64 b0, .float .f64 b1] :: .agg #[.float .f64 p0, .float .f64 p1] :: .agg #[.float .f64 b0, .float .f64 b1] :: .agg #[.float .f64 a0, .float .f64 a1] :: .agg #[.float .f64 q0, .float .f64 q1] :: _ :: _ :: _ :: _ :: _ :: _ :: _ :: _ :: _ :: _ :: _ :: _ :: _ :: _ :: _ :: _ :: _ :: _ :: _ :: _ :: _ :: _ :: _ :: _ :: _ :: _ :: _ :: _ :: _ :: _ :: _ :: _ :: _ :: _ :: _ :: _ :: _ :: _ :: _ :: _ :: _ :: _ :: _ :: _ :: _ :: _ :: _ :: _ :: _ :: _ :: _ :: _ :: _ :: _ :: _ :: _ :: _ :: _ :: _ :: _ :: _ :: _ :: _ :: _ :: _ :: _ :: _ :: _ :: _ :: _ :: _ :: _ :: _ :: _ :: _ :: _ :: _ :: _ :: _ :: _ :: _ :: _ :: _ :: _ :: _ :: _ :: _ :: _ :: _ :: _ :: _ :: _ :: _ :: _ :: _ :: _ :: _ :: _ :: _ :: []), defers := [] } _
          refine wpAnyH_ready (rs := [9]) (by kernel_rfl) (by simp) ?_
          refine (AllReadyH.cons rfl (fun KK hK => ?_) AllReadyH.nil)
          obtain ⟨⟨m2, m3⟩, y2, y3⟩ := twoC x7
          have Bt : Below v.heap.size v ((((wc2.setCell ⟨b6, 0, none⟩ (.float .f64 p0)).setCell ⟨b6, 1, none⟩ (.float .f64 p1)).setCell ⟨b7, 0, none⟩ (.float .f64 q0)).setCell ⟨b7, 1, none⟩ (.float .f64 q1)) := below_set zl7 (below_set zl7 Bs)
          have v7 : ((((wc2.setCell ⟨b6, 0, none⟩ (.float .f64 p0)).setCell ⟨b6, 1, none⟩ (.float .f64 p1)).setCell ⟨b7, 0, none⟩ (.float .f64 q0)).setCell ⟨b7, 1, none⟩ (.float .f64 q1)).heap[b7]? = some (.cells #[.float .f64 q0, .float .f64 q1] 26 (0, 0)) := heap_same _ b7 1 _ _ _ (heap_same _ b7 0 _ _ _ x7)
          have v6 : ((((wc2.setCell ⟨b6, 0, none⟩ (.float .f64 p0)).setCell ⟨b6, 1, none⟩ (.float .f64 p1)).setCell ⟨b7, 0, none⟩ (.float .f64 q0)).setCell ⟨b7, 1, none⟩ (.float .f64 q1)).heap[b6]? = some (.cells #[.float .f64 p0, .float .f64 p1] 26 (0, 0)) := (heap_setCell n67).trans ((heap_setCell n67).trans x6)
          go_simp
          clear hHeld
          refine hK.out _ _ (by obtain ⟨⟨k0, k1⟩, -⟩ := twoC (keepB Bt KA); obtain ⟨⟨k2, k3⟩, -⟩ := twoC (keepB Bt KB); exact ⟨k0, k1, k2, k3⟩) (fun hHeld => ?_)
          clear hK KK
          change wpAnyH _ _ _ _ _ _ _ { tmps := List.toArray (_ :: _ :: _ :: _ :: _ :: .pointer (some ⟨b6, 0, none⟩) :: .pointer (some ⟨b7, 0, none⟩) :: _ :: _ :: _ :: _ :: _ :: _ :: _ :: _ :: _ :: _ :: _ :: _ :: _ :: _ :: _ :: _ :: _ :: _ :: _ :: _ :: _ :: _ :: _ :: _ :: _ :: _ :: _ :: _ :: _ :: .agg #[.float .f64 a0, .float .f64 a1] :: .agg #[.float .f64 b0, .float .f64 b1] :: .agg #[.float .f64 p0, .float .f64 p1] :: .agg #[.float .f64 b0, .float .f64 b1] :: .agg #[.float .f64 a0, .float .f64 a1] :: .agg #[.float .f64 q0, .float .f64 q1] :: _ :: _ :: _ :: _ :: _ :: _ :: _ :: _ :: _ :: _ :: _ :: _ :: _ :: _ :: _ :: _ :: _ :: _ :: _ :: _ :: _ :: _ :: _ :: _ :: _ :: _ :: _ :: _ :: _ :: _ :: _ :: _ :: _ :: _ :: _ :: _ :: _ :: _ :: _ :: _ :: _ :: _ :: _ :: _ :: _ :: _ :: _ :: _ :: _ :: _ :: _ :: _ :: _ :: _ :: _ :: _ :: _ :: _ :: _ :: _ :: _ :: _ :: _ :: _ :: _ :: _ :: _ :: _ :: _ :: _ :: _ :: _ :: _ :: _ :: _ :: _ :: _ :: _ :: _ :: _ :: _ :: _ :: _ :: _ :: _ :: _ :: _ :: _ :: _ :: _ :: _ :: _ :: _ :: _ :: _ :: _ :: _ :: _ :: _ :: []), defers := [] } _
          refine wpAnyH_done (by kernel_rfl) ?_ _
          go_wp2_with fail
          go_meet
          exact ⟨b6, p0, p1, b7, q0, q1, rfl, rfl, v6, v7, hP, hQ, zl6, zl7, Bt⟩
    · skip
      go_simp
      have hbz := balloc wd (.cells #[.float .f64 0, .float .f64 0] 26)
      have z6 : (wd.alloc (.cells #[.float .f64 0, .float .f64 0] 26)).heap[wd.heap.size]? = some (.cells #[.float .f64 0, .float .f64 0] 26 (0, 0)) := one_block wd _
      have zl6 : v.heap.size ≤ wd.heap.size := B0.size
      have Bz6 := btrans B0 hbz
      clear hbz
      generalize wd.heap.size = b6 at *
      generalize wd.alloc (.cells #[.float .f64 0, .float .f64 0] 26) = wz6 at *
      clear hHeld
      refine hK.out _ _ (by obtain ⟨⟨k0, k1⟩, -⟩ := twoC (keepB Bz6 KA); obtain ⟨⟨k2, k3⟩, -⟩ := twoC (keepB Bz6 KB); exact ⟨k0, k1, k2, k3⟩) (fun hHeld => ?_)
      clear hK KK
      change wpAnyH _ _ _ _ _ _ _ { tmps := List.toArray (_ :: _ :: _ :: _ :: _ :: .pointer (some ⟨b6, 0, none⟩) :: _ :: _ :: _ :: _ :: _ :: _ :: _ :: _ :: _ :: _ :: _ :: _ :: _ :: _ :: _ :: _ :: _ :: _ :: _ :: _ :: _ :: _ :: _ :: _ :: _ :: _ :: _ :: _ :: _ :: _ :: .agg #[.float .f64 a0, .float .f64 a1] :: .agg #[.float .f64 b0, .float .f64 b1] :: _ :: .agg #[.float .f64 b0, .float .f64 b1] :: .agg #[.float .f64 a0, .float .f64 a1] :: _ :: _ :: _ :: _ :: _ :: _ :: _ :: _ :: _ :: _ :: _ :: _ :: _ :: _ :: _ :: _ :: _ :: _ :: _ :: _ :: _ :: _ :: _ :: _ :: _ :: _ :: _ :: _ :: _ :: _ :: _ :: _ :: _ :: _ :: _ :: _ :: _ :: _ :: _ :: _ :: _ :: _ :: _ :: _ :: _ :: _ :: _ :: _ :: _ :: _ :: _ :: _ :: _ :: _ :: _ :: _ :: _ :: _ :: _ :: _ :: _ :: _ :: _ :: _ :: _ :: _ :: _ :: _ :: _ :: _ :: _ :: _ :: _ :: _ :: _ :: _ :: _ :: _ :: _ :: _ :: _ :: _ :: _ :: _ :: _ :: _ :: _ :: _ :: _ :: _ :: _ :: _ :: _ :: _ :: _ :: _ :: _ :: _ :: _ :: _ :: []), defers := [] } _
      refine wpAnyH_ready (rs := [2, 7]) (by kernel_rfl) (by simp) ?_
      refine (AllReadyH.cons rfl (fun KK hK => ?_) (AllReadyH.cons rfl (fun KK hK => ?_) AllReadyH.nil))
      · skip
        go_simp
        refine (cZMulI2 a0 a1 b0 b1 _).mono ?_
        rintro e wc1 ⟨p0, p1, rfl, hP, hb⟩
        have Bc := btrans Bz6 hb
        have z6 := keepB hb z6
        clear hb
        go_wp2_with fail
        clear hHeld
        refine hK.out _ _ (by obtain ⟨⟨k0, k1⟩, -⟩ := twoC (keepB Bc KA); obtain ⟨⟨k2, k3⟩, -⟩ := twoC (keepB Bc KB); exact ⟨k0, k1, k2, k3⟩) (fun hHeld => ?_)
        clear hK KK
        change wpAnyH _ _ _ _ _ _ _ { tmps := List.toArray (_ :: _ :: _ :: _ :: _ :: .pointer (some ⟨b6, 0, none⟩) :: _ :: _ :: _ :: _ :: _ :: _ :: _ :: _ :: _ :: _ :: _ :: _ :: _ :: _ :: _ :: _ :: _ :: _ :: _ :: _ :: _ :: _ :: _ :: _ :: _ :: _ :: _ :: _ :: _ :: _ :: .agg #[.float .f64 a0, .float .f64 a1] :: .agg #[.float .f64 b0, .float .f64 b1] :: .agg #[.float .f64 p0, .float .f64 p1] :: .agg #[.float .f64 b0, .float .f64 b1] :: .agg #[.float .f64 a0, .float .f64 a1] :: _ :: _ :: _ :: _ :: _ :: _ :: _ :: _ :: _ :: _ :: _ :: _ :: _ :: _ :: _ :: _ :: _ :: _ :: _ :: _ :: _ :: _ :: _ :: _ :: _ :: _ :: _ :: _ :: _ :: _ :: _ :: _ :: _ :: _ :: _ :: _ :: _ :: _ :: _ :: _ :: _ :: _ :: _ :: _ :: _ :: _ :: _ :: _ :: _ :: _ :: _ :: _ :: _ :: _ :: _ :: _ :: _ :: _ :: _ :: _ :: _ :: _ :: _ :: _ :: _ :: _ :: _ :: _ :: _ :: _ :: _ :: _ :: _ :: _ :: _ :: _ :: _ :: _ :: _ :: _ :: _ :: _ :: _ :: _ :: _ :: _ :: _ :: _ :: _ :: _ :: _ :: _ :: _ :: _ :: _ :: _ :: _ :: _ :: _ :: _ :: []), defers := [] } _
        refine wpAnyH_ready (rs := [5, 7]) (by kernel_rfl) (by simp) ?_
        refine (AllReadyH.cons rfl (fun KK hK => ?_) (AllReadyH.cons rfl (fun KK hK => ?_) AllReadyH.nil))
        · skip
          go_simp
          refine (cZMulI2 b0 b1 a0 a1 _).mono ?_
          rintro e wc2 ⟨q0, q1, rfl, hQ, hb⟩
          have Bd := btrans Bc hb
          have z6 := keepB hb z6
          clear hb
          go_wp2_with fail
          clear hHeld
          refine hK.out _ _ (by obtain ⟨⟨k0, k1⟩, -⟩ := twoC (keepB Bd KA); obtain ⟨⟨k2, k3⟩, -⟩ := twoC (keepB Bd KB); exact ⟨k0, k1, k2, k3⟩) (fun hHeld => ?_)
          clear hK KK
          change wpAnyH _ _ _ _ _ _ _ { tmps := List.toArray (_ :: _ :: _ :: _ :: _ :: .pointer (some ⟨b6, 0, none⟩) :: _ :: _ :: _ :: _ :: _ :: _ :: _ :: _ :: _ :: _ :: _ :: _ :: _ :: _ :: _ :: _ :: _ :: _ :: _ :: _ :: _ :: _ :: _ :: _ :: _ :: _ :: _ :: _ :: _ :: _ :: .agg #[.float .f64 a0, .float .f64 a1] :: .agg #[.float .f64 b0, .float .f64 b1] :: .agg #[.float .f64 p0, .float .f64 p1] :: .agg #[.float .f64 b0, .float .f64 b1] :: .agg #[.float .f64 a0, .float .f64 a1] :: .agg #[.float .f64 q0, .float .f64 q1] :: _ :: _ :: _ :: _ :: _ :: _ :: _ :: _ :: _ :: _ :: _ :: _ :: _ :: _ :: _ :: _ :: _ :: _ :: _ :: _ :: _ :: _ :: _ :: _ :: _ :: _ :: _ :: _ :: _ :: _ :: _ :: _ :: _ :: _ :: _ :: _ :: _ :: _ :: _ :: _ :: _ :: _ :: _ :: _ :: _ :: _ :: _ :: _ :: _ :: _ :: _ :: _ :: _ :: _ :: _ :: _ :: _ :: _ :: _ :: _ :: _ :: _ :: _ :: _ :: _ :: _ :: _ :: _ :: _ :: _ :: _ :: _ :: _ :: _ :: _ :: _ :: _ :: _ :: _ :: _ :: _ :: _ :: _ :: _ :: _ :: _ :: _ :: _ :: _ :: _ :: _ :: _ :: _ :: _ :: _ :: _ :: _ :: _ :: _ :: []), defers := [] } _
          refine wpAnyH_ready (rs := [7]) (by kernel_rfl) (by simp) ?_
          refine (AllReadyH.cons rfl (fun KK hK => ?_) AllReadyH.nil)
          go_simp
          have hbz := balloc wc2 (.cells #[.float .f64 0, .float .f64 0] 26)
          have z7 : (wc2.alloc (.cells #[.float .f64 0, .float .f64 0] 26)).heap[wc2.heap.size]? = some (.cells #[.float .f64 0, .float .f64 0] 26 (0, 0)) := one_block wc2 _
          have zl7 : v.heap.size ≤ wc2.heap.size := Bd.size
          have Bz7 := btrans Bd hbz
          have ne67 : b6 ≠ wc2.heap.size := Nat.ne_of_lt (lt_of_block z6)
          have z6 := keepB hbz z6
          clear hbz
          generalize wc2.heap.size = b7 at *
          generalize wc2.alloc (.cells #[.float .f64 0, .float .f64 0] 26) = wz7 at *
          clear hHeld
          refine hK.out _ _ (by obtain ⟨⟨k0, k1⟩, -⟩ := twoC (keepB Bz7 KA); obtain ⟨⟨k2, k3⟩, -⟩ := twoC (keepB Bz7 KB); exact ⟨k0, k1, k2, k3⟩) (fun hHeld => ?_)
          clear hK KK
          change wpAnyH _ _ _ _ _ _ _ { tmps := List.toArray (_ :: _ :: _ :: _ :: _ :: .pointer (some ⟨b6, 0, none⟩) :: .pointer (some ⟨b7, 0, none⟩) :: _ :: _ :: _ :: _ :: _ :: _ :: _ :: _ :: _ :: _ :: _ :: _ :: _ :: _ :: _ :: _ :: _ :: _ :: _ :: _ :: _ :: _ :: _ :: _ :: _ :: _ :: _ :: _ :: _ :: .agg #[.float .f64 a0, .float .f64 a1] :: .agg #[.float .f64 b0, .float .f64 b1] :: .agg #[.float .f64 p0, .float .f64 p1] :: .agg #[.float .f64 b0, .float .f64 b1] :: .agg #[.float .f64 a0, .float .f64 a1] :: .agg #[.float .f64 q0, .float .f64 q1] :: _ :: _ :: _ :: _ :: _ :: _ :: _ :: _ :: _ :: _ :: _ :: _ :: _ :: _ :: _ :: _ :: _ :: _ :: _ :: _ :: _ :: _ :: _ :: _ :: _ :: _ :: _ :: _ :: _ :: _ :: _ :: _ :: _ :: _ :: _ :: _ :: _ :: _ :: _ :: _ :: _ :: _ :: _ :: _ :: _ :: _ :: _ :: _ :: _ :: _ :: _ :: _ :: _ :: _ :: _ :: _ :: _ :: _ :: _ :: _ :: _ :: _ :: _ :: _ :: _ :: _ :: _ :: _ :: _ :: _ :: _ :: _ :: _ :: _ :: _ :: _ :: _ :: _ :: _ :: _ :: _ :: _ :: _ :: _ :: _ :: _ :: _ :: _ :: _ :: _ :: _ :: _ :: _ :: _ :: _ :: _ :: _ :: _ :: _ :: []), defers := [] } _
          refine wpAnyH_ready (rs := [8]) (by kernel_rfl) (by simp) ?_
          refine (AllReadyH.cons rfl (fun KK hK => ?_) AllReadyH.nil)
          obtain ⟨⟨m0, m1⟩, y0, y1⟩ := twoC z6
          have n67 : b6 ≠ b7 := ne67
          have Bs : Below v.heap.size v ((wz7.setCell ⟨b6, 0, none⟩ (.float .f64 p0)).setCell ⟨b6, 1, none⟩ (.float .f64 p1)) := below_set zl6 (below_set zl6 Bz7)
          have x6 : ((wz7.setCell ⟨b6, 0, none⟩ (.float .f64 p0)).setCell ⟨b6, 1, none⟩ (.float .f64 p1)).heap[b6]? = some (.cells #[.float .f64 p0, .float .f64 p1] 26 (0, 0)) := heap_same _ b6 1 _ _ _ (heap_same _ b6 0 _ _ _ z6)
          have x7 : ((wz7.setCell ⟨b6, 0, none⟩ (.float .f64 p0)).setCell ⟨b6, 1, none⟩ (.float .f64 p1)).heap[b7]? = some (.cells #[.float .f64 0, .float .f64 0] 26 (0, 0)) := (heap_setCell n67.symm).trans ((heap_setCell n67.symm).trans z7)
          go_simp
          clear hHeld
          refine hK.out _ _ (by obtain ⟨⟨k0, k1⟩, -⟩ := twoC (keepB Bs KA); obtain ⟨⟨k2, k3⟩, -⟩ := twoC (keepB Bs KB); exact ⟨k0, k1, k2, k3⟩) (fun hHeld => ?_)
          clear hK KK
          change wpAnyH _ _ _ _ _ _ _ { tmps := List.toArray (_ :: _ :: _ :: _ :: _ :: .pointer (some ⟨b6, 0, none⟩) :: .pointer (some ⟨b7, 0, none⟩) :: _ :: _ :: _ :: _ :: _ :: _ :: _ :: _ :: _ :: _ :: _ :: _ :: _ :: _ :: _ :: _ :: _ :: _ :: _ :: _ :: _ :: _ :: _ :: _ :: _ :: _ :: _ :: _ :: _ :: .agg #[.float .f64 a0, .float .f64 a1] :: .agg #[.float .f64 b0, .float .f64 b1] :: .agg #[.float .f64 p0, .float .f64 p1] :: .agg #[.float .f64 b0, .float .f64 b1] :: .agg #[.float .f64 a0, .float .f64 a1] :: .agg #[.float .f64 q0, .float .f64 q1] :: _ :: _ :: _ :: _ :: _ :: _ :: _ :: _ :: _ :: _ :: _ :: _ :: _ :: _ :: _ :: _ :: _ :: _ :: _ :: _ :: _ :: _ :: _ :: _ :: _ :: _ :: _ :: _ :: _ :: _ :: _ :: _ :: _ :: _ :: _ :: _ :: _ :: _ :: _ :: _ :: _ :: _ :: _ :: _ :: _ :: _ :: _ :: _ :: _ :: _ :: _ :: _ :: _ :: _ :: _ :: _ :: _ :: _ :: _ :: _ :: _ :: _ :: _ :: _ :: _ :: _ :: _ :: _ :: _ :: _ :: _ :: _ :: _ :: _ :: _ :: _ :: _ :: _ :: _ :: _ :: _ :: _ :: _ :: _ :: _ :: _ :: _ :: _ :: _ :: _ :: _ :: _ :: _ :: _ :: _ :: _ :: _ :: _ :: _ :: []), defers := [] } _
          refine wpAnyH_ready (rs := [9]) (by kernel_rfl) (by simp) ?_
          refine (AllReadyH.cons rfl (fun KK hK => ?_) AllReadyH.nil)
          obtain ⟨⟨m2, m3⟩, y2, y3⟩ := twoC x7
          have Bt : Below v.heap.size v ((((wz7.setCell ⟨b6, 0, none⟩ (.float .f64 p0)).setCell ⟨b6, 1, none⟩ (.float .f64 p1)).setCell ⟨b7, 0, none⟩ (.float .f64 q0)).setCell ⟨b7, 1, none⟩ (.float .f64 q1)) := below_set zl7 (below_set zl7 Bs)
          have v7 : ((((wz7.setCell ⟨b6, 0, none⟩ (.float .f64 p0)).setCell ⟨b6, 1, none⟩ (.float .f64 p1)).setCell ⟨b7, 0, none⟩ (.float .f64 q0)).setCell ⟨b7, 1, none⟩ (.float .f64 q1)).heap[b7]? = some (.cells #[.float .f64 q0, .float .f64 q1] 26 (0, 0)) := heap_same _ b7 1 _ _ _ (heap_same _ b7 0 _ _ _ x7)
          have v6 : ((((wz7.setCell ⟨b6, 0, none⟩ (.float .f64 p0)).setCell ⟨b6, 1, none⟩ (.float .f64 p1)).setCell ⟨b7, 0, none⟩ (.float .f64 q0)).setCell ⟨b7, 1, none⟩ (.float .f64 q1)).heap[b6]? = some (.cells #[.float .f64 p0, .float .f64 p1] 26 (0, 0)) := (heap_setCell n67).trans ((heap_setCell n67).trans x6)
          go_simp
          clear hHeld
          refine hK.out _ _ (by obtain ⟨⟨k0, k1⟩, -⟩ := twoC (keepB Bt KA); obtain ⟨⟨k2, k3⟩, -⟩ := twoC (keepB Bt KB); exact ⟨k0, k1, k2, k3⟩) (fun hHeld => ?_)
          clear hK KK
          change wpAnyH _ _ _ _ _ _ _ { tmps := List.toArray (_ :: _ :: _ :: _ :: _ :: .pointer (some ⟨b6, 0, none⟩) :: .pointer (some ⟨b7, 0, none⟩) :: _ :: _ :: _ :: _ :: _ :: _ :: _ :: _ :: _ :: _ :: _ :: _ :: _ :: _ :: _ :: _ :: _ :: _ :: _ :: _ :: _ :: _ :: _ :: _ :: _ :: _ :: _ :: _ :: _ :: .agg #[.float .f64 a0, .float .f64 a1] :: .agg #[.float .f64 b0, .float .f64 b1] :: .agg #[.float .f64 p0, .float .f64 p1] :: .agg #[.float .f64 b0, .float .f64 b1] :: .agg #[.float .f64 a0, .float .f64 a1] :: .agg #[.float .f64 q0, .float .f64 q1] :: _ :: _ :: _ :: _ :: _ :: _ :: _ :: _ :: _ :: _ :: _ :: _ :: _ :: _ :: _ :: _ :: _ :: _ :: _ :: _ :: _ :: _ :: _ :: _ :: _ :: _ :: _ :: _ :: _ :: _ :: _ :: _ :: _ :: _ :: _ :: _ :: _ :: _ :: _ :: _ :: _ :: _ :: _ :: _ :: _ :: _ :: _ :: _ :: _ :: _ :: _ :: _ :: _ :: _ :: _ :: _ :: _ :: _ :: _ :: _ :: _ :: _ :: _ :: _ :: _ :: _ :: _ :: _ :: _ :: _ :: _ :: _ :: _ :: _ :: _ :: _ :: _ :: _ :: _ :: _ :: _ :: _ :: _ :: _ :: _ :: _ :: _ :: _ :: _ :: _ :: _ :: _ :: _ :: _ :: _ :: _ :: _ :: _ :: _ :: []), defers := [] } _
          refine wpAnyH_done (by kernel_rfl) ?_ _
          go_wp2_with fail
          go_meet
          exact ⟨b6, p0, p1, b7, q0, q1, rfl, rfl, v6, v7, hP, hQ, zl6, zl7, Bt⟩
        · skip
          go_simp
          have hbz := balloc wc1 (.cells #[.float .f64 0, .float .f64 0] 26)
          have z7 : (wc1.alloc (.cells #[.float .f64 0, .float .f64 0] 26)).heap[wc1.heap.size]? = some (.cells #[.float .f64 0, .float .f64 0] 26 (0, 0)) := one_block wc1 _
          have zl7 : v.heap.size ≤ wc1.heap.size := Bc.size
          have Bz7 := btrans Bc hbz
          have ne67 : b6 ≠ wc1.heap.size := Nat.ne_of_lt (lt_of_block z6)
          have z6 := keepB hbz z6
          clear hbz
          generalize wc1.heap.size = b7 at *
          generalize wc1.alloc (.cells #[.float .f64 0, .float .f64 0] 26) = wz7 at *
          clear hHeld
          refine hK.out _ _ (by obtain ⟨⟨k0, k1⟩, -⟩ := twoC (keepB Bz7 KA); obtain ⟨⟨k2, k3⟩, -⟩ := twoC (keepB Bz7 KB); exact ⟨k0, k1, k2, k3⟩) (fun hHeld => ?_)
          clear hK KK
          change wpAnyH _ _ _ _ _ _ _ { tmps := List.toArray (_ :: _ :: _ :: _ :: _ :: .pointer (some ⟨b6, 0, none⟩) :: .pointer (some ⟨b7, 0, none⟩) :: _ :: _ :: _ :: _ :: _ :: _ :: _ :: _ :: _ :: _ :: _ :: _ :: _ :: _ :: _ :: _ :: _ :: _ :: _ :: _ :: _ :: _ :: _ :: _ :: _ :: _ :: _ :: _ :: _ :: .agg #[.float .f64 a0, .float .f64 a1] :: .agg #[.float .f64 b0, .float .f64 b1] :: .agg #[.float .f64 p0, .float .f64 p1] :: .agg #[.float .f64 b0, .float .f64 b1] :: .agg #[.float .f64 a0, .float .f64 a1] :: _ :: _ :: _ :: _ :: _ :: _ :: _ :: _ :: _ :: _ :: _ :: _ :: _ :: _ :: _ :: _ :: _ :: _ :: _ :: _ :: _ :: _ :: _ :: _ :: _ :: _ :: _ :: _ :: _ :: _ :: _ :: _ :: _ :: _ :: _ :: _ :: _ :: _ :: _ :: _ :: _ :: _ :: _ :: _ :: _ :: _ :: _ :: _ :: _ :: _ :: _ :: _ :: _ :: _ :: _ :: _ :: _ :: _ :: _ :: _ :: _ :: _ :: _ :: _ :: _ :: _ :: _ :: _ :: _ :: _ :: _ :: _ :: _ :: _ :: _ :: _ :: _ :: _ :: _ :: _ :: _ :: _ :: _ :: _ :: _ :: _ :: _ :: _ :: _ :: _ :: _ :: _ :: _ :: _ :: _ :: _ :: _ :: _ :: _ :: _ :: []), defers := [] } _
          refine wpAnyH_ready (rs := [5]) (by kernel_rfl) (by simp) ?_
          refine (AllReadyH.cons rfl (fun KK hK => ?_) AllReadyH.nil)
          go_simp
          refine (cZMulI2 b0 b1 a0 a1 _).mono ?_
          rintro e wc2 ⟨q0, q1, rfl, hQ, hb⟩
          have Bd := btrans Bz7 hb
          have z6 := keepB hb z6
          have z7 := keepB hb z7
          clear hb
          go_wp2_with fail
          clear hHeld
          refine hK.out _ _ (by obtain ⟨⟨k0, k1⟩, -⟩ := twoC (keepB Bd KA); obtain ⟨⟨k2, k3⟩, -⟩ := twoC (keepB Bd KB); exact ⟨k0, k1, k2, k3⟩) (fun hHeld => ?_)
          clear hK KK
          change wpAnyH _ _ _ _ _ _ _ { tmps := List.toArray (_ :: _ :: _ :: _ :: _ :: .pointer (some ⟨b6, 0, none⟩) :: .pointer (some ⟨b7, 0, none⟩) :: _ :: _ :: _ :: _ :: _ :: _ :: _ :: _ :: _ :: _ :: _ :: _ :: _ :: _ :: _ :: _ :: _ :: _ :: _ :: _ :: _ :: _ :: _ :: _ :: _ :: _ :: _ :: _ :: _ :: .agg #[.float .f64 a0, .float .f64 a1] :: .agg #[.float .f64 b0, .float .f64 b1] :: .agg #[.float .f64 p0, .float .f64 p1] :: .agg #[.float .f64 b0, .float .f64 b1] :: .agg #[.float .f64 a0, .float .f64 a1] :: .agg #[.float .f64 q0, .float .f64 q1] :: _ :: _ :: _ :: _ :: _ :: _ :: _ :: _ :: _ :: _ :: _ :: _ :: _ :: _ :: _ :: _ :: _ :: _ :: _ :: _ :: _ :: _ :: _ :: _ :: _ :: _ :: _ :: _ :: _ :: _ :: _ :: _ :: _ :: _ :: _ :: _ :: _ :: _ :: _ :: _ :: _ :: _ :: _ :: _ :: _ :: _ :: _ :: _ :: _ :: _ :: _ :: _ :: _ :: _ :: _ :: _ :: _ :: _ :: _ :: _ :: _ :: _ :: _ :: _ :: _ :: _ :: _ :: _ :: _ :: _ :: _ :: _ :: _ :: _ :: _ :: _ :: _ :: _ :: _ :: _ :: _ :: _ :: _ :: _ :: _ :: _ :: _ :: _ :: _ :: _ :: _ :: _ :: _ :: _ :: _ :: _ :: _ :: _ :: _ :: []), defers := [] } _
          refine wpAnyH_ready (rs := [8]) (by kernel_rfl) (by simp) ?_
          refine (AllReadyH.cons rfl (fun KK hK => ?_) AllReadyH.nil)
          obtain ⟨⟨m0, m1⟩, y0, y1⟩ := twoC z6
          have n67 : b6 ≠ b7 := ne67
          have Bs : Below v.heap.size v ((wc2.setCell ⟨b6, 0, none⟩ (.float .f64 p0)).setCell ⟨b6, 1, none⟩ (.float .f64 p1)) := below_set zl6 (below_set zl6 Bd)
          have x6 : ((wc2.setCell ⟨b6, 0, none⟩ (.float .f64 p0)).setCell ⟨b6, 1, none⟩ (.float .f64 p1)).heap[b6]? = some (.cells #[.float .f64 p0, .float .f64 p1] 26 (0, 0)) := heap_same _ b6 1 _ _ _ (heap_same _ b6 0 _ _ _ z6)
          have x7 : ((wc2.setCell ⟨b6, 0, none⟩ (.float .f64 p0)).setCell ⟨b6, 1, none⟩ (.float .f64 p1)).heap[b7]? = some (.cells #[.float .f64 0, .float .f64 0] 26 (0, 0)) := (heap_setCell n67.symm).trans ((heap_setCell n67.symm).trans z7)
          go_simp
          clear hHeld
          refine hK.out _ _ (by obtain ⟨⟨k0, k1⟩, -⟩ := twoC (keepB Bs KA); obtain ⟨⟨k2, k3⟩, -⟩ := twoC (keepB Bs KB); exact ⟨k0, k1, k2, k3⟩) (fun hHeld => ?_)
          clear hK KK
          change wpAnyH _ _ _ _ _ _ _ { tmps := List.toArray (_ :: _ :: _ :: _ :: _ :: .pointer (some ⟨b6, 0, none⟩) :: .pointer (some ⟨b7, 0, none⟩) :: _ :: _ :: _ :: _ :: _ :: _ :: _ :: _ :: _ :: _ :: _ :: _ :: _ :: _ :: _ :: _ :: _ :: _ :: _ :: _ :: _ :: _ :: _ :: _ :: _ :: _ :: _ :: _ :: _ :: .agg #[.float .f64 a0, .float .f64 a1] :: .agg #[.float .f64 b0, .float .f64 b1] :: .agg #[.float .f64 p0, .float .f64 p1] :: .agg #[.float .f64 b0, .float .f64 b1] :: .agg #[.float .f64 a0, .float .f64 a1] :: .agg #[.float .f64 q0, .float .f64 q1] :: _ :: _ :: _ :: _ :: _ :: _ :: _ :: _ :: _ :: _ :: _ :: _ :: _ :: _ :: _ :: _ :: _ :: _ :: _ :: _ :: _ :: _ :: _ :: _ :: _ :: _ :: _ :: _ :: _ :: _ :: _ :: _ :: _ :: _ :: _ :: _ :: _ :: _ :: _ :: _ :: _ :: _ :: _ :: _ :: _ :: _ :: _ :: _ :: _ :: _ :: _ :: _ :: _ :: _ :: _ :: _ :: _ :: _ :: _ :: _ :: _ :: _ :: _ :: _ :: _ :: _ :: _ :: _ :: _ :: _ :: _ :: _ :: _ :: _ :: _ :: _ :: _ :: _ :: _ :: _ :: _ :: _ :: _ :: _ :: _ :: _ :: _ :: _ :: _ :: _ :: _ :: _ :: _ :: _ :: _ :: _ :: _ :: _ :: _ :: []), defers := [] } _
          refine wpAnyH_ready (rs := [9]) (by kernel_rfl) (by simp) ?_
          refine (AllReadyH.cons rfl (fun KK hK => ?_) AllReadyH.nil)
          obtain ⟨⟨m2, m3⟩, y2, y3⟩ := twoC x7
          have Bt : Below v.heap.size v ((((wc2.setCell ⟨b6, 0, none⟩ (.float .f64 p0)).setCell ⟨b6, 1, none⟩ (.float .f64 p1)).setCell ⟨b7, 0, none⟩ (.float .f64 q0)).setCell ⟨b7, 1, none⟩ (.float .f64 q1)) := below_set zl7 (below_set zl7 Bs)
          have v7 : ((((wc2.setCell ⟨b6, 0, none⟩ (.float .f64 p0)).setCell ⟨b6, 1, none⟩ (.float .f64 p1)).setCell ⟨b7, 0, none⟩ (.float .f64 q0)).setCell ⟨b7, 1, none⟩ (.float .f64 q1)).heap[b7]? = some (.cells #[.float .f64 q0, .float .f64 q1] 26 (0, 0)) := heap_same _ b7 1 _ _ _ (heap_same _ b7 0 _ _ _ x7)
          have v6 : ((((wc2.setCell ⟨b6, 0, none⟩ (.float .f64 p0)).setCell ⟨b6, 1, none⟩ (.float .f64 p1)).setCell ⟨b7, 0, none⟩ (.float .f64 q0)).setCell ⟨b7, 1, none⟩ (.float .f64 q1)).heap[b6]? = some (.cells #[.float .f64 p0, .float .f64 p1] 26 (0, 0)) := (heap_setCell n67).trans ((heap_setCell n67).trans x6)
          go_simp
          clear hHeld
          refine hK.out _ _ (by obtain ⟨⟨k0, k1⟩, -⟩ := twoC (keepB Bt KA); obtain ⟨⟨k2, k3⟩, -⟩ := twoC (keepB Bt KB); exact ⟨k0, k1, k2, k3⟩) (fun hHeld => ?_)
          clear hK KK
          change wpAnyH _ _ _ _ _ _ _ { tmps := List.toArray (_ :: _ :: _ :: _ :: _ :: .pointer (some ⟨b6, 0, none⟩) :: .pointer (some ⟨b7, 0, none⟩) :: _ :: _ :: _ :: _ :: _ :: _ :: _ :: _ :: _ :: _ :: _ :: _ :: _ :: _ :: _ :: _ :: _ :: _ :: _ :: _ :: _ :: _ :: _ :: _ :: _ :: _ :: _ :: _ :: _ :: .agg #[.float .f64 a0, .float .f64 a1] :: .agg #[.float .f64 b0, .float .f64 b1] :: .agg #[.float .f64 p0, .float .f64 p1] :: .agg #[.float .f64 b0, .float .f64 b1] :: .agg #[.float .f64 a0, .float .f64 a1] :: .agg #[.float .f64 q0, .float .f64 q1] :: _ :: _ :: _ :: _ :: _ :: _ :: _ :: _ :: _ :: _ :: _ :: _ :: _ :: _ :: _ :: _ :: _ :: _ :: _ :: _ :: _ :: _ :: _ :: _ :: _ :: _ :: _ :: _ :: _ :: _ :: _ :: _ :: _ :: _ :: _ :: _ :: _ :: _ :: _ :: _ :: _ :: _ :: _ :: _ :: _ :: _ :: _ :: _ :: _ :: _ :: _ :: _ :: _ :: _ :: _ :: _ :: _ :: _ :: _ :: _ :: _ :: _ :: _ :: _ :: _ :: _ :: _ :: _ :: _ :: _ :: _ :: _ :: _ :: _ :: _ :: _ :: _ :: _ :: _ :: _ :: _ :: _ :: _ :: _ :: _ :: _ :: _ :: _ :: _ :: _ :: _ :: _ :: _ :: _ :: _ :: _ :: _ :: _ :: _ :: []), defers := [] } _
          refine wpAnyH_done (by kernel_rfl) ?_ _
          go_wp2_with fail
          go_meet
          exact ⟨b6, p0, p1, b7, q0, q1, rfl, rfl, v6, v7, hP, hQ, zl6, zl7, Bt⟩
      · skip
        go_simp
        have hbz := balloc wz6 (.cells #[.float .f64 0, .float .f64 0] 26)
        have z7 : (wz6.alloc (.cells #[.float .f64 0, .float .f64 0] 26)).heap[wz6.heap.size]? = some (.cells #[.float .f64 0, .float .f64 0] 26 (0, 0)) := one_block wz6 _
        have zl7 : v.heap.size ≤ wz6.heap.size := Bz6.size
        have Bz7 := btrans Bz6 hbz
        have ne67 : b6 ≠ wz6.heap.size := Nat.ne_of_lt (lt_of_block z6)
        have z6 := keepB hbz z6
        clear hbz
        generalize wz6.heap.size = b7 at *
        generalize wz6.alloc (.cells #[.float .f64 0, .float .f64 0] 26) = wz7 at *
        clear hHeld
        refine hK.out _ _ (by obtain ⟨⟨k0, k1⟩, -⟩ := twoC (keepB Bz7 KA); obtain ⟨⟨k2, k3⟩, -⟩ := twoC (keepB Bz7 KB); exact ⟨k0, k1, k2, k3⟩) (fun hHeld => ?_)
        clear hK KK
        change wpAnyH _ _ _ _ _ _ _ { tmps := List.toArray (_ :: _ :: _ :: _ :: _ :: .pointer (some ⟨b6, 0, none⟩) :: .pointer (some ⟨b7, 0, none⟩) :: _ :: _ :: _ :: _ :: _ :: _ :: _ :: _ :: _ :: _ :: _ :: _ :: _ :: _ :: _ :: _ :: _ :: _ :: _ :: _ :: _ :: _ :: _ :: _ :: _ :: _ :: _ :: _ :: _ :: .agg #[.float .f64 a0, .float .f64 a1] :: .agg #[.float .f64 b0, .float .f64 b1] :: _ :: .agg #[.float .f64 b0, .float .f64 b1] :: .agg #[.float .f64 a0, .float .f64 a1] :: _ :: _ :: _ :: _ :: _ :: _ :: _ :: _ :: _ :: _ :: _ :: _ :: _ :: _ :: _ :: _ :: _ :: _ :: _ :: _ :: _ :: _ :: _ :: _ :: _ :: _ :: _ :: _ :: _ :: _ :: _ :: _ :: _ :: _ :: _ :: _ :: _ :: _ :: _ :: _ :: _ :: _ :: _ :: _ :: _ :: _ :: _ :: _ :: _ :: _ :: _ :: _ :: _ :: _ :: _ :: _ :: _ :: _ :: _ :: _ :: _ :: _ :: _ :: _ :: _ :: _ :: _ :: _ :: _ :: _ :: _ :: _ :: _ :: _ :: _ :: _ :: _ :: _ :: _ :: _ :: _ :: _ :: _ :: _ :: _ :: _ :: _ :: _ :: _ :: _ :: _ :: _ :: _ :: _ :: _ :: _ :: _ :: _ :: _ :: _ :: []), defers := [] } _
        refine wpAnyH_ready (rs := [2]) (by kernel_rfl) (by simp) ?_
        refine (AllReadyH.cons rfl (fun KK hK => ?_) AllReadyH.nil)
        go_simp
        refine (cZMulI2 a0 a1 b0 b1 _).mono ?_
        rintro e wc1 ⟨p0, p1, rfl, hP, hb⟩
        have Bc := btrans Bz7 hb
        have z6 := keepB hb z6
        have z7 := keepB hb z7
        clear hb
        go_wp2_with fail
        clear hHeld
        refine hK.out _ _ (by obtain ⟨⟨k0, k1⟩, -⟩ := twoC (keepB Bc KA); obtain ⟨⟨k2, k3⟩, -⟩ := twoC (keepB Bc KB); exact ⟨k0, k1, k2, k3⟩) (fun hHeld => ?_)
        clear hK KK
        change wpAnyH _ _ _ _ _ _ _ { tmps := List.toArray (_ :: _ :: _ :: _ :: _ :: .pointer (some ⟨b6, 0, none⟩) :: .pointer (some ⟨b7, 0, none⟩) :: _ :: _ :: _ :: _ :: _ :: _ :: _ :: _ :: _ :: _ :: _ :: _ :: _ :: _ :: _ :: _ :: _ :: _ :: _ :: _ :: _ :: _ :: _ :: _ :: _ :: _ :: _ :: _ :: _ :: .agg #[.float .f64 a0, .float .f64 a1] :: .agg #[.float .f64 b0, .float .f64 b1] :: .agg #[.float .f64 p0, .float .f64 p1] :: .agg #[.float .f64 b0, .float .f64 b1] :: .agg #[.float .f64 a0, .float .f64 a1] :: _ :: _ :: _ :: _ :: _ :: _ :: _ :: _ :: _ :: _ :: _ :: _ :: _ :: _ :: _ :: _ :: _ :: _ :: _ :: _ :: _ :: _ :: _ :: _ :: _ :: _ :: _ :: _ :: _ :: _ :: _ :: _ :: _ :: _ :: _ :: _ :: _ :: _ :: _ :: _ :: _ :: _ :: _ :: _ :: _ :: _ :: _ :: _ :: _ :: _ :: _ :: _ :: _ :: _ :: _ :: _ :: _ :: _ :: _ :: _ :: _ :: _ :: _ :: _ :: _ :: _ :: _ :: _ :: _ :: _ :: _ :: _ :: _ :: _ :: _ :: _ :: _ :: _ :: _ :: _ :: _ :: _ :: _ :: _ :: _ :: _ :: _ :: _ :: _ :: _ :: _ :: _ :: _ :: _ :: _ :: _ :: _ :: _ :: _ :: _ :: []), defers := [] } _
        refine wpAnyH_ready (rs := [5]) (by kernel_rfl) (by simp) ?_
        refine (AllReadyH.cons rfl (fun KK hK => ?_) AllReadyH.nil)
        go_simp
        refine (cZMulI2 b0 b1 a0 a1 _).mono ?_
        rintro e wc2 ⟨q0, q1, rfl, hQ, hb⟩
        have Bd := btrans Bc hb
        have z6 := keepB hb z6
        have z7 := keepB hb z7
        clear hb
        go_wp2_with fail
        clear hHeld
        refine hK.out _ _ (by obtain ⟨⟨k0, k1⟩, -⟩ := twoC (keepB Bd KA); obtain ⟨⟨k2, k3⟩, -⟩ := twoC (keepB Bd KB); exact ⟨k0, k1, k2, k3⟩) (fun hHeld => ?_)
        clear hK KK
        change wpAnyH _ _ _ _ _ _ _ { tmps := List.toArray (_ :: _ :: _ :: _ :: _ :: .pointer (some ⟨b6, 0, none⟩) :: .pointer (some ⟨b7, 0, none⟩) :: _ :: _ :: _ :: _ :: _ :: _ :: _ :: _ :: _ :: _ :: _ :: _ :: _ :: _ :: _ :: _ :: _ :: _ :: _ :: _ :: _ :: _ :: _ :: _ :: _ :: _ :: _ :: _ :: _ :: .agg #[.float .f64 a0, .float .f64 a1] :: .agg #[.float .f64 b0, .float .f64 b1] :: .agg #[.float .f64 p0, .float .f64 p1] :: .agg #[.float .f64 b0, .float .f64 b1] :: .agg #[.float .f64 a0, .float .f64 a1] :: .agg #[.float .f64 q0, .float .f64 q1] :: _ :: _ :: _ :: _ :: _ :: _ :: _ :: _ :: _ :: _ :: _ :: _ :: _ :: _ :: _ :: _ :: _ :: _ :: _ :: _ :: _ :: _ :: _ :: _ :: _ :: _ :: _ :: _ :: _ :: _ :: _ :: _ :: _ :: _ :: _ :: _ :: _ :: _ :: _ :: _ :: _ :: _ :: _ :: _ :: _ :: _ :: _ :: _ :: _ :: _ :: _ :: _ :: _ :: _ :: _ :: _ :: _ :: _ :: _ :: _ :: _ :: _ :: _ :: _ :: _ :: _ :: _ :: _ :: _ :: _ :: _ :: _ :: _ :: _ :: _ :: _ :: _ :: _ :: _ :: _ :: _ :: _ :: _ :: _ :: _ :: _ :: _ :: _ :: _ :: _ :: _ :: _ :: _ :: _ :: _ :: _ :: _ :: _ :: _ :: []), defers := [] } _
        refine wpAnyH_ready (rs := [8]) (by kernel_rfl) (by simp) ?_
        refine (AllReadyH.cons rfl (fun KK hK => ?_) AllReadyH.nil)
        obtain ⟨⟨m0, m1⟩, y0, y1⟩ := twoC z6
        have n67 : b6 ≠ b7 := ne67
        have Bs : Below v.heap.size v ((wc2.setCell ⟨b6, 0, none⟩ (.float .f64 p0)).setCell ⟨b6, 1, none⟩ (.float .f64 p1)) := below_set zl6 (below_set zl6 Bd)
        have x6 : ((wc2.setCell ⟨b6, 0, none⟩ (.float .f64 p0)).setCell ⟨b6, 1, none⟩ (.float .f64 p1)).heap[b6]? = some (.cells #[.float .f64 p0, .float .f64 p1] 26 (0, 0)) := heap_same _ b6 1 _ _ _ (heap_same _ b6 0 _ _ _ z6)
        have x7 : ((wc2.setCell ⟨b6, 0, none⟩ (.float .f64 p0)).setCell ⟨b6, 1, none⟩ (.float .f64 p1)).heap[b7]? = some (.cells #[.float .f64 0, .float .f64 0] 26 (0, 0)) := (heap_setCell n67.symm).trans ((heap_setCell n67.symm).trans z7)
        go_simp
        clear hHeld
        refine hK.out _ _ (by obtain ⟨⟨k0, k1⟩, -⟩ := twoC (keepB Bs KA); obtain ⟨⟨k2, k3⟩, -⟩ := twoC (keepB Bs KB); exact ⟨k0, k1, k2, k3⟩) (fun hHeld => ?_)
        clear hK KK
        change wpAnyH _ _ _ _ _ _ _ { tmps := List.toArray (_ :: _ :: _ :: _ :: _ :: .pointer (some ⟨b6, 0, none⟩) :: .pointer (some ⟨b7, 0, none⟩) :: _ :: _ :: _ :: _ :: _ :: _ :: _ :: _ :: _ :: _ :: _ :: _ :: _ :: _ :: _ :: _ :: _ :: _ :: _ :: _ :: _ :: _ :: _ :: _ :: _ :: _ :: _ :: _ :: _ :: .agg #[.float .f64 a0, .float .f64 a1] :: .agg #[.float .f64 b0, .float .f64 b1] :: .agg #[.float .f64 p0, .float .f64 p1] :: .agg #[.float .f64 b0, .float .f64 b1] :: .agg #[.float .f64 a0, .float .f64 a1] :: .agg #[.float .f64 q0, .float .f64 q1] :: _ :: _ :: _ :: _ :: _ :: _ :: _ :: _ :: _ :: _ :: _ :: _ :: _ :: _ :: _ :: _ :: _ :: _ :: _ :: _ :: _ :: _ :: _ :: _ :: _ :: _ :: _ :: _ :: _ :: _ :: _ :: _ :: _ :: _ :: _ :: _ :: _ :: _ :: _ :: _ :: _ :: _ :: _ :: _ :: _ :: _ :: _ :: _ :: _ :: _ :: _ :: _ :: _ :: _ :: _ :: _ :: _ :: _ :: _ :: _ :: _ :: _ :: _ :: _ :: _ :: _ :: _ :: _ :: _ :: _ :: _ :: _ :: _ :: _ :: _ :: _ :: _ :: _ :: _ :: _ :: _ :: _ :: _ :: _ :: _ :: _ :: _ :: _ :: _ :: _ :: _ :: _ :: _ :: _ :: _ :: _ :: _ :: _ :: _ :: []), defers := [] } _
        refine wpAnyH_ready (rs := [9]) (by kernel_rfl) (by simp) ?_
        refine (AllReadyH.cons rfl (fun KK hK => ?_) AllReadyH.nil)
        obtain ⟨⟨m2, m3⟩, y2, y3⟩ := twoC x7
        have Bt : Below v.heap.size v ((((wc2.setCell ⟨b6, 0, none⟩ (.float .f64 p0)).setCell ⟨b6, 1, none⟩ (.float .f64 p1)).setCell ⟨b7, 0, none⟩ (.float .f64 q0)).setCell ⟨b7, 1, none⟩ (.float .f64 q1)) := below_set zl7 (below_set zl7 Bs)
        have v7 : ((((wc2.setCell ⟨b6, 0, none⟩ (.float .f64 p0)).setCell ⟨b6, 1, none⟩ (.float .f64 p1)).setCell ⟨b7, 0, none⟩ (.float .f64 q0)).setCell ⟨b7, 1, none⟩ (.float .f64 q1)).heap[b7]? = some (.cells #[.float .f64 q0, .float .f64 q1] 26 (0, 0)) := heap_same _ b7 1 _ _ _ (heap_same _ b7 0 _ _ _ x7)
        have v6 : ((((wc2.setCell ⟨b6, 0, none⟩ (.float .f64 p0)).setCell ⟨b6, 1, none⟩ (.float .f64 p1)).setCell ⟨b7, 0, none⟩ (.float .f64 q0)).setCell ⟨b7, 1, none⟩ (.float .f64 q1)).heap[b6]? = some (.cells #[.float .f64 p0, .float .f64 p1] 26 (0, 0)) := (heap_setCell n67).trans ((heap_setCell n67).trans x6)
        go_simp
        clear hHeld
        refine hK.out _ _ (by obtain ⟨⟨k0, k1⟩, -⟩ := twoC (keepB Bt KA); obtain ⟨⟨k2, k3⟩, -⟩ := twoC (keepB Bt KB); exact ⟨k0, k1, k2, k3⟩) (fun hHeld => ?_)
        clear hK KK
        change wpAnyH _ _ _ _ _ _ _ { tmps := List.toArray (_ :: _ :: _ :: _ :: _ :: .pointer (some ⟨b6, 0, none⟩) :: .pointer (some ⟨b7, 0, none⟩) :: _ :: _ :: _ :: _ :: _ :: _ :: _ :: _ :: _ :: _ :: _ :: _ :: _ :: _ :: _ :: _ :: _ :: _ :: _ :: _ :: _ :: _ :: _ :: _ :: _ :: _ :: _ :: _ :: _ :: .agg #[.float .f64 a0, .float .f64 a1] :: .agg #[.float .f64 b0, .float .f64 b1] :: .agg #[.float .f64 p0, .float .f64 p1] :: .agg #[.float .f64 b0, .float .f64 b1] :: .agg #[.float .f64 a0, .float .f64 a1] :: .agg #[.float .f64 q0, .float .f64 q1] :: _ :: _ :: _ :: _ :: _ :: _ :: _ :: _ :: _ :: _ :: _ :: _ :: _ :: _ :: _ :: _ :: _ :: _ :: _ :: _ :: _ :: _ :: _ :: _ :: _ :: _ :: _ :: _ :: _ :: _ :: _ :: _ :: _ :: _ :: _ :: _ :: _ :: _ :: _ :: _ :: _ :: _ :: _ :: _ :: _ :: _ :: _ :: _ :: _ :: _ :: _ :: _ :: _ :: _ :: _ :: _ :: _ :: _ :: _ :: _ :: _ :: _ :: _ :: _ :: _ :: _ :: _ :: _ :: _ :: _ :: _ :: _ :: _ :: _ :: _ :: _ :: _ :: _ :: _ :: _ :: _ :: _ :: _ :: _ :: _ :: _ :: _ :: _ :: _ :: _ :: _ :: _ :: _ :: _ :: _ :: _ :: _ :: _ :: _ :: []), defers := [] } _
        refine wpAnyH_done (by kernel_rfl) ?_ _
        go_wp2_with fail
        go_meet
        exact ⟨b6, p0, p1, b7, q0, q1, rfl, rfl, v6, v7, hP, hQ, zl6, zl7, Bt⟩
    · skip
      go_simp
      have hbz := balloc wd (.cells #[.float .f64 0, .float .f64 0] 26)
      have z7 : (wd.alloc (.cells #[.float .f64 0, .float .f64 0] 26)).heap[wd.heap.size]? = some (.cells #[.float .f64 0, .float .f64 0] 26 (0, 0)) := one_block wd _
      have zl7 : v.heap.size ≤ wd.heap.size := B0.size
      have Bz7 := btrans B0 hbz
      clear hbz
      generalize wd.heap.size = b7 at *
      generalize wd.alloc (.cells #[.float .f64 0, .float .f64 0] 26) = wz7 at *
      clear hHeld
      refine hK.out _ _ (by obtain ⟨⟨k0, k1⟩, -⟩ := twoC (keepB Bz7 KA); obtain ⟨⟨k2, k3⟩, -⟩ := twoC (keepB Bz7 KB); exact ⟨k0, k1, k2, k3⟩) (fun hHeld => ?_)
      clear hK KK
      change wpAnyH _ _ _ _ _ _ _ { tmps := List.toArray (_ :: _ :: _ :: _ :: _ :: _ :: .pointer (some ⟨b7, 0, none⟩) :: _ :: _ :: _ :: _ :: _ :: _ :: _ :: _ :: _ :: _ :: _ :: _ :: _ :: _ :: _ :: _ :: _ :: _ :: _ :: _ :: _ :: _ :: _ :: _ :: _ :: _ :: _ :: _ :: _ :: .agg #[.float .f64 a0, .float .f64 a1] :: .agg #[.float .f64 b0, .float .f64 b1] :: _ :: .agg #[.float .f64 b0, .float .f64 b1] :: .agg #[.float .f64 a0, .float .f64 a1] :: _ :: _ :: _ :: _ :: _ :: _ :: _ :: _ :: _ :: _ :: _ :: _ :: _ :: _ :: _ :: _ :: _ :: _ :: _ :: _ :: _ :: _ :: _ :: _ :: _ :: _ :: _ :: _ :: _ :: _ :: _ :: _ :: _ :: _ :: _ :: _ :: _ :: _ :: _ :: _ :: _ :: _ :: _ :: _ :: _ :: _ :: _ :: _ :: _ :: _ :: _ :: _ :: _ :: _ :: _ :: _ :: _ :: _ :: _ :: _ :: _ :: _ :: _ :: _ :: _ :: _ :: _ :: _ :: _ :: _ :: _ :: _ :: _ :: _ :: _ :: _ :: _ :: _ :: _ :: _ :: _ :: _ :: _ :: _ :: _ :: _ :: _ :: _ :: _ :: _ :: _ :: _ :: _ :: _ :: _ :: _ :: _ :: _ :: _ :: _ :: []), defers := [] } _
      refine wpAnyH_ready (rs := [2, 6]) (by kernel_rfl) (by simp) ?_
      refine (AllReadyH.cons rfl (fun KK hK => ?_) (AllReadyH.cons rfl (fun KK hK => ?_) AllReadyH.nil))
      · skip
        go_simp
        refine (cZMulI2 a0 a1 b0 b1 _).mono ?_
        rintro e wc1 ⟨p0, p1, rfl, hP, hb⟩
        have Bc := btrans Bz7 hb
        have z7 := keepB hb z7
        clear hb
        go_wp2_with fail
        clear hHeld
        refine hK.out _ _ (by obtain ⟨⟨k0, k1⟩, -⟩ := twoC (keepB Bc KA); obtain ⟨⟨k2, k3⟩, -⟩ := twoC (keepB Bc KB); exact ⟨k0, k1, k2, k3⟩) (fun hHeld => ?_)
        clear hK KK
        change wpAnyH _ _ _ _ _ _ _ { tmps := List.toArray (_ :: _ :: _ :: _ :: _ :: _ :: .pointer (some ⟨b7, 0, none⟩) :: _ :: _ :: _ :: _ :: _ :: _ :: _ :: _ :: _ :: _ :: _ :: _ :: _ :: _ :: _ :: _ :: _ :: _ :: _ :: _ :: _ :: _ :: _ :: _ :: _ :: _ :: _ :: _ :: _ :: .agg #[.float .f64 a0, .float .f64 a1] :: .agg #[.float .f64 b0, .float .f64 b1] :: .agg #[.float .f64 p0, .float .f64 p1] :: .agg #[.float .f64 b0, .float .f64 b1] :: .agg #[.float .f64 a0, .float .f64 a1] :: _ :: _ :: _ :: _ :: _ :: _ :: _ :: _ :: _ :: _ :: _ :: _ :: _ :: _ :: _ :: _ :: _ :: _ :: _ :: _ :: _ :: _ :: _ :: _ :: _ :: _ :: _ :: _ :: _ :: _ :: _ :: _ :: _ :: _ :: _ :: _ :: _ :: _ :: _ :: _ :: _ :: _ :: _ :: _ :: _ :: _ :: _ :: _ :: _ :: _ :: _ :: _ :: _ :: _ :: _ :: _ :: _ :: _ :: _ :: _ :: _ :: _ :: _ :: _ :: _ :: _ :: _ :: _ :: _ :: _ :: _ :: _ :: _ :: _ :: _ :: _ :: _ :: _ :: _ :: _ :: _ :: _ :: _ :: _ :: _ :: _ :: _ :: _ :: _ :: _ :: _ :: _ :: _ :: _ :: _ :: _ :: _ :: _ :: _ :: _ :: []), defers := [] } _
        refine wpAnyH_ready (rs := [5, 6]) (by kernel_rfl) (by simp) ?_
        refine (AllReadyH.cons rfl (fun KK hK => ?_) (AllReadyH.cons rfl (fun KK hK => ?_) AllReadyH.nil))
        · skip
          go_simp
          refine (cZMulI2 b0 b1 a0 a1 _).mono ?_
          rintro e wc2 ⟨q0, q1, rfl, hQ, hb⟩
          have Bd := btrans Bc hb
          have z7 := keepB hb z7
          clear hb
          go_wp2_with fail
          clear hHeld
          refine hK.out _ _ (by obtain ⟨⟨k0, k1⟩, -⟩ := twoC (keepB Bd KA); obtain ⟨⟨k2, k3⟩, -⟩ := twoC (keepB Bd KB); exact ⟨k0, k1, k2, k3⟩) (fun hHeld => ?_)
          clear hK KK
          change wpAnyH _ _ _ _ _ _ _ { tmps := List.toArray (_ :: _ :: _ :: _ :: _ :: _ :: .pointer (some ⟨b7, 0, none⟩) :: _ :: _ :: _ :: _ :: _ :: _ :: _ :: _ :: _ :: _ :: _ :: _ :: _ :: _ :: _ :: _ :: _ :: _ :: _ :: _ :: _ :: _ :: _ :: _ :: _ :: _ :: _ :: _ :: _ :: .agg #[.float .f64 a0, .float .f64 a1] :: .agg #[.float .f64 b0, .float .f64 b1] :: .agg #[.float .f64 p0, .float .f64 p1] :: .agg #[.float .f64 b0, .float .f64 b1] :: .agg #[.float .f64 a0, .float .f64 a1] :: .agg #[.float .f64 q0, .float .f64 q1] :: _ :: _ :: _ :: _ :: _ :: _ :: _ :: _ :: _ :: _ :: _ :: _ :: _ :: _ :: _ :: _ :: _ :: _ :: _ :: _ :: _ :: _ :: _ :: _ :: _ :: _ :: _ :: _ :: _ :: _ :: _ :: _ :: _ :: _ :: _ :: _ :: _ :: _ :: _ :: _ :: _ :: _ :: _ :: _ :: _ :: _ :: _ :: _ :: _ :: _ :: _ :: _ :: _ :: _ :: _ :: _ :: _ :: _ :: _ :: _ :: _ :: _ :: _ :: _ :: _ :: _ :: _ :: _ :: _ :: _ :: _ :: _ :: _ :: _ :: _ :: _ :: _ :: _ :: _ :: _ :: _ :: _ :: _ :: _ :: _ :: _ :: _ :: _ :: _ :: _ :: _ :: _ :: _ :: _ :: _ :: _ :: _ :: _ :: _ :: []), defers := [] } _
          refine wpAnyH_ready (rs := [6]) (by kernel_rfl) (by simp) ?_
          refine (AllReadyH.cons rfl (fun KK hK => ?_) AllReadyH.nil)
          go_simp
          have hbz := balloc wc2 (.cells #[.float .f64 0, .float .f64 0] 26)
          have z6 : (wc2.alloc (.cells #[.float .f64 0, .float .f64 0] 26)).heap[wc2.heap.size]? = some (.cells #[.float .f64 0, .float .f64 0] 26 (0, 0)) := one_block wc2 _
          have zl6 : v.heap.size ≤ wc2.heap.size := Bd.size
          have Bz6 := btrans Bd hbz
          have ne67 : b7 ≠ wc2.heap.size := Nat.ne_of_lt (lt_of_block z7)
          have z7 := keepB hbz z7
          clear hbz
          generalize wc2.heap.size = b6 at *
          generalize wc2.alloc (.cells #[.float .f64 0, .float .f64 0] 26) = wz6 at *
          clear hHeld
          refine hK.out _ _ (by obtain ⟨⟨k0, k1⟩, -⟩ := twoC (keepB Bz6 KA); obtain ⟨⟨k2, k3⟩, -⟩ := twoC (keepB Bz6 KB); exact ⟨k0, k1, k2, k3⟩) (fun hHeld => ?_)
          clear hK KK
          change wpAnyH _ _ _ _ _ _ _ { tmps := List.toArray (_ :: _ :: _ :: _ :: _ :: .pointer (some ⟨b6, 0, none⟩) :: .pointer (some ⟨b7, 0, none⟩) :: _ :: _ :: _ :: _ :: _ :: _ :: _ :: _ :: _ :: _ :: _ :: _ :: _ :: _ :: _ :: _ :: _ :: _ :: _ :: _ :: _ :: _ :: _ :: _ :: _ :: _ :: _ :: _ :: _ :: .agg #[.float .f64 a0, .float .f64 a1] :: .agg #[.float .f64 b0, .float .f64 b1] :: .agg #[.float .f64 p0, .float .f64 p1] :: .agg #[.float .f64 b0, .float .f64 b1] :: .agg #[.float .f64 a0, .float .f64 a1] :: .agg #[.float .f64 q0, .float .f64 q1] :: _ :: _ :: _ :: _ :: _ :: _ :: _ :: _ :: _ :: _ :: _ :: _ :: _ :: _ :: _ :: _ :: _ :: _ :: _ :: _ :: _ :: _ :: _ :: _ :: _ :: _ :: _ :: _ :: _ :: _ :: _ :: _ :: _ :: _ :: _ :: _ :: _ :: _ :: _ :: _ :: _ :: _ :: _ :: _ :: _ :: _ :: _ :: _ :: _ :: _ :: _ :: _ :: _ :: _ :: _ :: _ :: _ :: _ :: _ :: _ :: _ :: _ :: _ :: _ :: _ :: _ :: _ :: _ :: _ :: _ :: _ :: _ :: _ :: _ :: _ :: _ :: _ :: _ :: _ :: _ :: _ :: _ :: _ :: _ :: _ :: _ :: _ :: _ :: _ :: _ :: _ :: _ :: _ :: _ :: _ :: _ :: _ :: _ :: _ :: []), defers := [] } _
          refine wpAnyH_ready (rs := [8]) (by kernel_rfl) (by simp) ?_
          refine (AllReadyH.cons rfl (fun KK hK => ?_) AllReadyH.nil)
          obtain ⟨⟨m0, m1⟩, y0, y1⟩ := twoC z6
          have n67 : b6 ≠ b7 := ne67.symm
          have Bs : Below v.heap.size v ((wz6.setCell ⟨b6, 0, none⟩ (.float .f64 p0)).setCell ⟨b6, 1, none⟩ (.float .f64 p1)) := below_set zl6 (below_set zl6 Bz6)
          have x6 : ((wz6.setCell ⟨b6, 0, none⟩ (.float .f64 p0)).setCell ⟨b6, 1, none⟩ (.float .f64 p1)).heap[b6]? = some (.cells #[.float .f64 p0, .float .f64 p1] 26 (0, 0)) := heap_same _ b6 1 _ _ _ (heap_same _ b6 0 _ _ _ z6)
          have x7 : ((wz6.setCell ⟨b6, 0, none⟩ (.float .f64 p0)).setCell ⟨b6, 1, none⟩ (.float .f64 p1)).heap[b7]? = some (.cells #[.float .f64 0, .float .f64 0] 26 (0, 0)) := (heap_setCell n67.symm).trans ((heap_setCell n67.symm).trans z7)
          go_simp
          clear hHeld
          refine hK.out _ _ (by obtain ⟨⟨k0, k1⟩, -⟩ := twoC (keepB Bs KA); obtain ⟨⟨k2, k3⟩, -⟩ := twoC (keepB Bs KB); exact ⟨k0, k1, k2, k3⟩) (fun hHeld => ?_)
          clear hK KK
          change wpAnyH _ _ _ _ _ _ _ { tmps := List.toArray (_ :: _ :: _ :: _ :: _ :: .pointer (some ⟨b6, 0, none⟩) :: .pointer (some ⟨b7, 0, none⟩) :: _ :: _ :: _ :: _ :: _ :: _ :: _ :: _ :: _ :: _ :: _ :: _ :: _ :: _ :: _ :: _ :: _ :: _ :: _ :: _ :: _ :: _ :: _ :: _ :: _ :: _ :: _ :: _ :: _ :: .agg #[.float .f64 a0, .float .f64 a1] :: .agg #[.float .f64 b0, .float .f64 b1] :: .agg #[.float .f64 p0, .float .f64 p1] :: .agg #[.float .f64 b0, .float .f64 b1] :: .agg #[.float .f64 a0, .float .f64 a1] :: .agg #[.float .f64 q0, .float .f64 q1] :: _ :: _ :: _ :: _ :: _ :: _ :: _ :: _ :: _ :: _ :: _ :: _ :: _ :: _ :: _ :: _ :: _ :: _ :: _ :: _ :: _ :: _ :: _ :: _ :: _ :: _ :: _ :: _ :: _ :: _ :: _ :: _ :: _ :: _ :: _ :: _ :: _ :: _ :: _ :: _ :: _ :: _ :: _ :: _ :: _ :: _ :: _ :: _ :: _ :: _ :: _ :: _ :: _ :: _ :: _ :: _ :: _ :: _ :: _ :: _ :: _ :: _ :: _ :: _ :: _ :: _ :: _ :: _ :: _ :: _ :: _ :: _ :: _ :: _ :: _ :: _ :: _ :: _ :: _ :: _ :: _ :: _ :: _ :: _ :: _ :: _ :: _ :: _ :: _ :: _ :: _ :: _ :: _ :: _ :: _ :: _ :: _ :: _ :: _ :: []), defers := [] } _
          refine wpAnyH_ready (rs := [9]) (by kernel_rfl) (by simp) ?_
          refine (AllReadyH.cons rfl (fun KK hK => ?_) AllReadyH.nil)
          obtain ⟨⟨m2, m3⟩, y2, y3⟩ := twoC x7
          have Bt : Below v.heap.size v ((((wz6.setCell ⟨b6, 0, none⟩ (.float .f64 p0)).setCell ⟨b6, 1, none⟩ (.float .f64 p1)).setCell ⟨b7, 0, none⟩ (.float .f64 q0)).setCell ⟨b7, 1, none⟩ (.float .f64 q1)) := below_set zl7 (below_set zl7 Bs)
          have v7 : ((((wz6.setCell ⟨b6, 0, none⟩ (.float .f64 p0)).setCell ⟨b6, 1, none⟩ (.float .f64 p1)).setCell ⟨b7, 0, none⟩ (.float .f64 q0)).setCell ⟨b7, 1, none⟩ (.float .f64 q1)).heap[b7]? = some (.cells #[.float .f64 q0, .float .f64 q1] 26 (0, 0)) := heap_same _ b7 1 _ _ _ (heap_same _ b7 0 _ _ _ x7)
          have v6 : ((((wz6.setCell ⟨b6, 0, none⟩ (.float .f64 p0)).setCell ⟨b6, 1, none⟩ (.float .f64 p1)).setCell ⟨b7, 0, none⟩ (.float .f64 q0)).setCell ⟨b7, 1, none⟩ (.float .f64 q1)).heap[b6]? = some (.cells #[.float .f64 p0, .float .f64 p1] 26 (0, 0)) := (heap_setCell n67).trans ((heap_setCell n67).trans x6)
          go_simp
          clear hHeld
          refine hK.out _ _ (by obtain ⟨⟨k0, k1⟩, -⟩ := twoC (keepB Bt KA); obtain ⟨⟨k2, k3⟩, -⟩ := twoC (keepB Bt KB); exact ⟨k0, k1, k2, k3⟩) (fun hHeld => ?_)
          clear hK KK
          change wpAnyH _ _ _ _ _ _ _ { tmps := List.toArray (_ :: _ :: _ :: _ :: _ :: .pointer (some ⟨b6, 0, none⟩) :: .pointer (some ⟨b7, 0, none⟩) :: _ :: _ :: _ :: _ :: _ :: _ :: _ :: _ :: _ :: _ :: _ :: _ :: _ :: _ :: _ :: _ :: _ :: _ :: _ :: _ :: _ :: _ :: _ :: _ :: _ :: _ :: _ :: _ :: _ :: .agg #[.float .f64 a0, .float .f64 a1] :: .agg #[.float .f64 b0, .float .f64 b1] :: .agg #[.float .f64 p0, .float .f64 p1] :: .agg #[.float .f64 b0, .float .f64 b1] :: .agg #[.float .f64 a0, .float .f64 a1] :: .agg #[.float .f64 q0, .float .f64 q1] :: _ :: _ :: _ :: _ :: _ :: _ :: _ :: _ :: _ :: _ :: _ :: _ :: _ :: _ :: _ :: _ :: _ :: _ :: _ :: _ :: _ :: _ :: _ :: _ :: _ :: _ :: _ :: _ :: _ :: _ :: _ :: _ :: _ :: _ :: _ :: _ :: _ :: _ :: _ :: _ :: _ :: _ :: _ :: _ :: _ :: _ :: _ :: _ :: _ :: _ :: _ :: _ :: _ :: _ :: _ :: _ :: _ :: _ :: _ :: _ :: _ :: _ :: _ :: _ :: _ :: _ :: _ :: _ :: _ :: _ :: _ :: _ :: _ :: _ :: _ :: _ :: _ :: _ :: _ :: _ :: _ :: _ :: _ :: _ :: _ :: _ :: _ :: _ :: _ :: _ :: _ :: _ :: _ :: _ :: _ :: _ :: _ :: _ :: _ :: []), defers := [] } _
          refine wpAnyH_done (by kernel_rfl) ?_ _
          go_wp2_with fail
          go_meet
          exact ⟨b6, p0, p1, b7, q0, q1, rfl, rfl, v6, v7, hP, hQ, zl6, zl7, Bt⟩
        · skip
          go_simp
          have hbz := balloc wc1 (.cells #[.float .f64 0, .float .f64 0] 26)
          have z6 : (wc1.alloc (.cells #[.float .f64 0, .float .f64 0] 26)).heap[wc1.heap.size]? = some (.cells #[.float .f64 0, .float .f64 0] 26 (0, 0)) := one_block wc1 _
          have zl6 : v.heap.size ≤ wc1.heap.size := Bc.size
          have Bz6 := btrans Bc hbz
          have ne67 : b7 ≠ wc1.heap.size := Nat.ne_of_lt (lt_of_block z7)
          have z7 := keepB hbz z7
          clear hbz
          generalize wc1.heap.size = b6 at *
          generalize wc1.alloc (.cells #[.float .f64 0, .float .f64 0] 26) = wz6 at *
          clear hHeld
          refine hK.out _ _ (by obtain ⟨⟨k0, k1⟩, -⟩ := twoC (keepB Bz6 KA); obtain ⟨⟨k2, k3⟩, -⟩ := twoC (keepB Bz6 KB); exact ⟨k0, k1, k2, k3⟩) (fun hHeld => ?_)
          clear hK KK
          change wpAnyH _ _ _ _ _ _ _ { tmps := List.toArray (_ :: _ :: _ :: _ :: _ :: .pointer (some ⟨b6, 0, none⟩) :: .pointer (some ⟨b7, 0, none⟩) :: _ :: _ :: _ :: _ :: _ :: _ :: _ :: _ :: _ :: _ :: _ :: _ :: _ :: _ :: _ :: _ :: _ :: _ :: _ :: _ :: _ :: _ :: _ :: _ :: _ :: _ :: _ :: _ :: _ :: .agg #[.float .f64 a0, .float .f64 a1] :: .agg #[.float .f64 b0, .float .f64 b1] :: .agg #[.float .f64 p0, .float .f64 p1] :: .agg #[.float .f64 b0, .float .f64 b1] :: .agg #[.float .f64 a0, .float .f64 a1] :: _ :: _ :: _ :: _ :: _ :: _ :: _ :: _ :: _ :: _ :: _ :: _ :: _ :: _ :: _ :: _ :: _ :: _ :: _ :: _ :: _ :: _ :: _ :: _ :: _ :: _ :: _ :: _ :: _ :: _ :: _ :: _ :: _ :: _ :: _ :: _ :: _ :: _ :: _ :: _ :: _ :: _ :: _ :: _ :: _ :: _ :: _ :: _ :: _ :: _ :: _ :: _ :: _ :: _ :: _ :: _ :: _ :: _ :: _ :: _ :: _ :: _ :: _ :: _ :: _ :: _ :: _ :: _ :: _ :: _ :: _ :: _ :: _ :: _ :: _ :: _ :: _ :: _ :: _ :: _ :: _ :: _ :: _ :: _ :: _ :: _ :: _ :: _ :: _ :: _ :: _ :: _ :: _ :: _ :: _ :: _ :: _ :: _ :: _ :: _ :: []), defers := [] } _
          refine wpAnyH_ready (rs := [5]) (by kernel_rfl) (by simp) ?_
          refine (AllReadyH.cons rfl (fun KK hK => ?_) AllReadyH.nil)
          go_simp
          refine (cZMulI2 b0 b1 a0 a1 _).mono ?_
          rintro e wc2 ⟨q0, q1, rfl, hQ, hb⟩
          have Bd := btrans Bz6 hb
          have z6 := keepB hb z6
          have z7 := keepB hb z7
          clear hb
          go_wp2_with fail
          clear hHeld
          refine hK.out _ _ (by obtain ⟨⟨k0, k1⟩, -⟩ := twoC (keepB Bd KA); obtain ⟨⟨k2, k3⟩, -⟩ := twoC (keepB Bd KB); exact ⟨k0, k1, k2, k3⟩) (fun hHeld => ?_)
          clear hK KK
          change wpAnyH _ _ _ _ _ _ _ { tmps := List.toArray (_ :: _ :: _ :: _ :: _ :: .pointer (some ⟨b6, 0, none⟩) :: .pointer (some ⟨b7, 0, none⟩) :: _ :: _ :: _ :: _ :: _ :: _ :: _ :: _ :: _ :: _ :: _ :: _ :: _ :: _ :: _ :: _ :: _ :: _ :: _ :: _ :: _ :: _ :: _ :: _ :: _ :: _ :: _ :: _ :: _ :: .agg #[.float .f64 a0, .float .f64 a1] :: .agg #[.float .f64 b0, .float .f64 b1] :: .agg #[.float .f64 p0, .float .f64 p1] :: .agg #[.float .f64 b0, .float .f64 b1] :: .agg #[.float .f64 a0, .float .f64 a1] :: .agg #[.float .f64 q0, .float .f64 q1] :: _ :: _ :: _ :: _ :: _ :: _ :: _ :: _ :: _ :: _ :: _ :: _ :: _ :: _ :: _ :: _ :: _ :: _ :: _ :: _ :: _ :: _ :: _ :: _ :: _ :: _ :: _ :: _ :: _ :: _ :: _ :: _ :: _ :: _ :: _ :: _ :: _ :: _ :: _ :: _ :: _ :: _ :: _ :: _ :: _ :: _ :: _ :: _ :: _ :: _ :: _ :: _ :: _ :: _ :: _ :: _ :: _ :: _ :: _ :: _ :: _ :: _ :: _ :: _ :: _ :: _ :: _ :: _ :: _ :: _ :: _ :: _ :: _ :: _ :: _ :: _ :: _ :: _ :: _ :: _ :: _ :: _ :: _ :: _ :: _ :: _ :: _ :: _ :: _ :: _ :: _ :: _ :: _ :: _ :: _ :: _ :: _ :: _ :: _ :: []), defers := [] } _
          refine wpAnyH_ready (rs := [8]) (by kernel_rfl) (by simp) ?_
          refine (AllReadyH.cons rfl (fun KK hK => ?_) AllReadyH.nil)
          obtain ⟨⟨m0, m1⟩, y0, y1⟩ := twoC z6
          have n67 : b6 ≠ b7 := ne67.symm
          have Bs : Below v.heap.size v ((wc2.setCell ⟨b6, 0, none⟩ (.float .f64 p0)).setCell ⟨b6, 1, none⟩ (.float .f64 p1)) := below_set zl6 (below_set zl6 Bd)
          have x6 : ((wc2.setCell ⟨b6, 0, none⟩ (.float .f64 p0)).setCell ⟨b6, 1, none⟩ (.float .f64 p1)).heap[b6]? = some (.cells #[.float .f64 p0, .float .f64 p1] 26 (0, 0)) := heap_same _ b6 1 _ _ _ (heap_same _ b6 0 _ _ _ z6)
          have x7 : ((wc2.setCell ⟨b6, 0, none⟩ (.float .f64 p0)).setCell ⟨b6, 1, none⟩ (.float .f64 p1)).heap[b7]? = some (.cells #[.float .f64 0, .float .f64 0] 26 (0, 0)) := (heap_setCell n67.symm).trans ((heap_setCell n67.symm).trans z7)
          go_simp
          clear hHeld
          refine hK.out _ _ (by obtain ⟨⟨k0, k1⟩, -⟩ := twoC (keepB Bs KA); obtain ⟨⟨k2, k3⟩, -⟩ := twoC (keepB Bs KB); exact ⟨k0, k1, k2, k3⟩) (fun hHeld => ?_)
          clear hK KK
          change wpAnyH _ _ _ _ _ _ _ { tmps := List.toArray (_ :: _ :: _ :: _ :: _ :: .pointer (some ⟨b6, 0, none⟩) :: .pointer (some ⟨b7, 0, none⟩) :: _ :: _ :: _ :: _ :: _ :: _ :: _ :: _ :: _ :: _ :: _ :: _ :: _ :: _ :: _ :: _ :: _ :: _ :: _ :: _ :: _ :: _ :: _ :: _ :: _ :: _ :: _ :: _ :: _ :: .agg #[.float .f64 a0, .float .f64 a1] :: .agg #[.float .f64 b0, .float .f64 b1] :: .agg #[.float .f64 p0, .float .f64 p1] :: .agg #[.float .f64 b0, .float .f64 b1] :: .agg #[.float .f64 a0, .float .f64 a1] :: .agg #[.float .f64 q0, .float .f64 q1] :: _ :: _ :: _ :: _ :: _ :: _ :: _ :: _ :: _ :: _ :: _ :: _ :: _ :: _ :: _ :: _ :: _ :: _ :: _ :: _ :: _ :: _ :: _ :: _ :: _ :: _ :: _ :: _ :: _ :: _ :: _ :: _ :: _ :: _ :: _ :: _ :: _ :: _ :: _ :: _ :: _ :: _ :: _ :: _ :: _ :: _ :: _ :: _ :: _ :: _ :: _ :: _ :: _ :: _ :: _ :: _ :: _ :: _ :: _ :: _ :: _ :: _ :: _ :: _ :: _ :: _ :: _ :: _ :: _ :: _ :: _ :: _ :: _ :: _ :: _ :: _ :: _ :: _ :: _ :: _ :: _ :: _ :: _ :: _ :: _ :: _ :: _ :: _ :: _ :: _ :: _ :: _ :: _ :: _ :: _ :: _ :: _ :: _ :: _ :: []), defers := [] } _
          refine wpAnyH_ready (rs := [9]) (by kernel_rfl) (by simp) ?_
          refine (AllReadyH.cons rfl (fun KK hK => ?_) AllReadyH.nil)
          obtain ⟨⟨m2, m3⟩, y2, y3⟩ := twoC x7
          have Bt : Below v.heap.size v ((((wc2.setCell ⟨b6, 0, none⟩ (.float .f64 p0)).setCell ⟨b6, 1, none⟩ (.float .f64 p1)).setCell ⟨b7, 0, none⟩ (.float .f64 q0)).setCell ⟨b7, 1, none⟩ (.float .f64 q1)) := below_set zl7 (below_set zl7 Bs)
          have v7 : ((((wc2.setCell ⟨b6, 0, none⟩ (.float .f64 p0)).setCell ⟨b6, 1, none⟩ (.float .f64 p1)).setCell ⟨b7, 0, none⟩ (.float .f64 q0)).setCell ⟨b7, 1, none⟩ (.float .f64 q1)).heap[b7]? = some (.cells #[.float .f64 q0, .float .f64 q1] 26 (0, 0)) := heap_same _ b7 1 _ _ _ (heap_same _ b7 0 _ _ _ x7)
          have v6 : ((((wc2.setCell ⟨b6, 0, none⟩ (.float .f64 p0)).setCell ⟨b6, 1, none⟩ (.float .f64 p1)).setCell ⟨b7, 0, none⟩ (.float .f64 q0)).setCell ⟨b7, 1, none⟩ (.float .f64 q1)).heap[b6]? = some (.cells #[.float .f64 p0, .float .f64 p1] 26 (0, 0)) := (heap_setCell n67).trans ((heap_setCell n67).trans x6)
          go_simp
          clear hHeld
          refine hK.out _ _ (by obtain ⟨⟨k0, k1⟩, -⟩ := twoC (keepB Bt KA); obtain ⟨⟨k2, k3⟩, -⟩ := twoC (keepB Bt KB); exact ⟨k0, k1, k2, k3⟩) (fun hHeld => ?_)
          clear hK KK
          change wpAnyH _ _ _ _ _ _ _ { tmps := List.toArray (_ :: _ :: _ :: _ :: _ :: .pointer (some ⟨b6, 0, none⟩) :: .pointer (some ⟨b7, 0, none⟩) :: _ :: _ :: _ :: _ :: _ :: _ :: _ :: _ :: _ :: _ :: _ :: _ :: _ :: _ :: _ :: _ :: _ :: _ :: _ :: _ :: _ :: _ :: _ :: _ :: _ :: _ :: _ :: _ :: _ :: .agg #[.float .f64 a0, .float .f64 a1] :: .agg #[.float .f64 b0, .float .f64 b1] :: .agg #[.float .f64 p0, .float .f64 p1] :: .agg #[.float .f64 b0, .float .f64 b1] :: .agg #[.float .f64 a0, .float .f64 a1] :: .agg #[.float .f64 q0, .float .f64 q1] :: _ :: _ :: _ :: _ :: _ :: _ :: _ :: _ :: _ :: _ :: _ :: _ :: _ :: _ :: _ :: _ :: _ :: _ :: _ :: _ :: _ :: _ :: _ :: _ :: _ :: _ :: _ :: _ :: _ :: _ :: _ :: _ :: _ :: _ :: _ :: _ :: _ :: _ :: _ :: _ :: _ :: _ :: _ :: _ :: _ :: _ :: _ :: _ :: _ :: _ :: _ :: _ :: _ :: _ :: _ :: _ :: _ :: _ :: _ :: _ :: _ :: _ :: _ :: _ :: _ :: _ :: _ :: _ :: _ :: _ :: _ :: _ :: _ :: _ :: _ :: _ :: _ :: _ :: _ :: _ :: _ :: _ :: _ :: _ :: _ :: _ :: _ :: _ :: _ :: _ :: _ :: _ :: _ :: _ :: _ :: _ :: _ :: _ :: _ :: []), defers := [] } _
          refine wpAnyH_done (by kernel_rfl) ?_ _
          go_wp2_with fail
          go_meet
          exact ⟨b6, p0, p1, b7, q0, q1, rfl, rfl, v6, v7, hP, hQ, zl6, zl7, Bt⟩
      · skip
        go_simp
        have hbz := balloc wz7 (.cells #[.float .f64 0, .float .f64 0] 26)
        have z6 : (wz7.alloc (.cells #[.float .f64 0, .float .f64 0] 26)).heap[wz7.heap.size]? = some (.cells #[.float .f64 0, .float .f64 0] 26 (0, 0)) := one_block wz7 _
        have zl6 : v.heap.size ≤ wz7.heap.size := Bz7.size
        have Bz6 := btrans Bz7 hbz
        have ne67 : b7 ≠ wz7.heap.size := Nat.ne_of_lt (lt_of_block z7)
        have z7 := keepB hbz z7
        clear hbz
        generalize wz7.heap.size = b6 at *
        generalize wz7.alloc (.cells #[.float .f64 0, .float .f64 0] 26) = wz6 at *
        clear hHeld
        refine hK.out _ _ (by obtain ⟨⟨k0, k1⟩, -⟩ := twoC (keepB Bz6 KA); obtain ⟨⟨k2, k3⟩, -⟩ := twoC (keepB Bz6 KB); exact ⟨k0, k1, k2, k3⟩) (fun hHeld => ?_)
        clear hK KK
        change wpAnyH _ _ _ _ _ _ _ { tmps := List.toArray (_ :: _ :: _ :: _ :: _ :: .pointer (some ⟨b6, 0, none⟩) :: .pointer (some ⟨b7, 0, none⟩) :: _ :: _ :: _ :: _ :: _ :: _ :: _ :: _ :: _ :: _ :: _ :: _ :: _ :: _ :: _ :: _ :: _ :: _ :: _ :: _ :: _ :: _ :: _ :: _ :: _ :: _ :: _ :: _ :: _ :: .agg #[.float .f64 a0, .float .f64 a1] :: .agg #[.float .f64 b0, .float .f64 b1] :: _ :: .agg #[.float .f64 b0, .float .f64 b1] :: .agg #[.float .f64 a0, .float .f64 a1] :: _ :: _ :: _ :: _ :: _ :: _ :: _ :: _ :: _ :: _ :: _ :: _ :: _ :: _ :: _ :: _ :: _ :: _ :: _ :: _ :: _ :: _ :: _ :: _ :: _ :: _ :: _ :: _ :: _ :: _ :: _ :: _ :: _ :: _ :: _ :: _ :: _ :: _ :: _ :: _ :: _ :: _ :: _ :: _ :: _ :: _ :: _ :: _ :: _ :: _ :: _ :: _ :: _ :: _ :: _ :: _ :: _ :: _ :: _ :: _ :: _ :: _ :: _ :: _ :: _ :: _ :: _ :: _ :: _ :: _ :: _ :: _ :: _ :: _ :: _ :: _ :: _ :: _ :: _ :: _ :: _ :: _ :: _ :: _ :: _ :: _ :: _ :: _ :: _ :: _ :: _ :: _ :: _ :: _ :: _ :: _ :: _ :: _ :: _ :: _ :: []), defers := [] } _
        refine wpAnyH_ready (rs := [2]) (by kernel_rfl) (by simp) ?_
        refine (AllReadyH.cons rfl (fun KK hK => ?_) AllReadyH.nil)
        go_simp
        refine (cZMulI2 a0 a1 b0 b1 _).mono ?_
        rintro e wc1 ⟨p0, p1, rfl, hP, hb⟩
        have Bc := btrans Bz6 hb
        have z6 := keepB hb z6
        have z7 := keepB hb z7
        clear hb
        go_wp2_with fail
        clear hHeld
        refine hK.out _ _ (by obtain ⟨⟨k0, k1⟩, -⟩ := twoC (keepB Bc KA); obtain ⟨⟨k2, k3⟩, -⟩ := twoC (keepB Bc KB); exact ⟨k0, k1, k2, k3⟩) (fun hHeld => ?_)
        clear hK KK
        change wpAnyH _ _ _ _ _ _ _ { tmps := List.toArray (_ :: _ :: _ :: _ :: _ :: .pointer (some ⟨b6, 0, none⟩) :: .pointer (some ⟨b7, 0, none⟩) :: _ :: _ :: _ :: _ :: _ :: _ :: _ :: _ :: _ :: _ :: _ :: _ :: _ :: _ :: _ :: _ :: _ :: _ :: _ :: _ :: _ :: _ :: _ :: _ :: _ :: _ :: _ :: _ :: _ :: .agg #[.float .f64 a0, .float .f64 a1] :: .agg #[.float .f64 b0, .float .f64 b1] :: .agg #[.float .f64 p0, .float .f64 p1] :: .agg #[.float .f64 b0, .float .f64 b1] :: .agg #[.float .f64 a0, .float .f64 a1] :: _ :: _ :: _ :: _ :: _ :: _ :: _ :: _ :: _ :: _ :: _ :: _ :: _ :: _ :: _ :: _ :: _ :: _ :: _ :: _ :: _ :: _ :: _ :: _ :: _ :: _ :: _ :: _ :: _ :: _ :: _ :: _ :: _ :: _ :: _ :: _ :: _ :: _ :: _ :: _ :: _ :: _ :: _ :: _ :: _ :: _ :: _ :: _ :: _ :: _ :: _ :: _ :: _ :: _ :: _ :: _ :: _ :: _ :: _ :: _ :: _ :: _ :: _ :: _ :: _ :: _ :: _ :: _ :: _ :: _ :: _ :: _ :: _ :: _ :: _ :: _ :: _ :: _ :: _ :: _ :: _ :: _ :: _ :: _ :: _ :: _ :: _ :: _ :: _ :: _ :: _ :: _ :: _ :: _ :: _ :: _ :: _ :: _ :: _ :: _ :: []), defers := [] } _
        refine wpAnyH_ready (rs := [5]) (by kernel_rfl) (by simp) ?_
        refine (AllReadyH.cons rfl (fun KK hK => ?_) AllReadyH.nil)
        go_simp
        refine (cZMulI2 b0 b1 a0 a1 _).mono ?_
        rintro e wc2 ⟨q0, q1, rfl, hQ, hb⟩
        have Bd := btrans Bc hb
        have z6 := keepB hb z6
        have z7 := keepB hb z7
        clear hb
        go_wp2_with fail
        clear hHeld
        refine hK.out _ _ (by obtain ⟨⟨k0, k1⟩, -⟩ := twoC (keepB Bd KA); obtain ⟨⟨k2, k3⟩, -⟩ := twoC (keepB Bd KB); exact ⟨k0, k1, k2, k3⟩) (fun hHeld => ?_)
        clear hK KK
        change wpAnyH _ _ _ _ _ _ _ { tmps := List.toArray (_ :: _ :: _ :: _ :: _ :: .pointer (some ⟨b6, 0, none⟩) :: .pointer (some ⟨b7, 0, none⟩) :: _ :: _ :: _ :: _ :: _ :: _ :: _ :: _ :: _ :: _ :: _ :: _ :: _ :: _ :: _ :: _ :: _ :: _ :: _ :: _ :: _ :: _ :: _ :: _ :: _ :: _ :: _ :: _ :: _ :: .agg #[.float .f64 a0, .float .f64 a1] :: .agg #[.float .f64 b0, .float .f64 b1] :: .agg #[.float .f64 p0, .float .f64 p1] :: .agg #[.float .f64 b0, .float .f64 b1] :: .agg #[.float .f64 a0, .float .f64 a1] :: .agg #[.float .f64 q0, .float .f64 q1] :: _ :: _ :: _ :: _ :: _ :: _ :: _ :: _ :: _ :: _ :: _ :: _ :: _ :: _ :: _ :: _ :: _ :: _ :: _ :: _ :: _ :: _ :: _ :: _ :: _ :: _ :: _ :: _ :: _ :: _ :: _ :: _ :: _ :: _ :: _ :: _ :: _ :: _ :: _ :: _ :: _ :: _ :: _ :: _ :: _ :: _ :: _ :: _ :: _ :: _ :: _ :: _ :: _ :: _ :: _ :: _ :: _ :: _ :: _ :: _ :: _ :: _ :: _ :: _ :: _ :: _ :: _ :: _ :: _ :: _ :: _ :: _ :: _ :: _ :: _ :: _ :: _ :: _ :: _ :: _ :: _ :: _ :: _ :: _ :: _ :: _ :: _ :: _ :: _ :: _ :: _ :: _ :: _ :: _ :: _ :: _ :: _ :: _ :: _ :: []), defers := [] } _
        refine wpAnyH_ready (rs := [8]) (by kernel_rfl) (by simp) ?_
        refine (AllReadyH.cons rfl (fun KK hK => ?_) AllReadyH.nil)
        obtain ⟨⟨m0, m1⟩, y0, y1⟩ := twoC z6
        have n67 : b6 ≠ b7 := ne67.symm
        have Bs : Below v.heap.size v ((wc2.setCell ⟨b6, 0, none⟩ (.float .f64 p0)).setCell ⟨b6, 1, none⟩ (.float .f64 p1)) := below_set zl6 (below_set zl6 Bd)
        have x6 : ((wc2.setCell ⟨b6, 0, none⟩ (.float .f64 p0)).setCell ⟨b6, 1, none⟩ (.float .f64 p1)).heap[b6]? = some (.cells #[.float .f64 p0, .float .f64 p1] 26 (0, 0)) := heap_same _ b6 1 _ _ _ (heap_same _ b6 0 _ _ _ z6)
        have x7 : ((wc2.setCell ⟨b6, 0, none⟩ (.float .f64 p0)).setCell ⟨b6, 1, none⟩ (.float .f64 p1)).heap[b7]? = some (.cells #[.float .f64 0, .float .f64 0] 26 (0, 0)) := (heap_setCell n67.symm).trans ((heap_setCell n67.symm).trans z7)
        go_simp
        clear hHeld
        refine hK.out _ _ (by obtain ⟨⟨k0, k1⟩, -⟩ := twoC (keepB Bs KA); obtain ⟨⟨k2, k3⟩, -⟩ := twoC (keepB Bs KB); exact ⟨k0, k1, k2, k3⟩) (fun hHeld => ?_)
        clear hK KK
        change wpAnyH _ _ _ _ _ _ _ { tmps := List.toArray (_ :: _ :: _ :: _ :: _ :: .pointer (some ⟨b6, 0, none⟩) :: .pointer (some ⟨b7, 0, none⟩) :: _ :: _ :: _ :: _ :: _ :: _ :: _ :: _ :: _ :: _ :: _ :: _ :: _ :: _ :: _ :: _ :: _ :: _ :: _ :: _ :: _ :: _ :: _ :: _ :: _ :: _ :: _ :: _ :: _ :: .agg #[.float .f64 a0, .float .f64 a1] :: .agg #[.float .f64 b0, .float .f64 b1] :: .agg #[.float .f64 p0, .float .f64 p1] :: .agg #[.float .f64 b0, .float .f64 b1] :: .agg #[.float .f64 a0, .float .f64 a1] :: .agg #[.float .f64 q0, .float .f64 q1] :: _ :: _ :: _ :: _ :: _ :: _ :: _ :: _ :: _ :: _ :: _ :: _ :: _ :: _ :: _ :: _ :: _ :: _ :: _ :: _ :: _ :: _ :: _ :: _ :: _ :: _ :: _ :: _ :: _ :: _ :: _ :: _ :: _ :: _ :: _ :: _ :: _ :: _ :: _ :: _ :: _ :: _ :: _ :: _ :: _ :: _ :: _ :: _ :: _ :: _ :: _ :: _ :: _ :: _ :: _ :: _ :: _ :: _ :: _ :: _ :: _ :: _ :: _ :: _ :: _ :: _ :: _ :: _ :: _ :: _ :: _ :: _ :: _ :: _ :: _ :: _ :: _ :: _ :: _ :: _ :: _ :: _ :: _ :: _ :: _ :: _ :: _ :: _ :: _ :: _ :: _ :: _ :: _ :: _ :: _ :: _ :: _ :: _ :: _ :: []), defers := [] } _
        refine wpAnyH_ready (rs := [9]) (by kernel_rfl) (by simp) ?_
        refine (AllReadyH.cons rfl (fun KK hK => ?_) AllReadyH.nil)
        obtain ⟨⟨m2, m3⟩, y2, y3⟩ := twoC x7
        have Bt : Below v.heap.size v ((((wc2.setCell ⟨b6, 0, none⟩ (.float .f64 p0)).setCell ⟨b6, 1, none⟩ (.float .f64 p1)).setCell ⟨b7, 0, none⟩ (.float .f64 q0)).setCell ⟨b7, 1, none⟩ (.float .f64 q1)) := below_set zl7 (below_set zl7 Bs)
        have v7 : ((((wc2.setCell ⟨b6, 0, none⟩ (.float .f64 p0)).setCell ⟨b6, 1, none⟩ (.float .f64 p1)).setCell ⟨b7, 0, none⟩ (.float .f64 q0)).setCell ⟨b7, 1, none⟩ (.float .f64 q1)).heap[b7]? = some (.cells #[.float .f64 q0, .float .f64 q1] 26 (0, 0)) := heap_same _ b7 1 _ _ _ (heap_same _ b7 0 _ _ _ x7)
        have v6 : ((((wc2.setCell ⟨b6, 0, none⟩ (.float .f64 p0)).setCell ⟨b6, 1, none⟩ (.float .f64 p1)).setCell ⟨b7, 0, none⟩ (.float .f64 q0)).setCell ⟨b7, 1, none⟩ (.float .f64 q1)).heap[b6]? = some (.cells #[.float .f64 p0, .float .f64 p1] 26 (0, 0)) := (heap_setCell n67).trans ((heap_setCell n67).trans x6)
        go_simp
        clear hHeld
        refine hK.out _ _ (by obtain ⟨⟨k0, k1⟩, -⟩ := twoC (keepB Bt KA); obtain ⟨⟨k2, k3⟩, -⟩ := twoC (keepB Bt KB); exact ⟨k0, k1, k2, k3⟩) (fun hHeld => ?_)
        clear hK KK
        change wpAnyH _ _ _ _ _ _ _ { tmps := List.toArray (_ :: _ :: _ :: _ :: _ :: .pointer (some ⟨b6, 0, none⟩) :: .pointer (some ⟨b7, 0, none⟩) :: _ :: _ :: _ :: _ :: _ :: _ :: _ :: _ :: _ :: _ :: _ :: _ :: _ :: _ :: _ :: _ :: _ :: _ :: _ :: _ :: _ :: _ :: _ :: _ :: _ :: _ :: _ :: _ :: _ :: .agg #[.float .f64 a0, .float .f64 a1] :: .agg #[.float .f64 b0, .float .f64 b1] :: .agg #[.float .f64 p0, .float .f64 p1] :: .agg #[.float .f64 b0, .float .f64 b1] :: .agg #[.float .f64 a0, .float .f64 a1] :: .agg #[.float .f64 q0, .float .f64 q1] :: _ :: _ :: _ :: _ :: _ :: _ :: _ :: _ :: _ :: _ :: _ :: _ :: _ :: _ :: _ :: _ :: _ :: _ :: _ :: _ :: _ :: _ :: _ :: _ :: _ :: _ :: _ :: _ :: _ :: _ :: _ :: _ :: _ :: _ :: _ :: _ :: _ :: _ :: _ :: _ :: _ :: _ :: _ :: _ :: _ :: _ :: _ :: _ :: _ :: _ :: _ :: _ :: _ :: _ :: _ :: _ :: _ :: _ :: _ :: _ :: _ :: _ :: _ :: _ :: _ :: _ :: _ :: _ :: _ :: _ :: _ :: _ :: _ :: _ :: _ :: _ :: _ :: _ :: _ :: _ :: _ :: _ :: _ :: _ :: _ :: _ :: _ :: _ :: _ :: _ :: _ :: _ :: _ :: _ :: _ :: _ :: _ :: _ :: _ :: []), defers := [] } _
        refine wpAnyH_done (by kernel_rfl) ?_ _
        go_wp2_with fail
        go_meet
        exact ⟨b6, p0, p1, b7, q0, q1, rfl, rfl, v6, v7, hP, hQ, zl6, zl7, Bt⟩
  case rest =>
  obtain ⟨b5, p0, p1, b6, q0, q1, rfl, rfl, K5, K6, hP, hQ, l5, l6, hb⟩ := hcut
  have HB3 := btrans HB2 hb
  replace KA := keepB hb KA
  replace KB := keepB hb KB
  clear hb HB2 u0 u1 u2 u3
  generalize wc = w3 at *
  obtain ⟨hA0, hA1, hB0, hB1⟩ := HD.out
  obtain ⟨A0, rfl⟩ : ∃ A0, z0 = A0 + 128 := ⟨z0 - 128, by omega⟩
  obtain ⟨A1, rfl⟩ : ∃ A1, z1 = A1 + 128 := ⟨z1 - 128, by omega⟩
  obtain ⟨B0, rfl⟩ : ∃ B0, z2 = B0 + 128 := ⟨z2 - 128, by omega⟩
  obtain ⟨B1, rfl⟩ : ∃ B1, z3 = B1 + 128 := ⟨z3 - 128, by omega⟩
  rw [Int.add_sub_cancel] at hA0 hA1 hB0 hB1
  have hDA : DC 2 A0 A1 (ZV.c ⟨a0, a1⟩) := ⟨hA0, hA1⟩
  have hDB : DC 2 B0 B1 (ZV.c ⟨b0, b1⟩) := ⟨hB0, hB1⟩
  have bA0 : -128 ≤ A0 ∧ A0 ≤ 128 := by omega
  have bA1 : -128 ≤ A1 ∧ A1 ≤ 128 := by omega
  have bB0 : -128 ≤ B0 ∧ B0 ≤ 128 := by omega
  have bB1 : -128 ≤ B1 ∧ B1 ≤ 128 := by omega
  have hDP := zmul_D hDA hDB (by decide) bA0.1 bA0.2 bA1.1 bA1.2 bB0.1 bB0.2 bB1.1 bB1.2 (by decide)
  have hDQ := zmul_D hDB hDA (by decide) bB0.1 bB0.2 bB1.1 bB1.2 bA0.1 bA0.2 bA1.1 bA1.2 (by decide)
  rw [← hP] at hDP
  rw [← hQ, show B0 * A0 - B1 * A1 = A0 * B0 - A1 * B1 by grind, show B0 * A1 + B1 * A0 = A0 * B1 + A1 * B0 by grind] at hDQ
  have o1 : FloatKind.f64.format.order p0 q0 = some .eq := eq_of hDP.1 hDQ.1
  have o2 : FloatKind.f64.format.order p1 q1 = some .eq := eq_of hDP.2 hDQ.2
  have HSP : Hid (Dz (4 + 4) ((A0 * A0 + A1 * A1) * (B0 * B0 + B1 * B1)) (zsize (ZV.c ⟨p0, p1⟩))) := by
    have m1 := mb bA0.1 bA0.2 bB0.1 bB0.2
    have m2 := mb bA1.1 bA1.2 bB1.1 bB1.2
    have m3 := mb bA0.1 bA0.2 bB1.1 bB1.2
    have m4 := mb bA1.1 bA1.2 bB0.1 bB0.2
    have := zsize_D (N := 32768) hDP (by decide) (by omega) (by omega) (by omega) (by omega) (by decide)
    rwa [show (A0 * B0 - A1 * B1) * (A0 * B0 - A1 * B1) + (A0 * B1 + A1 * B0) * (A0 * B1 + A1 * B0) = (A0 * A0 + A1 * A1) * (B0 * B0 + B1 * B1) by grind] at this
  have HSA : Hid (Dz (2 + 2) (A0 * A0 + A1 * A1) (zsize (ZV.c ⟨a0, a1⟩))) := zsize_D (N := 128) hDA (by decide) bA0.1 bA0.2 bA1.1 bA1.2 (by decide)
  have HSB : Hid (Dz (2 + 2) (B0 * B0 + B1 * B1) (zsize (ZV.c ⟨b0, b1⟩))) := zsize_D (N := 128) hDB (by decide) bB0.1 bB0.2 bB1.1 bB1.2 (by decide)
  have HSN : Hid (-9007199254740992 < (A0 * A0 + A1 * A1) * (B0 * B0 + B1 * B1) ∧ (A0 * A0 + A1 * A1) * (B0 * B0 + B1 * B1) < 9007199254740992) := by
    have m1 := mb bA0.1 bA0.2 bA0.1 bA0.2
    have m2 := mb bA1.1 bA1.2 bA1.1 bA1.2
    have m3 := mb bB0.1 bB0.2 bB0.1 bB0.2
    have m4 := mb bB1.1 bB1.2 bB1.1 bB1.2
    have := mb (n := A0 * A0 + A1 * A1) (m := B0 * B0 + B1 * B1) (N := 32768) (M := 32768) (by omega) (by omega) (by omega) (by omega)
    exact ⟨by omega, by omega⟩
  clear hDP hDQ hP hQ HD R0 R1 R2 R3
  obtain ⟨⟨c0, c1⟩, -⟩ := twoC K5
  obtain ⟨⟨c2, c3⟩, -⟩ := twoC K6
  obtain ⟨⟨c4, c5⟩, -⟩ := twoC KA
  obtain ⟨⟨c6, c7⟩, -⟩ := twoC KB
  go_upto_region 6 with fail
  refine wp_region_held_drew (S := (fun w' => w'.cell? ⟨b5, 0, none⟩ = some (.float .f64 p0) ∧ w'.cell? ⟨b5, 1, none⟩ = some (.float .f64 p1) ∧ w'.cell? ⟨b6, 0, none⟩ = some (.float .f64 q0) ∧ w'.cell? ⟨b6, 1, none⟩ = some (.float .f64 q1) ∧ w'.cell? ⟨ba, 0, none⟩ = some (.float .f64 a0) ∧ w'.cell? ⟨ba, 1, none⟩ = some (.float .f64 a1) ∧ w'.cell? ⟨bb, 0, none⟩ = some (.float .f64 b0) ∧ w'.cell? ⟨bb, 1, none⟩ = some (.float .f64 b1))) (by kernel_rfl) ?_ (fun hHeld => ?_)
  · go_keep
  have B0d : Below w3.heap.size w3 w3.drew := (Below.refl _ _).drew
  generalize w3.drew = wd at *
  refine wpAnyH_take (i := 0) (v := .pointer (some ⟨b5, 0, none⟩)) rfl (by kernel_rfl) (by kernel_rfl) (by kernel_rfl) (fun _ _ _ h => h) (Or.inl ⟨by kernel_rfl, fun w hS => by go_simp⟩) hHeld ?_
  change wpAnyH _ _ _ _ _ _ _ { tmps := List.toArray (_ :: _ :: _ :: .pointer (some ⟨ba, 0, none⟩) :: .pointer (some ⟨bb, 0, none⟩) :: .pointer (some ⟨b5, 0, none⟩) :: .pointer (some ⟨b6, 0, none⟩) :: _ :: _ :: _ :: _ :: _ :: _ :: _ :: _ :: _ :: _ :: _ :: _ :: _ :: _ :: _ :: _ :: _ :: _ :: _ :: _ :: _ :: _ :: _ :: _ :: _ :: _ :: _ :: _ :: _ :: _ :: _ :: _ :: _ :: _ :: _ :: .pointer (some ⟨b5, 0, none⟩) :: _ :: _ :: _ :: _ :: _ :: _ :: _ :: _ :: _ :: _ :: _ :: _ :: _ :: _ :: _ :: _ :: _ :: _ :: _ :: _ :: _ :: _ :: _ :: _ :: _ :: _ :: _ :: _ :: _ :: _ :: _ :: _ :: _ :: _ :: _ :: _ :: _ :: _ :: _ :: _ :: _ :: _ :: _ :: _ :: _ :: _ :: _ :: _ :: _ :: _ :: _ :: _ :: _ :: _ :: _ :: _ :: _ :: _ :: _ :: _ :: _ :: _ :: _ :: _ :: _ :: _ :: _ :: _ :: _ :: _ :: _ :: _ :: _ :: _ :: _ :: _ :: _ :: _ :: _ :: _ :: _ :: _ :: _ :: _ :: _ :: _ :: _ :: _ :: _ :: _ :: _ :: _ :: _ :: _ :: _ :: _ :: _ :: _ :: []), defers := [] } _
  refine wpAnyH_take (i := 1) (v := .float .f64 p0) rfl (by kernel_rfl) (by kernel_rfl) (by kernel_rfl) (fun _ _ _ h => h) (Or.inl ⟨by kernel_rfl, fun w hS => by (obtain ⟨hS0, hS1, hS2, hS3, hS4, hS5, hS6, hS7⟩ := hS; go_simp)⟩) hHeld ?_
  change wpAnyH _ _ _ _ _ _ _ { tmps := List.toArray (_ :: _ :: _ :: .pointer (some ⟨ba, 0, none⟩) :: .pointer (some ⟨bb, 0, none⟩) :: .pointer (some ⟨b5, 0, none⟩) :: .pointer (some ⟨b6, 0, none⟩) :: _ :: _ :: _ :: _ :: _ :: _ :: _ :: _ :: _ :: _ :: _ :: _ :: _ :: _ :: _ :: _ :: _ :: _ :: _ :: _ :: _ :: _ :: _ :: _ :: _ :: _ :: _ :: _ :: _ :: _ :: _ :: _ :: _ :: _ :: _ :: .pointer (some ⟨b5, 0, none⟩) :: .float .f64 p0 :: _ :: _ :: _ :: _ :: _ :: _ :: _ :: _ :: _ :: _ :: _ :: _ :: _ :: _ :: _ :: _ :: _ :: _ :: _ :: _ :: _ :: _ :: _ :: _ :: _ :: _ :: _ :: _ :: _ :: _ :: _ :: _ :: _ :: _ :: _ :: _ :: _ :: _ :: _ :: _ :: _ :: _ :: _ :: _ :: _ :: _ :: _ :: _ :: _ :: _ :: _ :: _ :: _ :: _ :: _ :: _ :: _ :: _ :: _ :: _ :: _ :: _ :: _ :: _ :: _ :: _ :: _ :: _ :: _ :: _ :: _ :: _ :: _ :: _ :: _ :: _ :: _ :: _ :: _ :: _ :: _ :: _ :: _ :: _ :: _ :: _ :: _ :: _ :: _ :: _ :: _ :: _ :: _ :: _ :: _ :: _ :: _ :: []), defers := [] } _
  refine wpAnyH_take (i := 2) (v := .pointer (some ⟨b6, 0, none⟩)) rfl (by kernel_rfl) (by kernel_rfl) (by kernel_rfl) (fun _ _ _ h => h) (Or.inl ⟨by kernel_rfl, fun w hS => by go_simp⟩) hHeld ?_
  change wpAnyH _ _ _ _ _ _ _ { tmps := List.toArray (_ :: _ :: _ :: .pointer (some ⟨ba, 0, none⟩) :: .pointer (some ⟨bb, 0, none⟩) :: .pointer (some ⟨b5, 0, none⟩) :: .pointer (some ⟨b6, 0, none⟩) :: _ :: _ :: _ :: _ :: _ :: _ :: _ :: _ :: _ :: _ :: _ :: _ :: _ :: _ :: _ :: _ :: _ :: _ :: _ :: _ :: _ :: _ :: _ :: _ :: _ :: _ :: _ :: _ :: _ :: _ :: _ :: _ :: _ :: _ :: _ :: .pointer (some ⟨b5, 0, none⟩) :: .float .f64 p0 :: .pointer (some ⟨b6, 0, none⟩) :: _ :: _ :: _ :: _ :: _ :: _ :: _ :: _ :: _ :: _ :: _ :: _ :: _ :: _ :: _ :: _ :: _ :: _ :: _ :: _ :: _ :: _ :: _ :: _ :: _ :: _ :: _ :: _ :: _ :: _ :: _ :: _ :: _ :: _ :: _ :: _ :: _ :: _ :: _ :: _ :: _ :: _ :: _ :: _ :: _ :: _ :: _ :: _ :: _ :: _ :: _ :: _ :: _ :: _ :: _ :: _ :: _ :: _ :: _ :: _ :: _ :: _ :: _ :: _ :: _ :: _ :: _ :: _ :: _ :: _ :: _ :: _ :: _ :: _ :: _ :: _ :: _ :: _ :: _ :: _ :: _ :: _ :: _ :: _ :: _ :: _ :: _ :: _ :: _ :: _ :: _ :: _ :: _ :: _ :: _ :: _ :: []), defers := [] } _
  refine wpAnyH_take (i := 3) (v := .float .f64 q0) rfl (by kernel_rfl) (by kernel_rfl) (by kernel_rfl) (fun _ _ _ h => h) (Or.inl ⟨by kernel_rfl, fun w hS => by (obtain ⟨hS0, hS1, hS2, hS3, hS4, hS5, hS6, hS7⟩ := hS; go_simp)⟩) hHeld ?_
  change wpAnyH _ _ _ _ _ _ _ { tmps := List.toArray (_ :: _ :: _ :: .pointer (some ⟨ba, 0, none⟩) :: .pointer (some ⟨bb, 0, none⟩) :: .pointer (some ⟨b5, 0, none⟩) :: .pointer (some ⟨b6, 0, none⟩) :: _ :: _ :: _ :: _ :: _ :: _ :: _ :: _ :: _ :: _ :: _ :: _ :: _ :: _ :: _ :: _ :: _ :: _ :: _ :: _ :: _ :: _ :: _ :: _ :: _ :: _ :: _ :: _ :: _ :: _ :: _ :: _ :: _ :: _ :: _ :: .pointer (some ⟨b5, 0, none⟩) :: .float .f64 p0 :: .pointer (some ⟨b6, 0, none⟩) :: .float .f64 q0 :: _ :: _ :: _ :: _ :: _ :: _ :: _ :: _ :: _ :: _ :: _ :: _ :: _ :: _ :: _ :: _ :: _ :: _ :: _ :: _ :: _ :: _ :: _ :: _ :: _ :: _ :: _ :: _ :: _ :: _ :: _ :: _ :: _ :: _ :: _ :: _ :: _ :: _ :: _ :: _ :: _ :: _ :: _ :: _ :: _ :: _ :: _ :: _ :: _ :: _ :: _ :: _ :: _ :: _ :: _ :: _ :: _ :: _ :: _ :: _ :: _ :: _ :: _ :: _ :: _ :: _ :: _ :: _ :: _ :: _ :: _ :: _ :: _ :: _ :: _ :: _ :: _ :: _ :: _ :: _ :: _ :: _ :: _ :: _ :: _ :: _ :: _ :: _ :: _ :: _ :: _ :: _ :: _ :: _ :: _ :: []), defers := [] } _
  refine wpAnyH_take (i := 4) (v := .bool false) rfl (by kernel_rfl) (by kernel_rfl) (by kernel_rfl) (fun _ _ _ h => h) (Or.inl ⟨by kernel_rfl, fun w hS => by go_simp⟩) hHeld ?_
  change wpAnyH _ _ _ _ _ _ _ { tmps := List.toArray (_ :: _ :: _ :: .pointer (some ⟨ba, 0, none⟩) :: .pointer (some ⟨bb, 0, none⟩) :: .pointer (some ⟨b5, 0, none⟩) :: .pointer (some ⟨b6, 0, none⟩) :: _ :: _ :: _ :: _ :: _ :: _ :: _ :: _ :: _ :: _ :: _ :: _ :: _ :: _ :: _ :: _ :: _ :: _ :: _ :: _ :: _ :: _ :: _ :: _ :: _ :: _ :: _ :: _ :: _ :: _ :: _ :: _ :: _ :: _ :: _ :: .pointer (some ⟨b5, 0, none⟩) :: .float .f64 p0 :: .pointer (some ⟨b6, 0, none⟩) :: .float .f64 q0 :: .bool false :: _ :: _ :: _ :: _ :: _ :: _ :: _ :: _ :: _ :: _ :: _ :: _ :: _ :: _ :: _ :: _ :: _ :: _ :: _ :: _ :: _ :: _ :: _ :: _ :: _ :: _ :: _ :: _ :: _ :: _ :: _ :: _ :: _ :: _ :: _ :: _ :: _ :: _ :: _ :: _ :: _ :: _ :: _ :: _ :: _ :: _ :: _ :: _ :: _ :: _ :: _ :: _ :: _ :: _ :: _ :: _ :: _ :: _ :: _ :: _ :: _ :: _ :: _ :: _ :: _ :: _ :: _ :: _ :: _ :: _ :: _ :: _ :: _ :: _ :: _ :: _ :: _ :: _ :: _ :: _ :: _ :: _ :: _ :: _ :: _ :: _ :: _ :: _ :: _ :: _ :: _ :: _ :: _ :: _ :: []), defers := [] } _
  refine wpAnyH_take (i := 5) (v := .bool false) rfl (by kernel_rfl) (by kernel_rfl) (by kernel_rfl) (fun _ _ _ h => h) (Or.inl ⟨by kernel_rfl, fun w hS => by go_simp⟩) hHeld ?_
  change wpAnyH _ _ _ _ _ _ _ { tmps := List.toArray (_ :: _ :: _ :: .pointer (some ⟨ba, 0, none⟩) :: .pointer (some ⟨bb, 0, none⟩) :: .pointer (some ⟨b5, 0, none⟩) :: .pointer (some ⟨b6, 0, none⟩) :: _ :: _ :: _ :: _ :: _ :: _ :: _ :: _ :: _ :: _ :: _ :: _ :: _ :: _ :: _ :: _ :: _ :: _ :: _ :: _ :: _ :: _ :: _ :: _ :: _ :: _ :: _ :: _ :: _ :: _ :: _ :: _ :: _ :: _ :: _ :: .pointer (some ⟨b5, 0, none⟩) :: .float .f64 p0 :: .pointer (some ⟨b6, 0, none⟩) :: .float .f64 q0 :: .bool false :: .bool false :: _ :: _ :: _ :: _ :: _ :: _ :: _ :: _ :: _ :: _ :: _ :: _ :: _ :: _ :: _ :: _ :: _ :: _ :: _ :: _ :: _ :: _ :: _ :: _ :: _ :: _ :: _ :: _ :: _ :: _ :: _ :: _ :: _ :: _ :: _ :: _ :: _ :: _ :: _ :: _ :: _ :: _ :: _ :: _ :: _ :: _ :: _ :: _ :: _ :: _ :: _ :: _ :: _ :: _ :: _ :: _ :: _ :: _ :: _ :: _ :: _ :: _ :: _ :: _ :: _ :: _ :: _ :: _ :: _ :: _ :: _ :: _ :: _ :: _ :: _ :: _ :: _ :: _ :: _ :: _ :: _ :: _ :: _ :: _ :: _ :: _ :: _ :: _ :: _ :: _ :: _ :: _ :: _ :: []), defers := [] } _
  refine wpAnyH_take (i := 6) (v := .pointer (some ⟨b5, 1, none⟩)) rfl (by kernel_rfl) (by kernel_rfl) (by kernel_rfl) (fun _ _ _ h => h) (Or.inl ⟨by kernel_rfl, fun w hS => by go_simp⟩) hHeld ?_
  change wpAnyH _ _ _ _ _ _ _ { tmps := List.toArray (_ :: _ :: _ :: .pointer (some ⟨ba, 0, none⟩) :: .pointer (some ⟨bb, 0, none⟩) :: .pointer (some ⟨b5, 0, none⟩) :: .pointer (some ⟨b6, 0, none⟩) :: _ :: _ :: _ :: _ :: _ :: _ :: _ :: _ :: _ :: _ :: _ :: _ :: _ :: _ :: _ :: _ :: _ :: _ :: _ :: _ :: _ :: _ :: _ :: _ :: _ :: _ :: _ :: _ :: _ :: _ :: _ :: _ :: _ :: _ :: _ :: .pointer (some ⟨b5, 0, none⟩) :: .float .f64 p0 :: .pointer (some ⟨b6, 0, none⟩) :: .float .f64 q0 :: .bool false :: .bool false :: .pointer (some ⟨b5, 1, none⟩) :: _ :: _ :: _ :: _ :: _ :: _ :: _ :: _ :: _ :: _ :: _ :: _ :: _ :: _ :: _ :: _ :: _ :: _ :: _ :: _ :: _ :: _ :: _ :: _ :: _ :: _ :: _ :: _ :: _ :: _ :: _ :: _ :: _ :: _ :: _ :: _ :: _ :: _ :: _ :: _ :: _ :: _ :: _ :: _ :: _ :: _ :: _ :: _ :: _ :: _ :: _ :: _ :: _ :: _ :: _ :: _ :: _ :: _ :: _ :: _ :: _ :: _ :: _ :: _ :: _ :: _ :: _ :: _ :: _ :: _ :: _ :: _ :: _ :: _ :: _ :: _ :: _ :: _ :: _ :: _ :: _ :: _ :: _ :: _ :: _ :: _ :: _ :: _ :: _ :: _ :: _ :: _ :: []), defers := [] } _
  refine wpAnyH_take (i := 7) (v := .float .f64 p1) rfl (by kernel_rfl) (by kernel_rfl) (by kernel_rfl) (fun _ _ _ h => h) (Or.inl ⟨by kernel_rfl, fun w hS => by (obtain ⟨hS0, hS1, hS2, hS3, hS4, hS5, hS6, hS7⟩ := hS; go_simp)⟩) hHeld ?_
  change wpAnyH _ _ _ _ _ _ _ { tmps := List.toArray (_ :: _ :: _ :: .pointer (some ⟨ba, 0, none⟩) :: .pointer (some ⟨bb, 0, none⟩) :: .pointer (some ⟨b5, 0, none⟩) :: .pointer (some ⟨b6, 0, none⟩) :: _ :: _ :: _ :: _ :: _ :: _ :: _ :: _ :: _ :: _ :: _ :: _ :: _ :: _ :: _ :: _ :: _ :: _ :: _ :: _ :: _ :: _ :: _ :: _ :: _ :: _ :: _ :: _ :: _ :: _ :: _ :: _ :: _ :: _ :: _ :: .pointer (some ⟨b5, 0, none⟩) :: .float .f64 p0 :: .pointer (some ⟨b6, 0, none⟩) :: .float .f64 q0 :: .bool false :: .bool false :: .pointer (some ⟨b5, 1, none⟩) :: .float .f64 p1 :: _ :: _ :: _ :: _ :: _ :: _ :: _ :: _ :: _ :: _ :: _ :: _ :: _ :: _ :: _ :: _ :: _ :: _ :: _ :: _ :: _ :: _ :: _ :: _ :: _ :: _ :: _ :: _ :: _ :: _ :: _ :: _ :: _ :: _ :: _ :: _ :: _ :: _ :: _ :: _ :: _ :: _ :: _ :: _ :: _ :: _ :: _ :: _ :: _ :: _ :: _ :: _ :: _ :: _ :: _ :: _ :: _ :: _ :: _ :: _ :: _ :: _ :: _ :: _ :: _ :: _ :: _ :: _ :: _ :: _ :: _ :: _ :: _ :: _ :: _ :: _ :: _ :: _ :: _ :: _ :: _ :: _ :: _ :: _ :: _ :: _ :: _ :: _ :: _ :: _ :: _ :: []), defers := [] } _
  refine wpAnyH_take (i := 8) (v := .pointer (some ⟨b6, 1, none⟩)) rfl (by kernel_rfl) (by kernel_rfl) (by kernel_rfl) (fun _ _ _ h => h) (Or.inl ⟨by kernel_rfl, fun w hS => by go_simp⟩) hHeld ?_
  change wpAnyH _ _ _ _ _ _ _ { tmps := List.toArray (_ :: _ :: _ :: .pointer (some ⟨ba, 0, none⟩) :: .pointer (some ⟨bb, 0, none⟩) :: .pointer (some ⟨b5, 0, none⟩) :: .pointer (some ⟨b6, 0, none⟩) :: _ :: _ :: _ :: _ :: _ :: _ :: _ :: _ :: _ :: _ :: _ :: _ :: _ :: _ :: _ :: _ :: _ :: _ :: _ :: _ :: _ :: _ :: _ :: _ :: _ :: _ :: _ :: _ :: _ :: _ :: _ :: _ :: _ :: _ :: _ :: .pointer (some ⟨b5, 0, none⟩) :: .float .f64 p0 :: .pointer (some ⟨b6, 0, none⟩) :: .float .f64 q0 :: .bool false :: .bool false :: .pointer (some ⟨b5, 1, none⟩) :: .float .f64 p1 :: .pointer (some ⟨b6, 1, none⟩) :: _ :: _ :: _ :: _ :: _ :: _ :: _ :: _ :: _ :: _ :: _ :: _ :: _ :: _ :: _ :: _ :: _ :: _ :: _ :: _ :: _ :: _ :: _ :: _ :: _ :: _ :: _ :: _ :: _ :: _ :: _ :: _ :: _ :: _ :: _ :: _ :: _ :: _ :: _ :: _ :: _ :: _ :: _ :: _ :: _ :: _ :: _ :: _ :: _ :: _ :: _ :: _ :: _ :: _ :: _ :: _ :: _ :: _ :: _ :: _ :: _ :: _ :: _ :: _ :: _ :: _ :: _ :: _ :: _ :: _ :: _ :: _ :: _ :: _ :: _ :: _ :: _ :: _ :: _ :: _ :: _ :: _ :: _ :: _ :: _ :: _ :: _ :: _ :: _ :: _ :: []), defers := [] } _
  refine wpAnyH_take (i := 9) (v := .float .f64 q1) rfl (by kernel_rfl) (by kernel_rfl) (by kernel_rfl) (fun _ _ _ h => h) (Or.inl ⟨by kernel_rfl, fun w hS => by (obtain ⟨hS0, hS1, hS2, hS3, hS4, hS5, hS6, hS7⟩ := hS; go_simp)⟩) hHeld ?_
  change wpAnyH _ _ _ _ _ _ _ { tmps := List.toArray (_ :: _ :: _ :: .pointer (some ⟨ba, 0, none⟩) :: .pointer (some ⟨bb, 0, none⟩) :: .pointer (some ⟨b5, 0, none⟩) :: .pointer (some ⟨b6, 0, none⟩) :: _ :: _ :: _ :: _ :: _ :: _ :: _ :: _ :: _ :: _ :: _ :: _ :: _ :: _ :: _ :: _ :: _ :: _ :: _ :: _ :: _ :: _ :: _ :: _ :: _ :: _ :: _ :: _ :: _ :: _ :: _ :: _ :: _ :: _ :: _ :: .pointer (some ⟨b5, 0, none⟩) :: .float .f64 p0 :: .pointer (some ⟨b6, 0, none⟩) :: .float .f64 q0 :: .bool false :: .bool false :: .pointer (some ⟨b5, 1, none⟩) :: .float .f64 p1 :: .pointer (some ⟨b6, 1, none⟩) :: .float .f64 q1 :: _ :: _ :: _ :: _ :: _ :: _ :: _ :: _ :: _ :: _ :: _ :: _ :: _ :: _ :: _ :: _ :: _ :: _ :: _ :: _ :: _ :: _ :: _ :: _ :: _ :: _ :: _ :: _ :: _ :: _ :: _ :: _ :: _ :: _ :: _ :: _ :: _ :: _ :: _ :: _ :: _ :: _ :: _ :: _ :: _ :: _ :: _ :: _ :: _ :: _ :: _ :: _ :: _ :: _ :: _ :: _ :: _ :: _ :: _ :: _ :: _ :: _ :: _ :: _ :: _ :: _ :: _ :: _ :: _ :: _ :: _ :: _ :: _ :: _ :: _ :: _ :: _ :: _ :: _ :: _ :: _ :: _ :: _ :: _ :: _ :: _ :: _ :: _ :: _ :: []), defers := [] } _
  refine wpAnyH_take (i := 10) (v := .bool false) rfl (by kernel_rfl) (by kernel_rfl) (by kernel_rfl) (fun _ _ _ h => h) (Or.inl ⟨by kernel_rfl, fun w hS => by go_simp⟩) hHeld ?_
  change wpAnyH _ _ _ _ _ _ _ { tmps := List.toArray (_ :: _ :: _ :: .pointer (some ⟨ba, 0, none⟩) :: .pointer (some ⟨bb, 0, none⟩) :: .pointer (some ⟨b5, 0, none⟩) :: .pointer (some ⟨b6, 0, none⟩) :: _ :: _ :: _ :: _ :: _ :: _ :: _ :: _ :: _ :: _ :: _ :: _ :: _ :: _ :: _ :: _ :: _ :: _ :: _ :: _ :: _ :: _ :: _ :: _ :: _ :: _ :: _ :: _ :: _ :: _ :: _ :: _ :: _ :: _ :: _ :: .pointer (some ⟨b5, 0, none⟩) :: .float .f64 p0 :: .pointer (some ⟨b6, 0, none⟩) :: .float .f64 q0 :: .bool false :: .bool false :: .pointer (some ⟨b5, 1, none⟩) :: .float .f64 p1 :: .pointer (some ⟨b6, 1, none⟩) :: .float .f64 q1 :: .bool false :: _ :: _ :: _ :: _ :: _ :: _ :: _ :: _ :: _ :: _ :: _ :: _ :: _ :: _ :: _ :: _ :: _ :: _ :: _ :: _ :: _ :: _ :: _ :: _ :: _ :: _ :: _ :: _ :: _ :: _ :: _ :: _ :: _ :: _ :: _ :: _ :: _ :: _ :: _ :: _ :: _ :: _ :: _ :: _ :: _ :: _ :: _ :: _ :: _ :: _ :: _ :: _ :: _ :: _ :: _ :: _ :: _ :: _ :: _ :: _ :: _ :: _ :: _ :: _ :: _ :: _ :: _ :: _ :: _ :: _ :: _ :: _ :: _ :: _ :: _ :: _ :: _ :: _ :: _ :: _ :: _ :: _ :: _ :: _ :: _ :: _ :: _ :: _ :: []), defers := [] } _
  refine wpAnyH_take (i := 11) (v := .bool false) rfl (by kernel_rfl) (by kernel_rfl) (by kernel_rfl) (fun _ _ _ h => h) (Or.inl ⟨by kernel_rfl, fun w hS => by go_simp⟩) hHeld ?_
  change wpAnyH _ _ _ _ _ _ _ { tmps := List.toArray (_ :: _ :: _ :: .pointer (some ⟨ba, 0, none⟩) :: .pointer (some ⟨bb, 0, none⟩) :: .pointer (some ⟨b5, 0, none⟩) :: .pointer (some ⟨b6, 0, none⟩) :: _ :: _ :: _ :: _ :: _ :: _ :: _ :: _ :: _ :: _ :: _ :: _ :: _ :: _ :: _ :: _ :: _ :: _ :: _ :: _ :: _ :: _ :: _ :: _ :: _ :: _ :: _ :: _ :: _ :: _ :: _ :: _ :: _ :: _ :: _ :: .pointer (some ⟨b5, 0, none⟩) :: .float .f64 p0 :: .pointer (some ⟨b6, 0, none⟩) :: .float .f64 q0 :: .bool false :: .bool false :: .pointer (some ⟨b5, 1, none⟩) :: .float .f64 p1 :: .pointer (some ⟨b6, 1, none⟩) :: .float .f64 q1 :: .bool false :: .bool false :: _ :: _ :: _ :: _ :: _ :: _ :: _ :: _ :: _ :: _ :: _ :: _ :: _ :: _ :: _ :: _ :: _ :: _ :: _ :: _ :: _ :: _ :: _ :: _ :: _ :: _ :: _ :: _ :: _ :: _ :: _ :: _ :: _ :: _ :: _ :: _ :: _ :: _ :: _ :: _ :: _ :: _ :: _ :: _ :: _ :: _ :: _ :: _ :: _ :: _ :: _ :: _ :: _ :: _ :: _ :: _ :: _ :: _ :: _ :: _ :: _ :: _ :: _ :: _ :: _ :: _ :: _ :: _ :: _ :: _ :: _ :: _ :: _ :: _ :: _ :: _ :: _ :: _ :: _ :: _ :: _ :: _ :: _ :: _ :: _ :: _ :: _ :: []), defers := [] } _
  refine wpAnyH_take (i := 12) (v := .bool false) rfl (by kernel_rfl) (by kernel_rfl) (by kernel_rfl) (fun _ _ _ h => h) (Or.inl ⟨by kernel_rfl, fun w hS => by go_simp⟩) hHeld ?_
  change wpAnyH _ _ _ _ _ _ _ { tmps := List.toArray (_ :: _ :: _ :: .pointer (some ⟨ba, 0, none⟩) :: .pointer (some ⟨bb, 0, none⟩) :: .pointer (some ⟨b5, 0, none⟩) :: .pointer (some ⟨b6, 0, none⟩) :: _ :: _ :: _ :: _ :: _ :: _ :: _ :: _ :: _ :: _ :: _ :: _ :: _ :: _ :: _ :: _ :: _ :: _ :: _ :: _ :: _ :: _ :: _ :: _ :: _ :: _ :: _ :: _ :: _ :: _ :: _ :: _ :: _ :: _ :: _ :: .pointer (some ⟨b5, 0, none⟩) :: .float .f64 p0 :: .pointer (some ⟨b6, 0, none⟩) :: .float .f64 q0 :: .bool false :: .bool false :: .pointer (some ⟨b5, 1, none⟩) :: .float .f64 p1 :: .pointer (some ⟨b6, 1, none⟩) :: .float .f64 q1 :: .bool false :: .bool false :: .bool false :: _ :: _ :: _ :: _ :: _ :: _ :: _ :: _ :: _ :: _ :: _ :: _ :: _ :: _ :: _ :: _ :: _ :: _ :: _ :: _ :: _ :: _ :: _ :: _ :: _ :: _ :: _ :: _ :: _ :: _ :: _ :: _ :: _ :: _ :: _ :: _ :: _ :: _ :: _ :: _ :: _ :: _ :: _ :: _ :: _ :: _ :: _ :: _ :: _ :: _ :: _ :: _ :: _ :: _ :: _ :: _ :: _ :: _ :: _ :: _ :: _ :: _ :: _ :: _ :: _ :: _ :: _ :: _ :: _ :: _ :: _ :: _ :: _ :: _ :: _ :: _ :: _ :: _ :: _ :: _ :: _ :: _ :: _ :: _ :: _ :: _ :: []), defers := [] } _
  refine wpAnyH_take (i := 13) (v := .agg #[.float .f64 p0, .float .f64 p1]) rfl (by kernel_rfl) (by kernel_rfl) (by kernel_rfl) (fun _ _ _ h => h) (Or.inl ⟨by kernel_rfl, fun w hS => by (obtain ⟨hS0, hS1, hS2, hS3, hS4, hS5, hS6, hS7⟩ := hS; go_simp)⟩) hHeld ?_
  change wpAnyH _ _ _ _ _ _ _ { tmps := List.toArray (_ :: _ :: _ :: .pointer (some ⟨ba, 0, none⟩) :: .pointer (some ⟨bb, 0, none⟩) :: .pointer (some ⟨b5, 0, none⟩) :: .pointer (some ⟨b6, 0, none⟩) :: _ :: _ :: _ :: _ :: _ :: _ :: _ :: _ :: _ :: _ :: _ :: _ :: _ :: _ :: _ :: _ :: _ :: _ :: _ :: _ :: _ :: _ :: _ :: _ :: _ :: _ :: _ :: _ :: _ :: _ :: _ :: _ :: _ :: _ :: _ :: .pointer (some ⟨b5, 0, none⟩) :: .float .f64 p0 :: .pointer (some ⟨b6, 0, none⟩) :: .float .f64 q0 :: .bool false :: .bool false :: .pointer (some ⟨b5, 1, none⟩) :: .float .f64 p1 :: .pointer (some ⟨b6, 1, none⟩) :: .float .f64 q1 :: .bool false :: .bool false :: .bool false :: .agg #[.float .f64 p0, .float .f64 p1] :: _ :: _ :: _ :: _ :: _ :: _ :: _ :: _ :: _ :: _ :: _ :: _ :: _ :: _ :: _ :: _ :: _ :: _ :: _ :: _ :: _ :: _ :: _ :: _ :: _ :: _ :: _ :: _ :: _ :: _ :: _ :: _ :: _ :: _ :: _ :: _ :: _ :: _ :: _ :: _ :: _ :: _ :: _ :: _ :: _ :: _ :: _ :: _ :: _ :: _ :: _ :: _ :: _ :: _ :: _ :: _ :: _ :: _ :: _ :: _ :: _ :: _ :: _ :: _ :: _ :: _ :: _ :: _ :: _ :: _ :: _ :: _ :: _ :: _ :: _ :: _ :: _ :: _ :: _ :: _ :: _ :: _ :: _ :: _ :: _ :: []), defers := [] } _
  refine wpAnyH_take (i := 15) (v := .agg #[.float .f64 a0, .float .f64 a1]) rfl (by kernel_rfl) (by kernel_rfl) (by kernel_rfl) (fun _ _ _ h => h) (Or.inl ⟨by kernel_rfl, fun w hS => by (obtain ⟨hS0, hS1, hS2, hS3, hS4, hS5, hS6, hS7⟩ := hS; go_simp)⟩) hHeld ?_
  change wpAnyH _ _ _ _ _ _ _ { tmps := List.toArray (_ :: _ :: _ :: .pointer (some ⟨ba, 0, none⟩) :: .pointer (some ⟨bb, 0, none⟩) :: .pointer (some ⟨b5, 0, none⟩) :: .pointer (some ⟨b6, 0, none⟩) :: _ :: _ :: _ :: _ :: _ :: _ :: _ :: _ :: _ :: _ :: _ :: _ :: _ :: _ :: _ :: _ :: _ :: _ :: _ :: _ :: _ :: _ :: _ :: _ :: _ :: _ :: _ :: _ :: _ :: _ :: _ :: _ :: _ :: _ :: _ :: .pointer (some ⟨b5, 0, none⟩) :: .float .f64 p0 :: .pointer (some ⟨b6, 0, none⟩) :: .float .f64 q0 :: .bool false :: .bool false :: .pointer (some ⟨b5, 1, none⟩) :: .float .f64 p1 :: .pointer (some ⟨b6, 1, none⟩) :: .float .f64 q1 :: .bool false :: .bool false :: .bool false :: .agg #[.float .f64 p0, .float .f64 p1] :: _ :: .agg #[.float .f64 a0, .float .f64 a1] :: _ :: _ :: _ :: _ :: _ :: _ :: _ :: _ :: _ :: _ :: _ :: _ :: _ :: _ :: _ :: _ :: _ :: _ :: _ :: _ :: _ :: _ :: _ :: _ :: _ :: _ :: _ :: _ :: _ :: _ :: _ :: _ :: _ :: _ :: _ :: _ :: _ :: _ :: _ :: _ :: _ :: _ :: _ :: _ :: _ :: _ :: _ :: _ :: _ :: _ :: _ :: _ :: _ :: _ :: _ :: _ :: _ :: _ :: _ :: _ :: _ :: _ :: _ :: _ :: _ :: _ :: _ :: _ :: _ :: _ :: _ :: _ :: _ :: _ :: _ :: _ :: _ :: _ :: _ :: _ :: _ :: _ :: _ :: []), defers := [] } _
  refine wpAnyH_take (i := 17) (v := .agg #[.float .f64 b0, .float .f64 b1]) rfl (by kernel_rfl) (by kernel_rfl) (by kernel_rfl) (fun _ _ _ h => h) (Or.inl ⟨by kernel_rfl, fun w hS => by (obtain ⟨hS0, hS1, hS2, hS3, hS4, hS5, hS6, hS7⟩ := hS; go_simp)⟩) hHeld ?_
  change wpAnyH _ _ _ _ _ _ _ { tmps := List.toArray (_ :: _ :: _ :: .pointer (some ⟨ba, 0, none⟩) :: .pointer (some ⟨bb, 0, none⟩) :: .pointer (some ⟨b5, 0, none⟩) :: .pointer (some ⟨b6, 0, none⟩) :: _ :: _ :: _ :: _ :: _ :: _ :: _ :: _ :: _ :: _ :: _ :: _ :: _ :: _ :: _ :: _ :: _ :: _ :: _ :: _ :: _ :: _ :: _ :: _ :: _ :: _ :: _ :: _ :: _ :: _ :: _ :: _ :: _ :: _ :: _ :: .pointer (some ⟨b5, 0, none⟩) :: .float .f64 p0 :: .pointer (some ⟨b6, 0, none⟩) :: .float .f64 q0 :: .bool false :: .bool false :: .pointer (some ⟨b5, 1, none⟩) :: .float .f64 p1 :: .pointer (some ⟨b6, 1, none⟩) :: .float .f64 q1 :: .bool false :: .bool false :: .bool false :: .agg #[.float .f64 p0, .float .f64 p1] :: _ :: .agg #[.float .f64 a0, .float .f64 a1] :: _ :: .agg #[.float .f64 b0, .float .f64 b1] :: _ :: _ :: _ :: _ :: _ :: _ :: _ :: _ :: _ :: _ :: _ :: _ :: _ :: _ :: _ :: _ :: _ :: _ :: _ :: _ :: _ :: _ :: _ :: _ :: _ :: _ :: _ :: _ :: _ :: _ :: _ :: _ :: _ :: _ :: _ :: _ :: _ :: _ :: _ :: _ :: _ :: _ :: _ :: _ :: _ :: _ :: _ :: _ :: _ :: _ :: _ :: _ :: _ :: _ :: _ :: _ :: _ :: _ :: _ :: _ :: _ :: _ :: _ :: _ :: _ :: _ :: _ :: _ :: _ :: _ :: _ :: _ :: _ :: _ :: _ :: _ :: _ :: _ :: _ :: _ :: _ :: []), defers := [] } _
  refine wpAnyH_ready (rs := [14]) (by kernel_rfl) (by simp) ?_
  refine (AllReadyH.cons rfl (fun KK hK => ?_) AllReadyH.nil)
  go_simp
  refine (cZs2 p0 p1 _).mono ?_
  rintro e x1 ⟨s1, rfl, h1, hb⟩
  have E1 := btrans B0d hb
  clear hb
  go_wp2_with fail
  clear hHeld
  refine hK.out _ _ (⟨ble E1 c0, ble E1 c1, ble E1 c2, ble E1 c3, ble E1 c4, ble E1 c5, ble E1 c6, ble E1 c7⟩) (fun hHeld => ?_)
  clear hK KK
  change wpAnyH _ _ _ _ _ _ _ { tmps := List.toArray (_ :: _ :: _ :: .pointer (some ⟨ba, 0, none⟩) :: .pointer (some ⟨bb, 0, none⟩) :: .pointer (some ⟨b5, 0, none⟩) :: .pointer (some ⟨b6, 0, none⟩) :: _ :: _ :: _ :: _ :: _ :: _ :: _ :: _ :: _ :: _ :: _ :: _ :: _ :: _ :: _ :: _ :: _ :: _ :: _ :: _ :: _ :: _ :: _ :: _ :: _ :: _ :: _ :: _ :: _ :: _ :: _ :: _ :: _ :: _ :: _ :: .pointer (some ⟨b5, 0, none⟩) :: .float .f64 p0 :: .pointer (some ⟨b6, 0, none⟩) :: .float .f64 q0 :: .bool false :: .bool false :: .pointer (some ⟨b5, 1, none⟩) :: .float .f64 p1 :: .pointer (some ⟨b6, 1, none⟩) :: .float .f64 q1 :: .bool false :: .bool false :: .bool false :: .agg #[.float .f64 p0, .float .f64 p1] :: .float .f64 s1 :: .agg #[.float .f64 a0, .float .f64 a1] :: _ :: .agg #[.float .f64 b0, .float .f64 b1] :: _ :: _ :: _ :: _ :: _ :: _ :: _ :: _ :: _ :: _ :: _ :: _ :: _ :: _ :: _ :: _ :: _ :: _ :: _ :: _ :: _ :: _ :: _ :: _ :: _ :: _ :: _ :: _ :: _ :: _ :: _ :: _ :: _ :: _ :: _ :: _ :: _ :: _ :: _ :: _ :: _ :: _ :: _ :: _ :: _ :: _ :: _ :: _ :: _ :: _ :: _ :: _ :: _ :: _ :: _ :: _ :: _ :: _ :: _ :: _ :: _ :: _ :: _ :: _ :: _ :: _ :: _ :: _ :: _ :: _ :: _ :: _ :: _ :: _ :: _ :: _ :: _ :: _ :: _ :: _ :: _ :: []), defers := [] } _
  refine wpAnyH_ready (rs := [16]) (by kernel_rfl) (by simp) ?_
  refine (AllReadyH.cons rfl (fun KK hK => ?_) AllReadyH.nil)
  go_simp
  refine (cZs2 a0 a1 _).mono ?_
  rintro e x2 ⟨s2, rfl, h2, hb⟩
  have E2 := btrans E1 hb
  clear hb
  go_wp2_with fail
  clear hHeld
  refine hK.out _ _ (⟨ble E2 c0, ble E2 c1, ble E2 c2, ble E2 c3, ble E2 c4, ble E2 c5, ble E2 c6, ble E2 c7⟩) (fun hHeld => ?_)
  clear hK KK
  change wpAnyH _ _ _ _ _ _ _ { tmps := List.toArray (_ :: _ :: _ :: .pointer (some ⟨ba, 0, none⟩) :: .pointer (some ⟨bb, 0, none⟩) :: .pointer (some ⟨b5, 0, none⟩) :: .pointer (some ⟨b6, 0, none⟩) :: _ :: _ :: _ :: _ :: _ :: _ :: _ :: _ :: _ :: _ :: _ :: _ :: _ :: _ :: _ :: _ :: _ :: _ :: _ :: _ :: _ :: _ :: _ :: _ :: _ :: _ :: _ :: _ :: _ :: _ :: _ :: _ :: _ :: _ :: _ :: .pointer (some ⟨b5, 0, none⟩) :: .float .f64 p0 :: .pointer (some ⟨b6, 0, none⟩) :: .float .f64 q0 :: .bool false :: .bool false :: .pointer (some ⟨b5, 1, none⟩) :: .float .f64 p1 :: .pointer (some ⟨b6, 1, none⟩) :: .float .f64 q1 :: .bool false :: .bool false :: .bool false :: .agg #[.float .f64 p0, .float .f64 p1] :: .float .f64 s1 :: .agg #[.float .f64 a0, .float .f64 a1] :: .float .f64 s2 :: .agg #[.float .f64 b0, .float .f64 b1] :: _ :: _ :: _ :: _ :: _ :: _ :: _ :: _ :: _ :: _ :: _ :: _ :: _ :: _ :: _ :: _ :: _ :: _ :: _ :: _ :: _ :: _ :: _ :: _ :: _ :: _ :: _ :: _ :: _ :: _ :: _ :: _ :: _ :: _ :: _ :: _ :: _ :: _ :: _ :: _ :: _ :: _ :: _ :: _ :: _ :: _ :: _ :: _ :: _ :: _ :: _ :: _ :: _ :: _ :: _ :: _ :: _ :: _ :: _ :: _ :: _ :: _ :: _ :: _ :: _ :: _ :: _ :: _ :: _ :: _ :: _ :: _ :: _ :: _ :: _ :: _ :: _ :: _ :: _ :: _ :: _ :: []), defers := [] } _
  refine wpAnyH_ready (rs := [18]) (by kernel_rfl) (by simp) ?_
  refine (AllReadyH.cons rfl (fun KK hK => ?_) AllReadyH.nil)
  go_simp
  refine (cZs2 b0 b1 _).mono ?_
  rintro e x3 ⟨s3, rfl, h3, hb⟩
  have E3 := btrans E2 hb
  clear hb
  have d2 := HSA.out
  have d3 := HSB.out
  rw [← h2] at d2
  rw [← h3] at d3
  obtain ⟨r, hr1, hr2⟩ := d2.of.mul d3.of (by decide) HSN.out
  have hr3 := fopD hr1
  have d1 := HSP.out
  rw [← h1] at d1
  have o3 : FloatKind.f64.format.order s1 r = some .eq := eq_of d1 hr2.cl
  clear d1 d2 d3 hr1 hr2
  go_wp2_with fail
  clear hHeld
  refine hK.out _ _ (⟨ble E3 c0, ble E3 c1, ble E3 c2, ble E3 c3, ble E3 c4, ble E3 c5, ble E3 c6, ble E3 c7⟩) (fun hHeld => ?_)
  clear hK KK
  change wpAnyH _ _ _ _ _ _ _ { tmps := List.toArray (_ :: _ :: _ :: .pointer (some ⟨ba, 0, none⟩) :: .pointer (some ⟨bb, 0, none⟩) :: .pointer (some ⟨b5, 0, none⟩) :: .pointer (some ⟨b6, 0, none⟩) :: _ :: _ :: _ :: _ :: _ :: _ :: _ :: _ :: _ :: _ :: _ :: _ :: _ :: _ :: _ :: _ :: _ :: _ :: _ :: _ :: _ :: _ :: _ :: _ :: _ :: _ :: _ :: _ :: _ :: _ :: _ :: _ :: _ :: _ :: _ :: .pointer (some ⟨b5, 0, none⟩) :: .float .f64 p0 :: .pointer (some ⟨b6, 0, none⟩) :: .float .f64 q0 :: .bool false :: .bool false :: .pointer (some ⟨b5, 1, none⟩) :: .float .f64 p1 :: .pointer (some ⟨b6, 1, none⟩) :: .float .f64 q1 :: .bool false :: .bool false :: .bool false :: .agg #[.float .f64 p0, .float .f64 p1] :: .float .f64 s1 :: .agg #[.float .f64 a0, .float .f64 a1] :: .float .f64 s2 :: .agg #[.float .f64 b0, .float .f64 b1] :: .float .f64 s3 :: _ :: _ :: _ :: _ :: _ :: _ :: _ :: _ :: _ :: _ :: _ :: _ :: _ :: _ :: _ :: _ :: _ :: _ :: _ :: _ :: _ :: _ :: _ :: _ :: _ :: _ :: _ :: _ :: _ :: _ :: _ :: _ :: _ :: _ :: _ :: _ :: _ :: _ :: _ :: _ :: _ :: _ :: _ :: _ :: _ :: _ :: _ :: _ :: _ :: _ :: _ :: _ :: _ :: _ :: _ :: _ :: _ :: _ :: _ :: _ :: _ :: _ :: _ :: _ :: _ :: _ :: _ :: _ :: _ :: _ :: _ :: _ :: _ :: _ :: _ :: _ :: _ :: _ :: _ :: _ :: []), defers := [] } _
  refine wpAnyH_take (i := 19) (v := .float .f64 r) rfl (by kernel_rfl) (by kernel_rfl) (by kernel_rfl) (fun _ _ _ h => h) (Or.inl ⟨by kernel_rfl, fun w hS => by go_simp⟩) hHeld ?_
  change wpAnyH _ _ _ _ _ _ _ { tmps := List.toArray (_ :: _ :: _ :: .pointer (some ⟨ba, 0, none⟩) :: .pointer (some ⟨bb, 0, none⟩) :: .pointer (some ⟨b5, 0, none⟩) :: .pointer (some ⟨b6, 0, none⟩) :: _ :: _ :: _ :: _ :: _ :: _ :: _ :: _ :: _ :: _ :: _ :: _ :: _ :: _ :: _ :: _ :: _ :: _ :: _ :: _ :: _ :: _ :: _ :: _ :: _ :: _ :: _ :: _ :: _ :: _ :: _ :: _ :: _ :: _ :: _ :: .pointer (some ⟨b5, 0, none⟩) :: .float .f64 p0 :: .pointer (some ⟨b6, 0, none⟩) :: .float .f64 q0 :: .bool false :: .bool false :: .pointer (some ⟨b5, 1, none⟩) :: .float .f64 p1 :: .pointer (some ⟨b6, 1, none⟩) :: .float .f64 q1 :: .bool false :: .bool false :: .bool false :: .agg #[.float .f64 p0, .float .f64 p1] :: .float .f64 s1 :: .agg #[.float .f64 a0, .float .f64 a1] :: .float .f64 s2 :: .agg #[.float .f64 b0, .float .f64 b1] :: .float .f64 s3 :: .float .f64 r :: _ :: _ :: _ :: _ :: _ :: _ :: _ :: _ :: _ :: _ :: _ :: _ :: _ :: _ :: _ :: _ :: _ :: _ :: _ :: _ :: _ :: _ :: _ :: _ :: _ :: _ :: _ :: _ :: _ :: _ :: _ :: _ :: _ :: _ :: _ :: _ :: _ :: _ :: _ :: _ :: _ :: _ :: _ :: _ :: _ :: _ :: _ :: _ :: _ :: _ :: _ :: _ :: _ :: _ :: _ :: _ :: _ :: _ :: _ :: _ :: _ :: _ :: _ :: _ :: _ :: _ :: _ :: _ :: _ :: _ :: _ :: _ :: _ :: _ :: _ :: _ :: _ :: _ :: _ :: []), defers := [] } _
  refine wpAnyH_take (i := 20) (v := .bool false) rfl (by kernel_rfl) (by kernel_rfl) (by kernel_rfl) (fun _ _ _ h => h) (Or.inl ⟨by kernel_rfl, fun w hS => by go_simp⟩) hHeld ?_
  change wpAnyH _ _ _ _ _ _ _ { tmps := List.toArray (_ :: _ :: _ :: .pointer (some ⟨ba, 0, none⟩) :: .pointer (some ⟨bb, 0, none⟩) :: .pointer (some ⟨b5, 0, none⟩) :: .pointer (some ⟨b6, 0, none⟩) :: _ :: _ :: _ :: _ :: _ :: _ :: _ :: _ :: _ :: _ :: _ :: _ :: _ :: _ :: _ :: _ :: _ :: _ :: _ :: _ :: _ :: _ :: _ :: _ :: _ :: _ :: _ :: _ :: _ :: _ :: _ :: _ :: _ :: _ :: _ :: .pointer (some ⟨b5, 0, none⟩) :: .float .f64 p0 :: .pointer (some ⟨b6, 0, none⟩) :: .float .f64 q0 :: .bool false :: .bool false :: .pointer (some ⟨b5, 1, none⟩) :: .float .f64 p1 :: .pointer (some ⟨b6, 1, none⟩) :: .float .f64 q1 :: .bool false :: .bool false :: .bool false :: .agg #[.float .f64 p0, .float .f64 p1] :: .float .f64 s1 :: .agg #[.float .f64 a0, .float .f64 a1] :: .float .f64 s2 :: .agg #[.float .f64 b0, .float .f64 b1] :: .float .f64 s3 :: .float .f64 r :: .bool false :: _ :: _ :: _ :: _ :: _ :: _ :: _ :: _ :: _ :: _ :: _ :: _ :: _ :: _ :: _ :: _ :: _ :: _ :: _ :: _ :: _ :: _ :: _ :: _ :: _ :: _ :: _ :: _ :: _ :: _ :: _ :: _ :: _ :: _ :: _ :: _ :: _ :: _ :: _ :: _ :: _ :: _ :: _ :: _ :: _ :: _ :: _ :: _ :: _ :: _ :: _ :: _ :: _ :: _ :: _ :: _ :: _ :: _ :: _ :: _ :: _ :: _ :: _ :: _ :: _ :: _ :: _ :: _ :: _ :: _ :: _ :: _ :: _ :: _ :: _ :: _ :: _ :: _ :: []), defers := [] } _
  refine wpAnyH_take (i := 21) (v := .bool false) rfl (by kernel_rfl) (by kernel_rfl) (by kernel_rfl) (fun _ _ _ h => h) (Or.inl ⟨by kernel_rfl, fun w hS => by go_simp⟩) hHeld ?_
  change wpAnyH _ _ _ _ _ _ _ { tmps := List.toArray (_ :: _ :: _ :: .pointer (some ⟨ba, 0, none⟩) :: .pointer (some ⟨bb, 0, none⟩) :: .pointer (some ⟨b5, 0, none⟩) :: .pointer (some ⟨b6, 0, none⟩) :: _ :: _ :: _ :: _ :: _ :: _ :: _ :: _ :: _ :: _ :: _ :: _ :: _ :: _ :: _ :: _ :: _ :: _ :: _ :: _ :: _ :: _ :: _ :: _ :: _ :: _ :: _ :: _ :: _ :: _ :: _ :: _ :: _ :: _ :: _ :: .pointer (some ⟨b5, 0, none⟩) :: .float .f64 p0 :: .pointer (some ⟨b6, 0, none⟩) :: .float .f64 q0 :: .bool false :: .bool false :: .pointer (some ⟨b5, 1, none⟩) :: .float .f64 p1 :: .pointer (some ⟨b6, 1, none⟩) :: .float .f64 q1 :: .bool false :: .bool false :: .bool false :: .agg #[.float .f64 p0, .float .f64 p1] :: .float .f64 s1 :: .agg #[.float .f64 a0, .float .f64 a1] :: .float .f64 s2 :: .agg #[.float .f64 b0, .float .f64 b1] :: .float .f64 s3 :: .float .f64 r :: .bool false :: .bool false :: _ :: _ :: _ :: _ :: _ :: _ :: _ :: _ :: _ :: _ :: _ :: _ :: _ :: _ :: _ :: _ :: _ :: _ :: _ :: _ :: _ :: _ :: _ :: _ :: _ :: _ :: _ :: _ :: _ :: _ :: _ :: _ :: _ :: _ :: _ :: _ :: _ :: _ :: _ :: _ :: _ :: _ :: _ :: _ :: _ :: _ :: _ :: _ :: _ :: _ :: _ :: _ :: _ :: _ :: _ :: _ :: _ :: _ :: _ :: _ :: _ :: _ :: _ :: _ :: _ :: _ :: _ :: _ :: _ :: _ :: _ :: _ :: _ :: _ :: _ :: _ :: _ :: []), defers := [] } _
  refine wpAnyH_done (by kernel_rfl) ?_ _
  have HB4 := btrans HB3 E3
  replace KA := keepB E3 KA
  replace KB := keepB E3 KB
  clear E1 E2 E3 B0d HB3 K5 K6 c0 c1 c2 c3 c4 c5 c6 c7 o1 o2 o3 hr3 h1 h2 h3 HSP HSA HSB HSN
  obtain ⟨⟨c4, c5⟩, -⟩ := twoC KA
  obtain ⟨⟨c6, c7⟩, -⟩ := twoC KB
  go_wp2_with fail
  refine (cZAddI2 a0 a1 b0 b1 _).mono ?_
  rintro e w4 ⟨g0, g1, rfl, hS, hb⟩
  replace HB4 := btrans (btrans HB4 hb) (balloc w4 (.cells #[.float .f64 g0, .float .f64 g1] 26))
  replace KA := keepB (balloc w4 (.cells #[.float .f64 g0, .float .f64 g1] 26)) (keepB hb KA)
  replace KB := keepB (balloc w4 (.cells #[.float .f64 g0, .float .f64 g1] 26)) (keepB hb KB)
  have K7 := one_block w4 (.cells #[.float .f64 g0, .float .f64 g1] 26)
  clear hb c4 c5 c6 c7
  obtain ⟨⟨c4, c5⟩, -⟩ := twoC KA
  obtain ⟨⟨c6, c7⟩, -⟩ := twoC KB
  go_wp2_with fail
  generalize w4.heap.size = b7 at K7 ⊢
  generalize w4.alloc (.cells #[.float .f64 g0, .float .f64 g1] 26) = w5 at *
  refine (cZAddI2 b0 b1 a0 a1 _).mono ?_
  rintro e w6 ⟨r0, r1, rfl, hR, hb⟩
  have hb2 := balloc w6 (.cells #[.float .f64 r0, .float .f64 r1] 26)
  replace HB4 := btrans (btrans HB4 hb) hb2
  replace KA := keepB hb2 (keepB hb KA)
  replace KB := keepB hb2 (keepB hb KB)
  replace K7 := keepB hb2 (keepB hb K7)
  have K8 := one_block w6 (.cells #[.float .f64 r0, .float .f64 r1] 26)
  clear hb hb2 c4 c5 c6 c7
  have C4 := fun w1 h => CA.out 4 (by omega) w1 h
  have R4 := RA.out 4
  generalize atZ bs 4 = z4 at *
  obtain ⟨t, ht, ht8⟩ : ∃ t : Nat, z4.tmod 8 = (t : Int) ∧ t < 8 := ⟨(z4 % 8).toNat, by rw [Int.tmod_eq_emod_of_nonneg R4.1]; omega, by omega⟩
  clear R4
  go_wp2_with fail
  generalize w6.heap.size = b8 at K8 ⊢
  generalize w6.alloc (.cells #[.float .f64 r0, .float .f64 r1] 26) = w7 at *
  refine (C4 _ HB4).mono ?_
  rintro e w8 ⟨rfl, hw⟩
  subst w8
  clear C4
  go_wp2_with fail
  have hT := wT t ht8
  have hT2 : (2 ^ t : Nat) ≤ 128 := by
    have h9 : 2 ^ t ≤ 2 ^ 7 := Nat.pow_le_pow_right (by decide) (by omega)
    omega
  have hTd : Dq 0 ((2 ^ t : Nat) : Int) (floatOfInt .f64 (wrap64 ((2 : Int) ^ t))) := by
    rw [hT]
    have : (0 : Int) ≤ ((2 ^ t : Nat) : Int) := Int.natCast_nonneg _
    exact Dq.conv ⟨by omega, by omega⟩
  generalize floatOfInt .f64 (wrap64 ((2 : Int) ^ t)) = tw at *
  have hb2 := balloc w7 (.cells #[.float .f64 tw, .float .f64 0] 26)
  have K9 := one_block w7 (.cells #[.float .f64 tw, .float .f64 0] 26)
  replace HB4 := btrans HB4 hb2
  replace KA := keepB hb2 KA
  replace KB := keepB hb2 KB
  replace K7 := keepB hb2 K7
  replace K8 := keepB hb2 K8
  clear hT ht hb2
  generalize wrap64 ((2 : Int) ^ t) = wt at *
  generalize w7.heap.size = b9 at K9 ⊢
  generalize w7.alloc (.cells #[.float .f64 tw, .float .f64 0] 26) = w8 at *
  obtain ⟨⟨c0, c1⟩, -⟩ := twoC KA
  obtain ⟨⟨c2, c3⟩, -⟩ := twoC K9
  go_cut [10] from 77 (fun pv wc => GotZ w8 (zdiv (zmul (ZV.c ⟨a0, a1⟩) (ZV.c ⟨tw, 0⟩)) (ZV.c ⟨tw, 0⟩)) pv wc)
  case first => as_aux_lemma =>
    refine wp_region_held_drew (S := (fun w' => w'.cell? ⟨ba, 0, none⟩ = some (.float .f64 a0) ∧ w'.cell? ⟨ba, 1, none⟩ = some (.float .f64 a1) ∧ w'.cell? ⟨b9, 0, none⟩ = some (.float .f64 tw) ∧ w'.cell? ⟨b9, 1, none⟩ = some (.float .f64 0))) (by kernel_rfl) ?_ (fun hHeld => ?_)
    · go_keep
    have B0d : Below w8.heap.size w8 w8.drew := (Below.refl _ _).drew
    generalize w8.drew = wd at *
    refine wpAnyH_take (i := 0) (v := .agg #[.float .f64 a0, .float .f64 a1]) rfl (by kernel_rfl) (by kernel_rfl) (by kernel_rfl) (fun _ _ _ h => h) (Or.inl ⟨by kernel_rfl, fun w hS => by (obtain ⟨hS0, hS1, hS2, hS3⟩ := hS; go_simp)⟩) hHeld ?_
    change wpAnyH _ _ _ _ _ _ _ { tmps := List.toArray (_ :: _ :: _ :: .pointer (some ⟨ba, 0, none⟩) :: _ :: _ :: _ :: _ :: _ :: .pointer (some ⟨b9, 0, none⟩) :: _ :: _ :: _ :: _ :: _ :: _ :: _ :: _ :: _ :: _ :: _ :: _ :: _ :: _ :: _ :: _ :: _ :: _ :: _ :: _ :: _ :: _ :: _ :: _ :: _ :: _ :: _ :: _ :: _ :: _ :: _ :: _ :: _ :: _ :: _ :: _ :: _ :: _ :: _ :: _ :: _ :: _ :: _ :: _ :: _ :: _ :: _ :: _ :: _ :: _ :: _ :: _ :: _ :: _ :: _ :: _ :: _ :: _ :: _ :: _ :: _ :: _ :: _ :: _ :: _ :: _ :: _ :: .agg #[.float .f64 a0, .float .f64 a1] :: _ :: _ :: _ :: _ :: _ :: _ :: _ :: _ :: _ :: _ :: _ :: _ :: _ :: _ :: _ :: _ :: _ :: _ :: _ :: _ :: _ :: _ :: _ :: _ :: _ :: _ :: _ :: _ :: _ :: _ :: _ :: _ :: _ :: _ :: _ :: _ :: _ :: _ :: _ :: _ :: _ :: _ :: _ :: _ :: _ :: _ :: _ :: _ :: _ :: _ :: _ :: _ :: _ :: _ :: _ :: _ :: _ :: _ :: _ :: _ :: _ :: _ :: _ :: []), defers := [] } _
    refine wpAnyH_take (i := 1) (v := .agg #[.float .f64 tw, .float .f64 0]) rfl (by kernel_rfl) (by kernel_rfl) (by kernel_rfl) (fun _ _ _ h => h) (Or.inl ⟨by kernel_rfl, fun w hS => by (obtain ⟨hS0, hS1, hS2, hS3⟩ := hS; go_simp)⟩) hHeld ?_
    change wpAnyH _ _ _ _ _ _ _ { tmps := List.toArray (_ :: _ :: _ :: .pointer (some ⟨ba, 0, none⟩) :: _ :: _ :: _ :: _ :: _ :: .pointer (some ⟨b9, 0, none⟩) :: _ :: _ :: _ :: _ :: _ :: _ :: _ :: _ :: _ :: _ :: _ :: _ :: _ :: _ :: _ :: _ :: _ :: _ :: _ :: _ :: _ :: _ :: _ :: _ :: _ :: _ :: _ :: _ :: _ :: _ :: _ :: _ :: _ :: _ :: _ :: _ :: _ :: _ :: _ :: _ :: _ :: _ :: _ :: _ :: _ :: _ :: _ :: _ :: _ :: _ :: _ :: _ :: _ :: _ :: _ :: _ :: _ :: _ :: _ :: _ :: _ :: _ :: _ :: _ :: _ :: _ :: _ :: .agg #[.float .f64 a0, .float .f64 a1] :: .agg #[.float .f64 tw, .float .f64 0] :: _ :: _ :: _ :: _ :: _ :: _ :: _ :: _ :: _ :: _ :: _ :: _ :: _ :: _ :: _ :: _ :: _ :: _ :: _ :: _ :: _ :: _ :: _ :: _ :: _ :: _ :: _ :: _ :: _ :: _ :: _ :: _ :: _ :: _ :: _ :: _ :: _ :: _ :: _ :: _ :: _ :: _ :: _ :: _ :: _ :: _ :: _ :: _ :: _ :: _ :: _ :: _ :: _ :: _ :: _ :: _ :: _ :: _ :: _ :: _ :: _ :: _ :: []), defers := [] } _
    refine wpAnyH_take (i := 3) (v := .agg #[.float .f64 tw, .float .f64 0]) rfl (by kernel_rfl) (by kernel_rfl) (by kernel_rfl) (fun _ _ _ h => h) (Or.inl ⟨by kernel_rfl, fun w hS => by (obtain ⟨hS0, hS1, hS2, hS3⟩ := hS; go_simp)⟩) hHeld ?_
    change wpAnyH _ _ _ _ _ _ _ { tmps := List.toArray (_ :: _ :: _ :: .pointer (some ⟨ba, 0, none⟩) :: _ :: _ :: _ :: _ :: _ :: .pointer (some ⟨b9, 0, none⟩) :: _ :: _ :: _ :: _ :: _ :: _ :: _ :: _ :: _ :: _ :: _ :: _ :: _ :: _ :: _ :: _ :: _ :: _ :: _ :: _ :: _ :: _ :: _ :: _ :: _ :: _ :: _ :: _ :: _ :: _ :: _ :: _ :: _ :: _ :: _ :: _ :: _ :: _ :: _ :: _ :: _ :: _ :: _ :: _ :: _ :: _ :: _ :: _ :: _ :: _ :: _ :: _ :: _ :: _ :: _ :: _ :: _ :: _ :: _ :: _ :: _ :: _ :: _ :: _ :: _ :: _ :: _ :: .agg #[.float .f64 a0, .float .f64 a1] :: .agg #[.float .f64 tw, .float .f64 0] :: _ :: .agg #[.float .f64 tw, .float .f64 0] :: _ :: _ :: _ :: _ :: _ :: _ :: _ :: _ :: _ :: _ :: _ :: _ :: _ :: _ :: _ :: _ :: _ :: _ :: _ :: _ :: _ :: _ :: _ :: _ :: _ :: _ :: _ :: _ :: _ :: _ :: _ :: _ :: _ :: _ :: _ :: _ :: _ :: _ :: _ :: _ :: _ :: _ :: _ :: _ :: _ :: _ :: _ :: _ :: _ :: _ :: _ :: _ :: _ :: _ :: _ :: _ :: _ :: _ :: _ :: _ :: []), defers := [] } _
    refine wpAnyH_ready (rs := [2, 5]) (by kernel_rfl) (by simp) ?_
    refine (AllReadyH.cons rfl (fun KK hK => ?_) (AllReadyH.cons rfl (fun KK hK => ?_) AllReadyH.nil))
    · skip
      go_simp
      refine (cZMulI2 a0 a1 tw 0 _).mono ?_
      rintro e wc1 ⟨m0, m1, rfl, hM, hb⟩
      have Bc := btrans B0d hb
      clear hb
      go_wp2_with fail
      clear hHeld
      refine hK.out _ _ (by obtain ⟨⟨k0, k1⟩, -⟩ := twoC (keepB Bc KA); obtain ⟨⟨k2, k3⟩, -⟩ := twoC (keepB Bc K9); exact ⟨k0, k1, k2, k3⟩) (fun hHeld => ?_)
      clear hK KK
      change wpAnyH _ _ _ _ _ _ _ { tmps := List.toArray (_ :: _ :: _ :: .pointer (some ⟨ba, 0, none⟩) :: _ :: _ :: _ :: _ :: _ :: .pointer (some ⟨b9, 0, none⟩) :: _ :: _ :: _ :: _ :: _ :: _ :: _ :: _ :: _ :: _ :: _ :: _ :: _ :: _ :: _ :: _ :: _ :: _ :: _ :: _ :: _ :: _ :: _ :: _ :: _ :: _ :: _ :: _ :: _ :: _ :: _ :: _ :: _ :: _ :: _ :: _ :: _ :: _ :: _ :: _ :: _ :: _ :: _ :: _ :: _ :: _ :: _ :: _ :: _ :: _ :: _ :: _ :: _ :: _ :: _ :: _ :: _ :: _ :: _ :: _ :: _ :: _ :: _ :: _ :: _ :: _ :: _ :: .agg #[.float .f64 a0, .float .f64 a1] :: .agg #[.float .f64 tw, .float .f64 0] :: .agg #[.float .f64 m0, .float .f64 m1] :: .agg #[.float .f64 tw, .float .f64 0] :: _ :: _ :: _ :: _ :: _ :: _ :: _ :: _ :: _ :: _ :: _ :: _ :: _ :: _ :: _ :: _ :: _ :: _ :: _ :: _ :: _ :: _ :: _ :: _ :: _ :: _ :: _ :: _ :: _ :: _ :: _ :: _ :: _ :: _ :: _ :: _ :: _ :: _ :: _ :: _ :: _ :: _ :: _ :: _ :: _ :: _ :: _ :: _ :: _ :: _ :: _ :: _ :: _ :: _ :: _ :: _ :: _ :: _ :: _ :: _ :: []), defers := [] } _
      refine wpAnyH_ready (rs := [4, 5]) (by kernel_rfl) (by simp) ?_
      refine (AllReadyH.cons rfl (fun KK hK => ?_) (AllReadyH.cons rfl (fun KK hK => ?_) AllReadyH.nil))
      · skip
        go_simp
        refine (cZDivI2 m0 m1 tw 0 _).mono ?_
        rintro e wc2 ⟨p, q, rfl, hV, hb⟩
        have Bd := btrans Bc hb
        clear hb
        rw [hM] at hV
        go_wp2_with fail
        clear hHeld
        refine hK.out _ _ (by obtain ⟨⟨k0, k1⟩, -⟩ := twoC (keepB Bd KA); obtain ⟨⟨k2, k3⟩, -⟩ := twoC (keepB Bd K9); exact ⟨k0, k1, k2, k3⟩) (fun hHeld => ?_)
        clear hK KK
        change wpAnyH _ _ _ _ _ _ _ { tmps := List.toArray (_ :: _ :: _ :: .pointer (some ⟨ba, 0, none⟩) :: _ :: _ :: _ :: _ :: _ :: .pointer (some ⟨b9, 0, none⟩) :: _ :: _ :: _ :: _ :: _ :: _ :: _ :: _ :: _ :: _ :: _ :: _ :: _ :: _ :: _ :: _ :: _ :: _ :: _ :: _ :: _ :: _ :: _ :: _ :: _ :: _ :: _ :: _ :: _ :: _ :: _ :: _ :: _ :: _ :: _ :: _ :: _ :: _ :: _ :: _ :: _ :: _ :: _ :: _ :: _ :: _ :: _ :: _ :: _ :: _ :: _ :: _ :: _ :: _ :: _ :: _ :: _ :: _ :: _ :: _ :: _ :: _ :: _ :: _ :: _ :: _ :: _ :: .agg #[.float .f64 a0, .float .f64 a1] :: .agg #[.float .f64 tw, .float .f64 0] :: .agg #[.float .f64 m0, .float .f64 m1] :: .agg #[.float .f64 tw, .float .f64 0] :: .agg #[.float .f64 p, .float .f64 q] :: _ :: _ :: _ :: _ :: _ :: _ :: _ :: _ :: _ :: _ :: _ :: _ :: _ :: _ :: _ :: _ :: _ :: _ :: _ :: _ :: _ :: _ :: _ :: _ :: _ :: _ :: _ :: _ :: _ :: _ :: _ :: _ :: _ :: _ :: _ :: _ :: _ :: _ :: _ :: _ :: _ :: _ :: _ :: _ :: _ :: _ :: _ :: _ :: _ :: _ :: _ :: _ :: _ :: _ :: _ :: _ :: _ :: _ :: _ :: []), defers := [] } _
        refine wpAnyH_ready (rs := [5]) (by kernel_rfl) (by simp) ?_
        refine (AllReadyH.cons rfl (fun KK hK => ?_) AllReadyH.nil)
        go_simp
        have hbz := balloc wc2 (.cells #[.float .f64 0, .float .f64 0] 26)
        have zB : (wc2.alloc (.cells #[.float .f64 0, .float .f64 0] 26)).heap[wc2.heap.size]? = some (.cells #[.float .f64 0, .float .f64 0] 26 (0, 0)) := one_block wc2 _
        have zlo : w8.heap.size ≤ wc2.heap.size := Bd.size
        have Bz := btrans Bd hbz
        clear hbz
        generalize wc2.heap.size = bz at *
        generalize wc2.alloc (.cells #[.float .f64 0, .float .f64 0] 26) = wz at *
        clear hHeld
        refine hK.out _ _ (by obtain ⟨⟨k0, k1⟩, -⟩ := twoC (keepB Bz KA); obtain ⟨⟨k2, k3⟩, -⟩ := twoC (keepB Bz K9); exact ⟨k0, k1, k2, k3⟩) (fun hHeld => ?_)
        clear hK KK
        change wpAnyH _ _ _ _ _ _ _ { tmps := List.toArray (_ :: _ :: _ :: .pointer (some ⟨ba, 0, none⟩) :: _ :: _ :: _ :: _ :: _ :: .pointer (some ⟨b9, 0, none⟩) :: .pointer (some ⟨bz, 0, none⟩) :: _ :: _ :: _ :: _ :: _ :: _ :: _ :: _ :: _ :: _ :: _ :: _ :: _ :: _ :: _ :: _ :: _ :: _ :: _ :: _ :: _ :: _ :: _ :: _ :: _ :: _ :: _ :: _ :: _ :: _ :: _ :: _ :: _ :: _ :: _ :: _ :: _ :: _ :: _ :: _ :: _ :: _ :: _ :: _ :: _ :: _ :: _ :: _ :: _ :: _ :: _ :: _ :: _ :: _ :: _ :: _ :: _ :: _ :: _ :: _ :: _ :: _ :: _ :: _ :: _ :: _ :: .agg #[.float .f64 a0, .float .f64 a1] :: .agg #[.float .f64 tw, .float .f64 0] :: .agg #[.float .f64 m0, .float .f64 m1] :: .agg #[.float .f64 tw, .float .f64 0] :: .agg #[.float .f64 p, .float .f64 q] :: _ :: _ :: _ :: _ :: _ :: _ :: _ :: _ :: _ :: _ :: _ :: _ :: _ :: _ :: _ :: _ :: _ :: _ :: _ :: _ :: _ :: _ :: _ :: _ :: _ :: _ :: _ :: _ :: _ :: _ :: _ :: _ :: _ :: _ :: _ :: _ :: _ :: _ :: _ :: _ :: _ :: _ :: _ :: _ :: _ :: _ :: _ :: _ :: _ :: _ :: _ :: _ :: _ :: _ :: _ :: _ :: _ :: _ :: _ :: []), defers := [] } _
        refine wpAnyH_ready (rs := [6]) (by kernel_rfl) (by simp) ?_
        refine (AllReadyH.cons rfl (fun KK hK => ?_) AllReadyH.nil)
        obtain ⟨⟨m2, m3⟩, y0, y1⟩ := twoC zB
        have Bs : Below w8.heap.size w8 ((wz.setCell ⟨bz, 0, none⟩ (.float .f64 p)).setCell ⟨bz, 1, none⟩ (.float .f64 q)) := below_set zlo (below_set zlo Bz)
        go_simp
        clear hHeld
        refine hK.out _ _ (by obtain ⟨⟨k0, k1⟩, -⟩ := twoC (keepB Bs KA); obtain ⟨⟨k2, k3⟩, -⟩ := twoC (keepB Bs K9); exact ⟨k0, k1, k2, k3⟩) (fun hHeld => ?_)
        clear hK KK
        change wpAnyH _ _ _ _ _ _ _ { tmps := List.toArray (_ :: _ :: _ :: .pointer (some ⟨ba, 0, none⟩) :: _ :: _ :: _ :: _ :: _ :: .pointer (some ⟨b9, 0, none⟩) :: .pointer (some ⟨bz, 0, none⟩) :: _ :: _ :: _ :: _ :: _ :: _ :: _ :: _ :: _ :: _ :: _ :: _ :: _ :: _ :: _ :: _ :: _ :: _ :: _ :: _ :: _ :: _ :: _ :: _ :: _ :: _ :: _ :: _ :: _ :: _ :: _ :: _ :: _ :: _ :: _ :: _ :: _ :: _ :: _ :: _ :: _ :: _ :: _ :: _ :: _ :: _ :: _ :: _ :: _ :: _ :: _ :: _ :: _ :: _ :: _ :: _ :: _ :: _ :: _ :: _ :: _ :: _ :: _ :: _ :: _ :: _ :: .agg #[.float .f64 a0, .float .f64 a1] :: .agg #[.float .f64 tw, .float .f64 0] :: .agg #[.float .f64 m0, .float .f64 m1] :: .agg #[.float .f64 tw, .float .f64 0] :: .agg #[.float .f64 p, .float .f64 q] :: _ :: _ :: _ :: _ :: _ :: _ :: _ :: _ :: _ :: _ :: _ :: _ :: _ :: _ :: _ :: _ :: _ :: _ :: _ :: _ :: _ :: _ :: _ :: _ :: _ :: _ :: _ :: _ :: _ :: _ :: _ :: _ :: _ :: _ :: _ :: _ :: _ :: _ :: _ :: _ :: _ :: _ :: _ :: _ :: _ :: _ :: _ :: _ :: _ :: _ :: _ :: _ :: _ :: _ :: _ :: _ :: _ :: _ :: _ :: []), defers := [] } _
        refine wpAnyH_done (by kernel_rfl) ?_ _
        go_wp2_with fail
        go_meet
        exact gotS Bz zB zlo hV
      · skip
        go_simp
        have hbz := balloc wc1 (.cells #[.float .f64 0, .float .f64 0] 26)
        have zB : (wc1.alloc (.cells #[.float .f64 0, .float .f64 0] 26)).heap[wc1.heap.size]? = some (.cells #[.float .f64 0, .float .f64 0] 26 (0, 0)) := one_block wc1 _
        have zlo : w8.heap.size ≤ wc1.heap.size := Bc.size
        have Bz := btrans Bc hbz
        clear hbz
        generalize wc1.heap.size = bz at *
        generalize wc1.alloc (.cells #[.float .f64 0, .float .f64 0] 26) = wz at *
        clear hHeld
        refine hK.out _ _ (by obtain ⟨⟨k0, k1⟩, -⟩ := twoC (keepB Bz KA); obtain ⟨⟨k2, k3⟩, -⟩ := twoC (keepB Bz K9); exact ⟨k0, k1, k2, k3⟩) (fun hHeld => ?_)
        clear hK KK
        change wpAnyH _ _ _ _ _ _ _ { tmps := List.toArray (_ :: _ :: _ :: .pointer (some ⟨ba, 0, none⟩) :: _ :: _ :: _ :: _ :: _ :: .pointer (some ⟨b9, 0, none⟩) :: .pointer (some ⟨bz, 0, none⟩) :: _ :: _ :: _ :: _ :: _ :: _ :: _ :: _ :: _ :: _ :: _ :: _ :: _ :: _ :: _ :: _ :: _ :: _ :: _ :: _ :: _ :: _ :: _ :: _ :: _ :: _ :: _ :: _ :: _ :: _ :: _ :: _ :: _ :: _ :: _ :: _ :: _ :: _ :: _ :: _ :: _ :: _ :: _ :: _ :: _ :: _ :: _ :: _ :: _ :: _ :: _ :: _ :: _ :: _ :: _ :: _ :: _ :: _ :: _ :: _ :: _ :: _ :: _ :: _ :: _ :: _ :: .agg #[.float .f64 a0, .float .f64 a1] :: .agg #[.float .f64 tw, .float .f64 0] :: .agg #[.float .f64 m0, .float .f64 m1] :: .agg #[.float .f64 tw, .float .f64 0] :: _ :: _ :: _ :: _ :: _ :: _ :: _ :: _ :: _ :: _ :: _ :: _ :: _ :: _ :: _ :: _ :: _ :: _ :: _ :: _ :: _ :: _ :: _ :: _ :: _ :: _ :: _ :: _ :: _ :: _ :: _ :: _ :: _ :: _ :: _ :: _ :: _ :: _ :: _ :: _ :: _ :: _ :: _ :: _ :: _ :: _ :: _ :: _ :: _ :: _ :: _ :: _ :: _ :: _ :: _ :: _ :: _ :: _ :: _ :: _ :: []), defers := [] } _
        refine wpAnyH_ready (rs := [4]) (by kernel_rfl) (by simp) ?_
        refine (AllReadyH.cons rfl (fun KK hK => ?_) AllReadyH.nil)
        go_simp
        refine (cZDivI2 m0 m1 tw 0 _).mono ?_
        rintro e wc2 ⟨p, q, rfl, hV, hb⟩
        have Bd := btrans Bz hb
        have zB := keepB hb zB
        clear hb
        rw [hM] at hV
        go_wp2_with fail
        clear hHeld
        refine hK.out _ _ (by obtain ⟨⟨k0, k1⟩, -⟩ := twoC (keepB Bd KA); obtain ⟨⟨k2, k3⟩, -⟩ := twoC (keepB Bd K9); exact ⟨k0, k1, k2, k3⟩) (fun hHeld => ?_)
        clear hK KK
        change wpAnyH _ _ _ _ _ _ _ { tmps := List.toArray (_ :: _ :: _ :: .pointer (some ⟨ba, 0, none⟩) :: _ :: _ :: _ :: _ :: _ :: .pointer (some ⟨b9, 0, none⟩) :: .pointer (some ⟨bz, 0, none⟩) :: _ :: _ :: _ :: _ :: _ :: _ :: _ :: _ :: _ :: _ :: _ :: _ :: _ :: _ :: _ :: _ :: _ :: _ :: _ :: _ :: _ :: _ :: _ :: _ :: _ :: _ :: _ :: _ :: _ :: _ :: _ :: _ :: _ :: _ :: _ :: _ :: _ :: _ :: _ :: _ :: _ :: _ :: _ :: _ :: _ :: _ :: _ :: _ :: _ :: _ :: _ :: _ :: _ :: _ :: _ :: _ :: _ :: _ :: _ :: _ :: _ :: _ :: _ :: _ :: _ :: _ :: .agg #[.float .f64 a0, .float .f64 a1] :: .agg #[.float .f64 tw, .float .f64 0] :: .agg #[.float .f64 m0, .float .f64 m1] :: .agg #[.float .f64 tw, .float .f64 0] :: .agg #[.float .f64 p, .float .f64 q] :: _ :: _ :: _ :: _ :: _ :: _ :: _ :: _ :: _ :: _ :: _ :: _ :: _ :: _ :: _ :: _ :: _ :: _ :: _ :: _ :: _ :: _ :: _ :: _ :: _ :: _ :: _ :: _ :: _ :: _ :: _ :: _ :: _ :: _ :: _ :: _ :: _ :: _ :: _ :: _ :: _ :: _ :: _ :: _ :: _ :: _ :: _ :: _ :: _ :: _ :: _ :: _ :: _ :: _ :: _ :: _ :: _ :: _ :: _ :: []), defers := [] } _
        refine wpAnyH_ready (rs := [6]) (by kernel_rfl) (by simp) ?_
        refine (AllReadyH.cons rfl (fun KK hK => ?_) AllReadyH.nil)
        obtain ⟨⟨m2, m3⟩, y0, y1⟩ := twoC zB
        have Bs : Below w8.heap.size w8 ((wc2.setCell ⟨bz, 0, none⟩ (.float .f64 p)).setCell ⟨bz, 1, none⟩ (.float .f64 q)) := below_set zlo (below_set zlo Bd)
        go_simp
        clear hHeld
        refine hK.out _ _ (by obtain ⟨⟨k0, k1⟩, -⟩ := twoC (keepB Bs KA); obtain ⟨⟨k2, k3⟩, -⟩ := twoC (keepB Bs K9); exact ⟨k0, k1, k2, k3⟩) (fun hHeld => ?_)
        clear hK KK
        change wpAnyH _ _ _ _ _ _ _ { tmps := List.toArray (_ :: _ :: _ :: .pointer (some ⟨ba, 0, none⟩) :: _ :: _ :: _ :: _ :: _ :: .pointer (some ⟨b9, 0, none⟩) :: .pointer (some ⟨bz, 0, none⟩) :: _ :: _ :: _ :: _ :: _ :: _ :: _ :: _ :: _ :: _ :: _ :: _ :: _ :: _ :: _ :: _ :: _ :: _ :: _ :: _ :: _ :: _ :: _ :: _ :: _ :: _ :: _ :: _ :: _ :: _ :: _ :: _ :: _ :: _ :: _ :: _ :: _ :: _ :: _ :: _ :: _ :: _ :: _ :: _ :: _ :: _ :: _ :: _ :: _ :: _ :: _ :: _ :: _ :: _ :: _ :: _ :: _ :: _ :: _ :: _ :: _ :: _ :: _ :: _ :: _ :: _ :: .agg #[.float .f64 a0, .float .f64 a1] :: .agg #[.float .f64 tw, .float .f64 0] :: .agg #[.float .f64 m0, .float .f64 m1] :: .agg #[.float .f64 tw, .float .f64 0] :: .agg #[.float .f64 p, .float .f64 q] :: _ :: _ :: _ :: _ :: _ :: _ :: _ :: _ :: _ :: _ :: _ :: _ :: _ :: _ :: _ :: _ :: _ :: _ :: _ :: _ :: _ :: _ :: _ :: _ :: _ :: _ :: _ :: _ :: _ :: _ :: _ :: _ :: _ :: _ :: _ :: _ :: _ :: _ :: _ :: _ :: _ :: _ :: _ :: _ :: _ :: _ :: _ :: _ :: _ :: _ :: _ :: _ :: _ :: _ :: _ :: _ :: _ :: _ :: _ :: []), defers := [] } _
        refine wpAnyH_done (by kernel_rfl) ?_ _
        go_wp2_with fail
        go_meet
        exact gotS Bd zB zlo hV
    · skip
      go_simp
      have hbz := balloc wd (.cells #[.float .f64 0, .float .f64 0] 26)
      have zB : (wd.alloc (.cells #[.float .f64 0, .float .f64 0] 26)).heap[wd.heap.size]? = some (.cells #[.float .f64 0, .float .f64 0] 26 (0, 0)) := one_block wd _
      have zlo : w8.heap.size ≤ wd.heap.size := B0d.size
      have Bz := btrans B0d hbz
      clear hbz
      generalize wd.heap.size = bz at *
      generalize wd.alloc (.cells #[.float .f64 0, .float .f64 0] 26) = wz at *
      clear hHeld
      refine hK.out _ _ (by obtain ⟨⟨k0, k1⟩, -⟩ := twoC (keepB Bz KA); obtain ⟨⟨k2, k3⟩, -⟩ := twoC (keepB Bz K9); exact ⟨k0, k1, k2, k3⟩) (fun hHeld => ?_)
      clear hK KK
      change wpAnyH _ _ _ _ _ _ _ { tmps := List.toArray (_ :: _ :: _ :: .pointer (some ⟨ba, 0, none⟩) :: _ :: _ :: _ :: _ :: _ :: .pointer (some ⟨b9, 0, none⟩) :: .pointer (some ⟨bz, 0, none⟩) :: _ :: _ :: _ :: _ :: _ :: _ :: _ :: _ :: _ :: _ :: _ :: _ :: _ :: _ :: _ :: _ :: _ :: _ :: _ :: _ :: _ :: _ :: _ :: _ :: _ :: _ :: _ :: _ :: _ :: _ :: _ :: _ :: _ :: _ :: _ :: _ :: _ :: _ :: _ :: _ :: _ :: _ :: _ :: _ :: _ :: _ :: _ :: _ :: _ :: _ :: _ :: _ :: _ :: _ :: _ :: _ :: _ :: _ :: _ :: _ :: _ :: _ :: _ :: _ :: _ :: _ :: .agg #[.float .f64 a0, .float .f64 a1] :: .agg #[.float .f64 tw, .float .f64 0] :: _ :: .agg #[.float .f64 tw, .float .f64 0] :: _ :: _ :: _ :: _ :: _ :: _ :: _ :: _ :: _ :: _ :: _ :: _ :: _ :: _ :: _ :: _ :: _ :: _ :: _ :: _ :: _ :: _ :: _ :: _ :: _ :: _ :: _ :: _ :: _ :: _ :: _ :: _ :: _ :: _ :: _ :: _ :: _ :: _ :: _ :: _ :: _ :: _ :: _ :: _ :: _ :: _ :: _ :: _ :: _ :: _ :: _ :: _ :: _ :: _ :: _ :: _ :: _ :: _ :: _ :: _ :: []), defers := [] } _
      refine wpAnyH_ready (rs := [2]) (by kernel_rfl) (by simp) ?_
      refine (AllReadyH.cons rfl (fun KK hK => ?_) AllReadyH.nil)
      go_simp
      refine (cZMulI2 a0 a1 tw 0 _).mono ?_
      rintro e wc1 ⟨m0, m1, rfl, hM, hb⟩
      have Bc := btrans Bz hb
      have zB := keepB hb zB
      clear hb
      go_wp2_with fail
      clear hHeld
      refine hK.out _ _ (by obtain ⟨⟨k0, k1⟩, -⟩ := twoC (keepB Bc KA); obtain ⟨⟨k2, k3⟩, -⟩ := twoC (keepB Bc K9); exact ⟨k0, k1, k2, k3⟩) (fun hHeld => ?_)
      clear hK KK
      change wpAnyH _ _ _ _ _ _ _ { tmps := List.toArray (_ :: _ :: _ :: .pointer (some ⟨ba, 0, none⟩) :: _ :: _ :: _ :: _ :: _ :: .pointer (some ⟨b9, 0, none⟩) :: .pointer (some ⟨bz, 0, none⟩) :: _ :: _ :: _ :: _ :: _ :: _ :: _ :: _ :: _ :: _ :: _ :: _ :: _ :: _ :: _ :: _ :: _ :: _ :: _ :: _ :: _ :: _ :: _ :: _ :: _ :: _ :: _ :: _ :: _ :: _ :: _ :: _ :: _ :: _ :: _ :: _ :: _ :: _ :: _ :: _ :: _ :: _ :: _ :: _ :: _ :: _ :: _ :: _ :: _ :: _ :: _ :: _ :: _ :: _ :: _ :: _ :: _ :: _ :: _ :: _ :: _ :: _ :: _ :: _ :: _ :: _ :: .agg #[.float .f64 a0, .float .f64 a1] :: .agg #[.float .f64 tw, .float .f64 0] :: .agg #[.float .f64 m0, .float .f64 m1] :: .agg #[.float .f64 tw, .float .f64 0] :: _ :: _ :: _ :: _ :: _ :: _ :: _ :: _ :: _ :: _ :: _ :: _ :: _ :: _ :: _ :: _ :: _ :: _ :: _ :: _ :: _ :: _ :: _ :: _ :: _ :: _ :: _ :: _ :: _ :: _ :: _ :: _ :: _ :: _ :: _ :: _ :: _ :: _ :: _ :: _ :: _ :: _ :: _ :: _ :: _ :: _ :: _ :: _ :: _ :: _ :: _ :: _ :: _ :: _ :: _ :: _ :: _ :: _ :: _ :: _ :: []), defers := [] } _
      refine wpAnyH_ready (rs := [4]) (by kernel_rfl) (by simp) ?_
      refine (AllReadyH.cons rfl (fun KK hK => ?_) AllReadyH.nil)
      go_simp
      refine (cZDivI2 m0 m1 tw 0 _).mono ?_
      rintro e wc2 ⟨p, q, rfl, hV, hb⟩
      have Bd := btrans Bc hb
      have zB := keepB hb zB
      clear hb
      rw [hM] at hV
      go_wp2_with fail
      clear hHeld
      refine hK.out _ _ (by obtain ⟨⟨k0, k1⟩, -⟩ := twoC (keepB Bd KA); obtain ⟨⟨k2, k3⟩, -⟩ := twoC (keepB Bd K9); exact ⟨k0, k1, k2, k3⟩) (fun hHeld => ?_)
      clear hK KK
      change wpAnyH _ _ _ _ _ _ _ { tmps := List.toArray (_ :: _ :: _ :: .pointer (some ⟨ba, 0, none⟩) :: _ :: _ :: _ :: _ :: _ :: .pointer (some ⟨b9, 0, none⟩) :: .pointer (some ⟨bz, 0, none⟩) :: _ :: _ :: _ :: _ :: _ :: _ :: _ :: _ :: _ :: _ :: _ :: _ :: _ :: _ :: _ :: _ :: _ :: _ :: _ :: _ :: _ :: _ :: _ :: _ :: _ :: _ :: _ :: _ :: _ :: _ :: _ :: _ :: _ :: _ :: _ :: _ :: _ :: _ :: _ :: _ :: _ :: _ :: _ :: _ :: _ :: _ :: _ :: _ :: _ :: _ :: _ :: _ :: _ :: _ :: _ :: _ :: _ :: _ :: _ :: _ :: _ :: _ :: _ :: _ :: _ :: _ :: .agg #[.float .f64 a0, .float .f64 a1] :: .agg #[.float .f64 tw, .float .f64 0] :: .agg #[.float .f64 m0, .float .f64 m1] :: .agg #[.float .f64 tw, .float .f64 0] :: .agg #[.float .f64 p, .float .f64 q] :: _ :: _ :: _ :: _ :: _ :: _ :: _ :: _ :: _ :: _ :: _ :: _ :: _ :: _ :: _ :: _ :: _ :: _ :: _ :: _ :: _ :: _ :: _ :: _ :: _ :: _ :: _ :: _ :: _ :: _ :: _ :: _ :: _ :: _ :: _ :: _ :: _ :: _ :: _ :: _ :: _ :: _ :: _ :: _ :: _ :: _ :: _ :: _ :: _ :: _ :: _ :: _ :: _ :: _ :: _ :: _ :: _ :: _ :: _ :: []), defers := [] } _
      refine wpAnyH_ready (rs := [6]) (by kernel_rfl) (by simp) ?_
      refine (AllReadyH.cons rfl (fun KK hK => ?_) AllReadyH.nil)
      obtain ⟨⟨m2, m3⟩, y0, y1⟩ := twoC zB
      have Bs : Below w8.heap.size w8 ((wc2.setCell ⟨bz, 0, none⟩ (.float .f64 p)).setCell ⟨bz, 1, none⟩ (.float .f64 q)) := below_set zlo (below_set zlo Bd)
      go_simp
      clear hHeld
      refine hK.out _ _ (by obtain ⟨⟨k0, k1⟩, -⟩ := twoC (keepB Bs KA); obtain ⟨⟨k2, k3⟩, -⟩ := twoC (keepB Bs K9); exact ⟨k0, k1, k2, k3⟩) (fun hHeld => ?_)
      clear hK KK
      change wpAnyH _ _ _ _ _ _ _ { tmps := List.toArray (_ :: _ :: _ :: .pointer (some ⟨ba, 0, none⟩) :: _ :: _ :: _ :: _ :: _ :: .pointer (some ⟨b9, 0, none⟩) :: .pointer (some ⟨bz, 0, none⟩) :: _ :: _ :: _ :: _ :: _ :: _ :: _ :: _ :: _ :: _ :: _ :: _ :: _ :: _ :: _ :: _ :: _ :: _ :: _ :: _ :: _ :: _ :: _ :: _ :: _ :: _ :: _ :: _ :: _ :: _ :: _ :: _ :: _ :: _ :: _ :: _ :: _ :: _ :: _ :: _ :: _ :: _ :: _ :: _ :: _ :: _ :: _ :: _ :: _ :: _ :: _ :: _ :: _ :: _ :: _ :: _ :: _ :: _ :: _ :: _ :: _ :: _ :: _ :: _ :: _ :: _ :: .agg #[.float .f64 a0, .float .f64 a1] :: .agg #[.float .f64 tw, .float .f64 0] :: .agg #[.float .f64 m0, .float .f64 m1] :: .agg #[.float .f64 tw, .float .f64 0] :: .agg #[.float .f64 p, .float .f64 q] :: _ :: _ :: _ :: _ :: _ :: _ :: _ :: _ :: _ :: _ :: _ :: _ :: _ :: _ :: _ :: _ :: _ :: _ :: _ :: _ :: _ :: _ :: _ :: _ :: _ :: _ :: _ :: _ :: _ :: _ :: _ :: _ :: _ :: _ :: _ :: _ :: _ :: _ :: _ :: _ :: _ :: _ :: _ :: _ :: _ :: _ :: _ :: _ :: _ :: _ :: _ :: _ :: _ :: _ :: _ :: _ :: _ :: _ :: _ :: []), defers := [] } _
      refine wpAnyH_done (by kernel_rfl) ?_ _
      go_wp2_with fail
      go_meet
      exact gotS Bd zB zlo hV
  case rest =>
  obtain ⟨⟨b10, d0, d1, rfl, K10, hCd, -⟩, hb⟩ := hcut
  replace HB4 := btrans HB4 hb
  replace KA := keepB hb KA
  replace KB := keepB hb KB
  replace K7 := keepB hb K7
  replace K8 := keepB hb K8
  replace K9 := keepB hb K9
  clear hb c0 c1 c2 c3
  generalize wc = w9 at *
  obtain ⟨⟨c0, c1⟩, -⟩ := twoC KA
  obtain ⟨⟨c2, c3⟩, -⟩ := twoC K9
  go_upto_region 12 with fail
  go_cut [11] from 82 (fun pv wc => GotZ w9 (zdiv (zmul (ZV.c ⟨a0, a1⟩) (ZV.c ⟨0, tw⟩)) (ZV.c ⟨0, tw⟩)) pv wc)
  case first => as_aux_lemma =>
    refine wp_region_held_drew (S := (fun w' => w'.cell? ⟨ba, 0, none⟩ = some (.float .f64 a0) ∧ w'.cell? ⟨ba, 1, none⟩ = some (.float .f64 a1) ∧ w'.cell? ⟨b9, 0, none⟩ = some (.float .f64 tw) ∧ w'.cell? ⟨b9, 1, none⟩ = some (.float .f64 0))) (by kernel_rfl) ?_ (fun hHeld => ?_)
    · go_keep
    have B0d : Below w9.heap.size w9 w9.drew := (Below.refl _ _).drew
    generalize w9.drew = wd at *
    refine wpAnyH_take (i := 0) (v := .agg #[.float .f64 a0, .float .f64 a1]) rfl (by kernel_rfl) (by kernel_rfl) (by kernel_rfl) (fun _ _ _ h => h) (Or.inl ⟨by kernel_rfl, fun w hS => by (obtain ⟨hS0, hS1, hS2, hS3⟩ := hS; go_simp)⟩) hHeld ?_
    change wpAnyH _ _ _ _ _ _ _ { tmps := List.toArray (_ :: _ :: _ :: .pointer (some ⟨ba, 0, none⟩) :: _ :: _ :: _ :: _ :: _ :: .pointer (some ⟨b9, 0, none⟩) :: _ :: _ :: _ :: _ :: _ :: _ :: _ :: _ :: _ :: _ :: _ :: _ :: _ :: _ :: _ :: _ :: _ :: _ :: _ :: _ :: _ :: _ :: _ :: _ :: _ :: _ :: _ :: _ :: _ :: _ :: _ :: _ :: _ :: _ :: _ :: _ :: _ :: _ :: _ :: _ :: _ :: _ :: _ :: _ :: _ :: _ :: _ :: _ :: _ :: _ :: _ :: _ :: _ :: _ :: _ :: _ :: _ :: _ :: _ :: _ :: _ :: _ :: _ :: _ :: _ :: _ :: _ :: _ :: _ :: _ :: _ :: _ :: .agg #[.float .f64 a0, .float .f64 a1] :: _ :: _ :: _ :: _ :: _ :: _ :: _ :: _ :: _ :: _ :: _ :: _ :: _ :: _ :: _ :: _ :: _ :: _ :: _ :: _ :: _ :: _ :: _ :: _ :: _ :: _ :: _ :: _ :: _ :: _ :: _ :: _ :: _ :: _ :: _ :: _ :: _ :: _ :: _ :: _ :: _ :: _ :: _ :: _ :: _ :: _ :: _ :: _ :: _ :: _ :: _ :: _ :: _ :: _ :: _ :: _ :: _ :: _ :: []), defers := [] } _
    refine wpAnyH_take (i := 1) (v := .pointer (some ⟨b9, 0, none⟩)) rfl (by kernel_rfl) (by kernel_rfl) (by kernel_rfl) (fun _ _ _ h => h) (Or.inl ⟨by kernel_rfl, fun w hS => by go_simp⟩) hHeld ?_
    change wpAnyH _ _ _ _ _ _ _ { tmps := List.toArray (_ :: _ :: _ :: .pointer (some ⟨ba, 0, none⟩) :: _ :: _ :: _ :: _ :: _ :: .pointer (some ⟨b9, 0, none⟩) :: _ :: _ :: _ :: _ :: _ :: _ :: _ :: _ :: _ :: _ :: _ :: _ :: _ :: _ :: _ :: _ :: _ :: _ :: _ :: _ :: _ :: _ :: _ :: _ :: _ :: _ :: _ :: _ :: _ :: _ :: _ :: _ :: _ :: _ :: _ :: _ :: _ :: _ :: _ :: _ :: _ :: _ :: _ :: _ :: _ :: _ :: _ :: _ :: _ :: _ :: _ :: _ :: _ :: _ :: _ :: _ :: _ :: _ :: _ :: _ :: _ :: _ :: _ :: _ :: _ :: _ :: _ :: _ :: _ :: _ :: _ :: _ :: .agg #[.float .f64 a0, .float .f64 a1] :: .pointer (some ⟨b9, 0, none⟩) :: _ :: _ :: _ :: _ :: _ :: _ :: _ :: _ :: _ :: _ :: _ :: _ :: _ :: _ :: _ :: _ :: _ :: _ :: _ :: _ :: _ :: _ :: _ :: _ :: _ :: _ :: _ :: _ :: _ :: _ :: _ :: _ :: _ :: _ :: _ :: _ :: _ :: _ :: _ :: _ :: _ :: _ :: _ :: _ :: _ :: _ :: _ :: _ :: _ :: _ :: _ :: _ :: _ :: _ :: _ :: _ :: _ :: []), defers := [] } _
    refine wpAnyH_take (i := 2) (v := .float .f64 tw) rfl (by kernel_rfl) (by kernel_rfl) (by kernel_rfl) (fun _ _ _ h => h) (Or.inl ⟨by kernel_rfl, fun w hS => by (obtain ⟨hS0, hS1, hS2, hS3⟩ := hS; go_simp)⟩) hHeld ?_
    change wpAnyH _ _ _ _ _ _ _ { tmps := List.toArray (_ :: _ :: _ :: .pointer (some ⟨ba, 0, none⟩) :: _ :: _ :: _ :: _ :: _ :: .pointer (some ⟨b9, 0, none⟩) :: _ :: _ :: _ :: _ :: _ :: _ :: _ :: _ :: _ :: _ :: _ :: _ :: _ :: _ :: _ :: _ :: _ :: _ :: _ :: _ :: _ :: _ :: _ :: _ :: _ :: _ :: _ :: _ :: _ :: _ :: _ :: _ :: _ :: _ :: _ :: _ :: _ :: _ :: _ :: _ :: _ :: _ :: _ :: _ :: _ :: _ :: _ :: _ :: _ :: _ :: _ :: _ :: _ :: _ :: _ :: _ :: _ :: _ :: _ :: _ :: _ :: _ :: _ :: _ :: _ :: _ :: _ :: _ :: _ :: _ :: _ :: _ :: .agg #[.float .f64 a0, .float .f64 a1] :: .pointer (some ⟨b9, 0, none⟩) :: .float .f64 tw :: _ :: _ :: _ :: _ :: _ :: _ :: _ :: _ :: _ :: _ :: _ :: _ :: _ :: _ :: _ :: _ :: _ :: _ :: _ :: _ :: _ :: _ :: _ :: _ :: _ :: _ :: _ :: _ :: _ :: _ :: _ :: _ :: _ :: _ :: _ :: _ :: _ :: _ :: _ :: _ :: _ :: _ :: _ :: _ :: _ :: _ :: _ :: _ :: _ :: _ :: _ :: _ :: _ :: _ :: _ :: _ :: []), defers := [] } _
    refine wpAnyH_take (i := 3) (v := .agg #[.float .f64 0, .float .f64 tw]) rfl (by kernel_rfl) (by kernel_rfl) (by kernel_rfl) (fun _ _ _ h => h) (Or.inl ⟨by kernel_rfl, fun w hS => by go_simp⟩) hHeld ?_
    change wpAnyH _ _ _ _ _ _ _ { tmps := List.toArray (_ :: _ :: _ :: .pointer (some ⟨ba, 0, none⟩) :: _ :: _ :: _ :: _ :: _ :: .pointer (some ⟨b9, 0, none⟩) :: _ :: _ :: _ :: _ :: _ :: _ :: _ :: _ :: _ :: _ :: _ :: _ :: _ :: _ :: _ :: _ :: _ :: _ :: _ :: _ :: _ :: _ :: _ :: _ :: _ :: _ :: _ :: _ :: _ :: _ :: _ :: _ :: _ :: _ :: _ :: _ :: _ :: _ :: _ :: _ :: _ :: _ :: _ :: _ :: _ :: _ :: _ :: _ :: _ :: _ :: _ :: _ :: _ :: _ :: _ :: _ :: _ :: _ :: _ :: _ :: _ :: _ :: _ :: _ :: _ :: _ :: _ :: _ :: _ :: _ :: _ :: _ :: .agg #[.float .f64 a0, .float .f64 a1] :: .pointer (some ⟨b9, 0, none⟩) :: .float .f64 tw :: .agg #[.float .f64 0, .float .f64 tw] :: _ :: _ :: _ :: _ :: _ :: _ :: _ :: _ :: _ :: _ :: _ :: _ :: _ :: _ :: _ :: _ :: _ :: _ :: _ :: _ :: _ :: _ :: _ :: _ :: _ :: _ :: _ :: _ :: _ :: _ :: _ :: _ :: _ :: _ :: _ :: _ :: _ :: _ :: _ :: _ :: _ :: _ :: _ :: _ :: _ :: _ :: _ :: _ :: _ :: _ :: _ :: _ :: _ :: _ :: _ :: []), defers := [] } _
    refine wpAnyH_take (i := 5) (v := .pointer (some ⟨b9, 0, none⟩)) rfl (by kernel_rfl) (by kernel_rfl) (by kernel_rfl) (fun _ _ _ h => h) (Or.inl ⟨by kernel_rfl, fun w hS => by go_simp⟩) hHeld ?_
    change wpAnyH _ _ _ _ _ _ _ { tmps := List.toArray (_ :: _ :: _ :: .pointer (some ⟨ba, 0, none⟩) :: _ :: _ :: _ :: _ :: _ :: .pointer (some ⟨b9, 0, none⟩) :: _ :: _ :: _ :: _ :: _ :: _ :: _ :: _ :: _ :: _ :: _ :: _ :: _ :: _ :: _ :: _ :: _ :: _ :: _ :: _ :: _ :: _ :: _ :: _ :: _ :: _ :: _ :: _ :: _ :: _ :: _ :: _ :: _ :: _ :: _ :: _ :: _ :: _ :: _ :: _ :: _ :: _ :: _ :: _ :: _ :: _ :: _ :: _ :: _ :: _ :: _ :: _ :: _ :: _ :: _ :: _ :: _ :: _ :: _ :: _ :: _ :: _ :: _ :: _ :: _ :: _ :: _ :: _ :: _ :: _ :: _ :: _ :: .agg #[.float .f64 a0, .float .f64 a1] :: .pointer (some ⟨b9, 0, none⟩) :: .float .f64 tw :: .agg #[.float .f64 0, .float .f64 tw] :: _ :: .pointer (some ⟨b9, 0, none⟩) :: _ :: _ :: _ :: _ :: _ :: _ :: _ :: _ :: _ :: _ :: _ :: _ :: _ :: _ :: _ :: _ :: _ :: _ :: _ :: _ :: _ :: _ :: _ :: _ :: _ :: _ :: _ :: _ :: _ :: _ :: _ :: _ :: _ :: _ :: _ :: _ :: _ :: _ :: _ :: _ :: _ :: _ :: _ :: _ :: _ :: _ :: _ :: _ :: _ :: _ :: _ :: _ :: _ :: []), defers := [] } _
    refine wpAnyH_take (i := 6) (v := .float .f64 tw) rfl (by kernel_rfl) (by kernel_rfl) (by kernel_rfl) (fun _ _ _ h => h) (Or.inl ⟨by kernel_rfl, fun w hS => by (obtain ⟨hS0, hS1, hS2, hS3⟩ := hS; go_simp)⟩) hHeld ?_
    change wpAnyH _ _ _ _ _ _ _ { tmps := List.toArray (_ :: _ :: _ :: .pointer (some ⟨ba, 0, none⟩) :: _ :: _ :: _ :: _ :: _ :: .pointer (some ⟨b9, 0, none⟩) :: _ :: _ :: _ :: _ :: _ :: _ :: _ :: _ :: _ :: _ :: _ :: _ :: _ :: _ :: _ :: _ :: _ :: _ :: _ :: _ :: _ :: _ :: _ :: _ :: _ :: _ :: _ :: _ :: _ :: _ :: _ :: _ :: _ :: _ :: _ :: _ :: _ :: _ :: _ :: _ :: _ :: _ :: _ :: _ :: _ :: _ :: _ :: _ :: _ :: _ :: _ :: _ :: _ :: _ :: _ :: _ :: _ :: _ :: _ :: _ :: _ :: _ :: _ :: _ :: _ :: _ :: _ :: _ :: _ :: _ :: _ :: _ :: .agg #[.float .f64 a0, .float .f64 a1] :: .pointer (some ⟨b9, 0, none⟩) :: .float .f64 tw :: .agg #[.float .f64 0, .float .f64 tw] :: _ :: .pointer (some ⟨b9, 0, none⟩) :: .float .f64 tw :: _ :: _ :: _ :: _ :: _ :: _ :: _ :: _ :: _ :: _ :: _ :: _ :: _ :: _ :: _ :: _ :: _ :: _ :: _ :: _ :: _ :: _ :: _ :: _ :: _ :: _ :: _ :: _ :: _ :: _ :: _ :: _ :: _ :: _ :: _ :: _ :: _ :: _ :: _ :: _ :: _ :: _ :: _ :: _ :: _ :: _ :: _ :: _ :: _ :: _ :: _ :: _ :: []), defers := [] } _
    refine wpAnyH_take (i := 7) (v := .agg #[.float .f64 0, .float .f64 tw]) rfl (by kernel_rfl) (by kernel_rfl) (by kernel_rfl) (fun _ _ _ h => h) (Or.inl ⟨by kernel_rfl, fun w hS => by go_simp⟩) hHeld ?_
    change wpAnyH _ _ _ _ _ _ _ { tmps := List.toArray (_ :: _ :: _ :: .pointer (some ⟨ba, 0, none⟩) :: _ :: _ :: _ :: _ :: _ :: .pointer (some ⟨b9, 0, none⟩) :: _ :: _ :: _ :: _ :: _ :: _ :: _ :: _ :: _ :: _ :: _ :: _ :: _ :: _ :: _ :: _ :: _ :: _ :: _ :: _ :: _ :: _ :: _ :: _ :: _ :: _ :: _ :: _ :: _ :: _ :: _ :: _ :: _ :: _ :: _ :: _ :: _ :: _ :: _ :: _ :: _ :: _ :: _ :: _ :: _ :: _ :: _ :: _ :: _ :: _ :: _ :: _ :: _ :: _ :: _ :: _ :: _ :: _ :: _ :: _ :: _ :: _ :: _ :: _ :: _ :: _ :: _ :: _ :: _ :: _ :: _ :: _ :: .agg #[.float .f64 a0, .float .f64 a1] :: .pointer (some ⟨b9, 0, none⟩) :: .float .f64 tw :: .agg #[.float .f64 0, .float .f64 tw] :: _ :: .pointer (some ⟨b9, 0, none⟩) :: .float .f64 tw :: .agg #[.float .f64 0, .float .f64 tw] :: _ :: _ :: _ :: _ :: _ :: _ :: _ :: _ :: _ :: _ :: _ :: _ :: _ :: _ :: _ :: _ :: _ :: _ :: _ :: _ :: _ :: _ :: _ :: _ :: _ :: _ :: _ :: _ :: _ :: _ :: _ :: _ :: _ :: _ :: _ :: _ :: _ :: _ :: _ :: _ :: _ :: _ :: _ :: _ :: _ :: _ :: _ :: _ :: _ :: _ :: _ :: []), defers := [] } _
    refine wpAnyH_ready (rs := [4, 9]) (by kernel_rfl) (by simp) ?_
    refine (AllReadyH.cons rfl (fun KK hK => ?_) (AllReadyH.cons rfl (fun KK hK => ?_) AllReadyH.nil))
    · skip
      go_simp
      refine (cZMulI2 a0 a1 0 tw _).mono ?_
      rintro e wc1 ⟨m0, m1, rfl, hM, hb⟩
      have Bc := btrans B0d hb
      clear hb
      go_wp2_with fail
      clear hHeld
      refine hK.out _ _ (by obtain ⟨⟨k0, k1⟩, -⟩ := twoC (keepB Bc KA); obtain ⟨⟨k2, k3⟩, -⟩ := twoC (keepB Bc K9); exact ⟨k0, k1, k2, k3⟩) (fun hHeld => ?_)
      clear hK KK
      change wpAnyH _ _ _ _ _ _ _ { tmps := List.toArray (_ :: _ :: _ :: .pointer (some ⟨ba, 0, none⟩) :: _ :: _ :: _ :: _ :: _ :: .pointer (some ⟨b9, 0, none⟩) :: _ :: _ :: _ :: _ :: _ :: _ :: _ :: _ :: _ :: _ :: _ :: _ :: _ :: _ :: _ :: _ :: _ :: _ :: _ :: _ :: _ :: _ :: _ :: _ :: _ :: _ :: _ :: _ :: _ :: _ :: _ :: _ :: _ :: _ :: _ :: _ :: _ :: _ :: _ :: _ :: _ :: _ :: _ :: _ :: _ :: _ :: _ :: _ :: _ :: _ :: _ :: _ :: _ :: _ :: _ :: _ :: _ :: _ :: _ :: _ :: _ :: _ :: _ :: _ :: _ :: _ :: _ :: _ :: _ :: _ :: _ :: _ :: .agg #[.float .f64 a0, .float .f64 a1] :: .pointer (some ⟨b9, 0, none⟩) :: .float .f64 tw :: .agg #[.float .f64 0, .float .f64 tw] :: .agg #[.float .f64 m0, .float .f64 m1] :: .pointer (some ⟨b9, 0, none⟩) :: .float .f64 tw :: .agg #[.float .f64 0, .float .f64 tw] :: _ :: _ :: _ :: _ :: _ :: _ :: _ :: _ :: _ :: _ :: _ :: _ :: _ :: _ :: _ :: _ :: _ :: _ :: _ :: _ :: _ :: _ :: _ :: _ :: _ :: _ :: _ :: _ :: _ :: _ :: _ :: _ :: _ :: _ :: _ :: _ :: _ :: _ :: _ :: _ :: _ :: _ :: _ :: _ :: _ :: _ :: _ :: _ :: _ :: _ :: _ :: []), defers := [] } _
      refine wpAnyH_ready (rs := [8, 9]) (by kernel_rfl) (by simp) ?_
      refine (AllReadyH.cons rfl (fun KK hK => ?_) (AllReadyH.cons rfl (fun KK hK => ?_) AllReadyH.nil))
      · skip
        go_simp
        refine (cZDivI2 m0 m1 0 tw _).mono ?_
        rintro e wc2 ⟨p, q, rfl, hV, hb⟩
        have Bd := btrans Bc hb
        clear hb
        rw [hM] at hV
        go_wp2_with fail
        clear hHeld
        refine hK.out _ _ (by obtain ⟨⟨k0, k1⟩, -⟩ := twoC (keepB Bd KA); obtain ⟨⟨k2, k3⟩, -⟩ := twoC (keepB Bd K9); exact ⟨k0, k1, k2, k3⟩) (fun hHeld => ?_)
        clear hK KK
        change wpAnyH _ _ _ _ _ _ _ { tmps := List.toArray (_ :: _ :: _ :: .pointer (some ⟨ba, 0, none⟩) :: _ :: _ :: _ :: _ :: _ :: .pointer (some ⟨b9, 0, none⟩) :: _ :: _ :: _ :: _ :: _ :: _ :: _ :: _ :: _ :: _ :: _ :: _ :: _ :: _ :: _ :: _ :: _ :: _ :: _ :: _ :: _ :: _ :: _ :: _ :: _ :: _ :: _ :: _ :: _ :: _ :: _ :: _ :: _ :: _ :: _ :: _ :: _ :: _ :: _ :: _ :: _ :: _ :: _ :: _ :: _ :: _ :: _ :: _ :: _ :: _ :: _ :: _ :: _ :: _ :: _ :: _ :: _ :: _ :: _ :: _ :: _ :: _ :: _ :: _ :: _ :: _ :: _ :: _ :: _ :: _ :: _ :: _ :: .agg #[.float .f64 a0, .float .f64 a1] :: .pointer (some ⟨b9, 0, none⟩) :: .float .f64 tw :: .agg #[.float .f64 0, .float .f64 tw] :: .agg #[.float .f64 m0, .float .f64 m1] :: .pointer (some ⟨b9, 0, none⟩) :: .float .f64 tw :: .agg #[.float .f64 0, .float .f64 tw] :: .agg #[.float .f64 p, .float .f64 q] :: _ :: _ :: _ :: _ :: _ :: _ :: _ :: _ :: _ :: _ :: _ :: _ :: _ :: _ :: _ :: _ :: _ :: _ :: _ :: _ :: _ :: _ :: _ :: _ :: _ :: _ :: _ :: _ :: _ :: _ :: _ :: _ :: _ :: _ :: _ :: _ :: _ :: _ :: _ :: _ :: _ :: _ :: _ :: _ :: _ :: _ :: _ :: _ :: _ :: _ :: []), defers := [] } _
        refine wpAnyH_ready (rs := [9]) (by kernel_rfl) (by simp) ?_
        refine (AllReadyH.cons rfl (fun KK hK => ?_) AllReadyH.nil)
        go_simp
        have hbz := balloc wc2 (.cells #[.float .f64 0, .float .f64 0] 26)
        have zB : (wc2.alloc (.cells #[.float .f64 0, .float .f64 0] 26)).heap[wc2.heap.size]? = some (.cells #[.float .f64 0, .float .f64 0] 26 (0, 0)) := one_block wc2 _
        have zlo : w9.heap.size ≤ wc2.heap.size := Bd.size
        have Bz := btrans Bd hbz
        clear hbz
        generalize wc2.heap.size = bz at *
        generalize wc2.alloc (.cells #[.float .f64 0, .float .f64 0] 26) = wz at *
        clear hHeld
        refine hK.out _ _ (by obtain ⟨⟨k0, k1⟩, -⟩ := twoC (keepB Bz KA); obtain ⟨⟨k2, k3⟩, -⟩ := twoC (keepB Bz K9); exact ⟨k0, k1, k2, k3⟩) (fun hHeld => ?_)
        clear hK KK
        change wpAnyH _ _ _ _ _ _ _ { tmps := List.toArray (_ :: _ :: _ :: .pointer (some ⟨ba, 0, none⟩) :: _ :: _ :: _ :: _ :: _ :: .pointer (some ⟨b9, 0, none⟩) :: _ :: .pointer (some ⟨bz, 0, none⟩) :: _ :: _ :: _ :: _ :: _ :: _ :: _ :: _ :: _ :: _ :: _ :: _ :: _ :: _ :: _ :: _ :: _ :: _ :: _ :: _ :: _ :: _ :: _ :: _ :: _ :: _ :: _ :: _ :: _ :: _ :: _ :: _ :: _ :: _ :: _ :: _ :: _ :: _ :: _ :: _ :: _ :: _ :: _ :: _ :: _ :: _ :: _ :: _ :: _ :: _ :: _ :: _ :: _ :: _ :: _ :: _ :: _ :: _ :: _ :: _ :: _ :: _ :: _ :: _ :: _ :: _ :: _ :: _ :: _ :: _ :: .agg #[.float .f64 a0, .float .f64 a1] :: .pointer (some ⟨b9, 0, none⟩) :: .float .f64 tw :: .agg #[.float .f64 0, .float .f64 tw] :: .agg #[.float .f64 m0, .float .f64 m1] :: .pointer (some ⟨b9, 0, none⟩) :: .float .f64 tw :: .agg #[.float .f64 0, .float .f64 tw] :: .agg #[.float .f64 p, .float .f64 q] :: _ :: _ :: _ :: _ :: _ :: _ :: _ :: _ :: _ :: _ :: _ :: _ :: _ :: _ :: _ :: _ :: _ :: _ :: _ :: _ :: _ :: _ :: _ :: _ :: _ :: _ :: _ :: _ :: _ :: _ :: _ :: _ :: _ :: _ :: _ :: _ :: _ :: _ :: _ :: _ :: _ :: _ :: _ :: _ :: _ :: _ :: _ :: _ :: _ :: _ :: []), defers := [] } _
        refine wpAnyH_ready (rs := [10]) (by kernel_rfl) (by simp) ?_
        refine (AllReadyH.cons rfl (fun KK hK => ?_) AllReadyH.nil)
        obtain ⟨⟨m2, m3⟩, y0, y1⟩ := twoC zB
        have Bs : Below w9.heap.size w9 ((wz.setCell ⟨bz, 0, none⟩ (.float .f64 p)).setCell ⟨bz, 1, none⟩ (.float .f64 q)) := below_set zlo (below_set zlo Bz)
        go_simp
        clear hHeld
        refine hK.out _ _ (by obtain ⟨⟨k0, k1⟩, -⟩ := twoC (keepB Bs KA); obtain ⟨⟨k2, k3⟩, -⟩ := twoC (keepB Bs K9); exact ⟨k0, k1, k2, k3⟩) (fun hHeld => ?_)
        clear hK KK
        change wpAnyH _ _ _ _ _ _ _ { tmps := List.toArray (_ :: _ :: _ :: .pointer (some ⟨ba, 0, none⟩) :: _ :: _ :: _ :: _ :: _ :: .pointer (some ⟨b9, 0, none⟩) :: _ :: .pointer (some ⟨bz, 0, none⟩) :: _ :: _ :: _ :: _ :: _ :: _ :: _ :: _ :: _ :: _ :: _ :: _ :: _ :: _ :: _ :: _ :: _ :: _ :: _ :: _ :: _ :: _ :: _ :: _ :: _ :: _ :: _ :: _ :: _ :: _ :: _ :: _ :: _ :: _ :: _ :: _ :: _ :: _ :: _ :: _ :: _ :: _ :: _ :: _ :: _ :: _ :: _ :: _ :: _ :: _ :: _ :: _ :: _ :: _ :: _ :: _ :: _ :: _ :: _ :: _ :: _ :: _ :: _ :: _ :: _ :: _ :: _ :: _ :: _ :: _ :: .agg #[.float .f64 a0, .float .f64 a1] :: .pointer (some ⟨b9, 0, none⟩) :: .float .f64 tw :: .agg #[.float .f64 0, .float .f64 tw] :: .agg #[.float .f64 m0, .float .f64 m1] :: .pointer (some ⟨b9, 0, none⟩) :: .float .f64 tw :: .agg #[.float .f64 0, .float .f64 tw] :: .agg #[.float .f64 p, .float .f64 q] :: _ :: _ :: _ :: _ :: _ :: _ :: _ :: _ :: _ :: _ :: _ :: _ :: _ :: _ :: _ :: _ :: _ :: _ :: _ :: _ :: _ :: _ :: _ :: _ :: _ :: _ :: _ :: _ :: _ :: _ :: _ :: _ :: _ :: _ :: _ :: _ :: _ :: _ :: _ :: _ :: _ :: _ :: _ :: _ :: _ :: _ :: _ :: _ :: _ :: _ :: []), defers := [] } _
        refine wpAnyH_done (by kernel_rfl) ?_ _
        go_wp2_with fail
        go_meet
        exact gotS Bz zB zlo hV
      · skip
        go_simp
        have hbz := balloc wc1 (.cells #[.float .f64 0, .float .f64 0] 26)
        have zB : (wc1.alloc (.cells #[.float .f64 0, .float .f64 0] 26)).heap[wc1.heap.size]? = some (.cells #[.float .f64 0, .float .f64 0] 26 (0, 0)) := one_block wc1 _
        have zlo : w9.heap.size ≤ wc1.heap.size := Bc.size
        have Bz := btrans Bc hbz
        clear hbz
        generalize wc1.heap.size = bz at *
        generalize wc1.alloc (.cells #[.float .f64 0, .float .f64 0] 26) = wz at *
        clear hHeld
        refine hK.out _ _ (by obtain ⟨⟨k0, k1⟩, -⟩ := twoC (keepB Bz KA); obtain ⟨⟨k2, k3⟩, -⟩ := twoC (keepB Bz K9); exact ⟨k0, k1, k2, k3⟩) (fun hHeld => ?_)
        clear hK KK
        change wpAnyH _ _ _ _ _ _ _ { tmps := List.toArray (_ :: _ :: _ :: .pointer (some ⟨ba, 0, none⟩) :: _ :: _ :: _ :: _ :: _ :: .pointer (some ⟨b9, 0, none⟩) :: _ :: .pointer (some ⟨bz, 0, none⟩) :: _ :: _ :: _ :: _ :: _ :: _ :: _ :: _ :: _ :: _ :: _ :: _ :: _ :: _ :: _ :: _ :: _ :: _ :: _ :: _ :: _ :: _ :: _ :: _ :: _ :: _ :: _ :: _ :: _ :: _ :: _ :: _ :: _ :: _ :: _ :: _ :: _ :: _ :: _ :: _ :: _ :: _ :: _ :: _ :: _ :: _ :: _ :: _ :: _ :: _ :: _ :: _ :: _ :: _ :: _ :: _ :: _ :: _ :: _ :: _ :: _ :: _ :: _ :: _ :: _ :: _ :: _ :: _ :: _ :: _ :: .agg #[.float .f64 a0, .float .f64 a1] :: .pointer (some ⟨b9, 0, none⟩) :: .float .f64 tw :: .agg #[.float .f64 0, .float .f64 tw] :: .agg #[.float .f64 m0, .float .f64 m1] :: .pointer (some ⟨b9, 0, none⟩) :: .float .f64 tw :: .agg #[.float .f64 0, .float .f64 tw] :: _ :: _ :: _ :: _ :: _ :: _ :: _ :: _ :: _ :: _ :: _ :: _ :: _ :: _ :: _ :: _ :: _ :: _ :: _ :: _ :: _ :: _ :: _ :: _ :: _ :: _ :: _ :: _ :: _ :: _ :: _ :: _ :: _ :: _ :: _ :: _ :: _ :: _ :: _ :: _ :: _ :: _ :: _ :: _ :: _ :: _ :: _ :: _ :: _ :: _ :: _ :: []), defers := [] } _
        refine wpAnyH_ready (rs := [8]) (by kernel_rfl) (by simp) ?_
        refine (AllReadyH.cons rfl (fun KK hK => ?_) AllReadyH.nil)
        go_simp
        refine (cZDivI2 m0 m1 0 tw _).mono ?_
        rintro e wc2 ⟨p, q, rfl, hV, hb⟩
        have Bd := btrans Bz hb
        have zB := keepB hb zB
        clear hb
        rw [hM] at hV
        go_wp2_with fail
        clear hHeld
        refine hK.out _ _ (by obtain ⟨⟨k0, k1⟩, -⟩ := twoC (keepB Bd KA); obtain ⟨⟨k2, k3⟩, -⟩ := twoC (keepB Bd K9); exact ⟨k0, k1, k2, k3⟩) (fun hHeld => ?_)
        clear hK KK
        change wpAnyH _ _ _ _ _ _ _ { tmps := List.toArray (_ :: _ :: _ :: .pointer (some ⟨ba, 0, none⟩) :: _ :: _ :: _ :: _ :: _ :: .pointer (some ⟨b9, 0, none⟩) :: _ :: .pointer (some ⟨bz, 0, none⟩) :: _ :: _ :: _ :: _ :: _ :: _ :: _ :: _ :: _ :: _ :: _ :: _ :: _ :: _ :: _ :: _ :: _ :: _ :: _ :: _ :: _ :: _ :: _ :: _ :: _ :: _ :: _ :: _ :: _ :: _ :: _ :: _ :: _ :: _ :: _ :: _ :: _ :: _ :: _ :: _ :: _ :: _ :: _ :: _ :: _ :: _ :: _ :: _ :: _ :: _ :: _ :: _ :: _ :: _ :: _ :: _ :: _ :: _ :: _ :: _ :: _ :: _ :: _ :: _ :: _ :: _ :: _ :: _ :: _ :: _ :: .agg #[.float .f64 a0, .float .f64 a1] :: .pointer (some ⟨b9, 0, none⟩) :: .float .f64 tw :: .agg #[.float .f64 0, .float .f64 tw] :: .agg #[.float .f64 m0, .float .f64 m1] :: .pointer (some ⟨b9, 0, none⟩) :: .float .f64 tw :: .agg #[.float .f64 0, .float .f64 tw] :: .agg #[.float .f64 p, .float .f64 q] :: _ :: _ :: _ :: _ :: _ :: _ :: _ :: _ :: _ :: _ :: _ :: _ :: _ :: _ :: _ :: _ :: _ :: _ :: _ :: _ :: _ :: _ :: _ :: _ :: _ :: _ :: _ :: _ :: _ :: _ :: _ :: _ :: _ :: _ :: _ :: _ :: _ :: _ :: _ :: _ :: _ :: _ :: _ :: _ :: _ :: _ :: _ :: _ :: _ :: _ :: []), defers := [] } _
        refine wpAnyH_ready (rs := [10]) (by kernel_rfl) (by simp) ?_
        refine (AllReadyH.cons rfl (fun KK hK => ?_) AllReadyH.nil)
        obtain ⟨⟨m2, m3⟩, y0, y1⟩ := twoC zB
        have Bs : Below w9.heap.size w9 ((wc2.setCell ⟨bz, 0, none⟩ (.float .f64 p)).setCell ⟨bz, 1, none⟩ (.float .f64 q)) := below_set zlo (below_set zlo Bd)
        go_simp
        clear hHeld
        refine hK.out _ _ (by obtain ⟨⟨k0, k1⟩, -⟩ := twoC (keepB Bs KA); obtain ⟨⟨k2, k3⟩, -⟩ := twoC (keepB Bs K9); exact ⟨k0, k1, k2, k3⟩) (fun hHeld => ?_)
        clear hK KK
        change wpAnyH _ _ _ _ _ _ _ { tmps := List.toArray (_ :: _ :: _ :: .pointer (some ⟨ba, 0, none⟩) :: _ :: _ :: _ :: _ :: _ :: .pointer (some ⟨b9, 0, none⟩) :: _ :: .pointer (some ⟨bz, 0, none⟩) :: _ :: _ :: _ :: _ :: _ :: _ :: _ :: _ :: _ :: _ :: _ :: _ :: _ :: _ :: _ :: _ :: _ :: _ :: _ :: _ :: _ :: _ :: _ :: _ :: _ :: _ :: _ :: _ :: _ :: _ :: _ :: _ :: _ :: _ :: _ :: _ :: _ :: _ :: _ :: _ :: _ :: _ :: _ :: _ :: _ :: _ :: _ :: _ :: _ :: _ :: _ :: _ :: _ :: _ :: _ :: _ :: _ :: _ :: _ :: _ :: _ :: _ :: _ :: _ :: _ :: _ :: _ :: _ :: _ :: _ :: .agg #[.float .f64 a0, .float .f64 a1] :: .pointer (some ⟨b9, 0, none⟩) :: .float .f64 tw :: .agg #[.float .f64 0, .float .f64 tw] :: .agg #[.float .f64 m0, .float .f64 m1] :: .pointer (some ⟨b9, 0, none⟩) :: .float .f64 tw :: .agg #[.float .f64 0, .float .f64 tw] :: .agg #[.float .f64 p, .float .f64 q] :: _ :: _ :: _ :: _ :: _ :: _ :: _ :: _ :: _ :: _ :: _ :: _ :: _ :: _ :: _ :: _ :: _ :: _ :: _ :: _ :: _ :: _ :: _ :: _ :: _ :: _ :: _ :: _ :: _ :: _ :: _ :: _ :: _ :: _ :: _ :: _ :: _ :: _ :: _ :: _ :: _ :: _ :: _ :: _ :: _ :: _ :: _ :: _ :: _ :: _ :: []), defers := [] } _
        refine wpAnyH_done (by kernel_rfl) ?_ _
        go_wp2_with fail
        go_meet
        exact gotS Bd zB zlo hV
    · skip
      go_simp
      have hbz := balloc wd (.cells #[.float .f64 0, .float .f64 0] 26)
      have zB : (wd.alloc (.cells #[.float .f64 0, .float .f64 0] 26)).heap[wd.heap.size]? = some (.cells #[.float .f64 0, .float .f64 0] 26 (0, 0)) := one_block wd _
      have zlo : w9.heap.size ≤ wd.heap.size := B0d.size
      have Bz := btrans B0d hbz
      clear hbz
      generalize wd.heap.size = bz at *
      generalize wd.alloc (.cells #[.float .f64 0, .float .f64 0] 26) = wz at *
      clear hHeld
      refine hK.out _ _ (by obtain ⟨⟨k0, k1⟩, -⟩ := twoC (keepB Bz KA); obtain ⟨⟨k2, k3⟩, -⟩ := twoC (keepB Bz K9); exact ⟨k0, k1, k2, k3⟩) (fun hHeld => ?_)
      clear hK KK
      change wpAnyH _ _ _ _ _ _ _ { tmps := List.toArray (_ :: _ :: _ :: .pointer (some ⟨ba, 0, none⟩) :: _ :: _ :: _ :: _ :: _ :: .pointer (some ⟨b9, 0, none⟩) :: _ :: .pointer (some ⟨bz, 0, none⟩) :: _ :: _ :: _ :: _ :: _ :: _ :: _ :: _ :: _ :: _ :: _ :: _ :: _ :: _ :: _ :: _ :: _ :: _ :: _ :: _ :: _ :: _ :: _ :: _ :: _ :: _ :: _ :: _ :: _ :: _ :: _ :: _ :: _ :: _ :: _ :: _ :: _ :: _ :: _ :: _ :: _ :: _ :: _ :: _ :: _ :: _ :: _ :: _ :: _ :: _ :: _ :: _ :: _ :: _ :: _ :: _ :: _ :: _ :: _ :: _ :: _ :: _ :: _ :: _ :: _ :: _ :: _ :: _ :: _ :: _ :: .agg #[.float .f64 a0, .float .f64 a1] :: .pointer (some ⟨b9, 0, none⟩) :: .float .f64 tw :: .agg #[.float .f64 0, .float .f64 tw] :: _ :: .pointer (some ⟨b9, 0, none⟩) :: .float .f64 tw :: .agg #[.float .f64 0, .float .f64 tw] :: _ :: _ :: _ :: _ :: _ :: _ :: _ :: _ :: _ :: _ :: _ :: _ :: _ :: _ :: _ :: _ :: _ :: _ :: _ :: _ :: _ :: _ :: _ :: _ :: _ :: _ :: _ :: _ :: _ :: _ :: _ :: _ :: _ :: _ :: _ :: _ :: _ :: _ :: _ :: _ :: _ :: _ :: _ :: _ :: _ :: _ :: _ :: _ :: _ :: _ :: _ :: []), defers := [] } _
      refine wpAnyH_ready (rs := [4]) (by kernel_rfl) (by simp) ?_
      refine (AllReadyH.cons rfl (fun KK hK => ?_) AllReadyH.nil)
      go_simp
      refine (cZMulI2 a0 a1 0 tw _).mono ?_
      rintro e wc1 ⟨m0, m1, rfl, hM, hb⟩
      have Bc := btrans Bz hb
      have zB := keepB hb zB
      clear hb
      go_wp2_with fail
      clear hHeld
      refine hK.out _ _ (by obtain ⟨⟨k0, k1⟩, -⟩ := twoC (keepB Bc KA); obtain ⟨⟨k2, k3⟩, -⟩ := twoC (keepB Bc K9); exact ⟨k0, k1, k2, k3⟩) (fun hHeld => ?_)
      clear hK KK
      change wpAnyH _ _ _ _ _ _ _ { tmps := List.toArray (_ :: _ :: _ :: .pointer (some ⟨ba, 0, none⟩) :: _ :: _ :: _ :: _ :: _ :: .pointer (some ⟨b9, 0, none⟩) :: _ :: .pointer (some ⟨bz, 0, none⟩) :: _ :: _ :: _ :: _ :: _ :: _ :: _ :: _ :: _ :: _ :: _ :: _ :: _ :: _ :: _ :: _ :: _ :: _ :: _ :: _ :: _ :: _ :: _ :: _ :: _ :: _ :: _ :: _ :: _ :: _ :: _ :: _ :: _ :: _ :: _ :: _ :: _ :: _ :: _ :: _ :: _ :: _ :: _ :: _ :: _ :: _ :: _ :: _ :: _ :: _ :: _ :: _ :: _ :: _ :: _ :: _ :: _ :: _ :: _ :: _ :: _ :: _ :: _ :: _ :: _ :: _ :: _ :: _ :: _ :: _ :: .agg #[.float .f64 a0, .float .f64 a1] :: .pointer (some ⟨b9, 0, none⟩) :: .float .f64 tw :: .agg #[.float .f64 0, .float .f64 tw] :: .agg #[.float .f64 m0, .float .f64 m1] :: .pointer (some ⟨b9, 0, none⟩) :: .float .f64 tw :: .agg #[.float .f64 0, .float .f64 tw] :: _ :: _ :: _ :: _ :: _ :: _ :: _ :: _ :: _ :: _ :: _ :: _ :: _ :: _ :: _ :: _ :: _ :: _ :: _ :: _ :: _ :: _ :: _ :: _ :: _ :: _ :: _ :: _ :: _ :: _ :: _ :: _ :: _ :: _ :: _ :: _ :: _ :: _ :: _ :: _ :: _ :: _ :: _ :: _ :: _ :: _ :: _ :: _ :: _ :: _ :: _ :: []), defers := [] } _
      refine wpAnyH_ready (rs := [8]) (by kernel_rfl) (by simp) ?_
      refine (AllReadyH.cons rfl (fun KK hK => ?_) AllReadyH.nil)
      go_simp
      refine (cZDivI2 m0 m1 0 tw _).mono ?_
      rintro e wc2 ⟨p, q, rfl, hV, hb⟩
      have Bd := btrans Bc hb
      have zB := keepB hb zB
      clear hb
      rw [hM] at hV
      go_wp2_with fail
      clear hHeld
      refine hK.out _ _ (by obtain ⟨⟨k0, k1⟩, -⟩ := twoC (keepB Bd KA); obtain ⟨⟨k2, k3⟩, -⟩ := twoC (keepB Bd K9); exact ⟨k0, k1, k2, k3⟩) (fun hHeld => ?_)
      clear hK KK
      change wpAnyH _ _ _ _ _ _ _ { tmps := List.toArray (_ :: _ :: _ :: .pointer (some ⟨ba, 0, none⟩) :: _ :: _ :: _ :: _ :: _ :: .pointer (some ⟨b9, 0, none⟩) :: _ :: .pointer (some ⟨bz, 0, none⟩) :: _ :: _ :: _ :: _ :: _ :: _ :: _ :: _ :: _ :: _ :: _ :: _ :: _ :: _ :: _ :: _ :: _ :: _ :: _ :: _ :: _ :: _ :: _ :: _ :: _ :: _ :: _ :: _ :: _ :: _ :: _ :: _ :: _ :: _ :: _ :: _ :: _ :: _ :: _ :: _ :: _ :: _ :: _ :: _ :: _ :: _ :: _ :: _ :: _ :: _ :: _ :: _ :: _ :: _ :: _ :: _ :: _ :: _ :: _ :: _ :: _ :: _ :: _ :: _ :: _ :: _ :: _ :: _ :: _ :: _ :: .agg #[.float .f64 a0, .float .f64 a1] :: .pointer (some ⟨b9, 0, none⟩) :: .float .f64 tw :: .agg #[.float .f64 0, .float .f64 tw] :: .agg #[.float .f64 m0, .float .f64 m1] :: .pointer (some ⟨b9, 0, none⟩) :: .float .f64 tw :: .agg #[.float .f64 0, .float .f64 tw] :: .agg #[.float .f64 p, .float .f64 q] :: _ :: _ :: _ :: _ :: _ :: _ :: _ :: _ :: _ :: _ :: _ :: _ :: _ :: _ :: _ :: _ :: _ :: _ :: _ :: _ :: _ :: _ :: _ :: _ :: _ :: _ :: _ :: _ :: _ :: _ :: _ :: _ :: _ :: _ :: _ :: _ :: _ :: _ :: _ :: _ :: _ :: _ :: _ :: _ :: _ :: _ :: _ :: _ :: _ :: _ :: []), defers := [] } _
      refine wpAnyH_ready (rs := [10]) (by kernel_rfl) (by simp) ?_
      refine (AllReadyH.cons rfl (fun KK hK => ?_) AllReadyH.nil)
      obtain ⟨⟨m2, m3⟩, y0, y1⟩ := twoC zB
      have Bs : Below w9.heap.size w9 ((wc2.setCell ⟨bz, 0, none⟩ (.float .f64 p)).setCell ⟨bz, 1, none⟩ (.float .f64 q)) := below_set zlo (below_set zlo Bd)
      go_simp
      clear hHeld
      refine hK.out _ _ (by obtain ⟨⟨k0, k1⟩, -⟩ := twoC (keepB Bs KA); obtain ⟨⟨k2, k3⟩, -⟩ := twoC (keepB Bs K9); exact ⟨k0, k1, k2, k3⟩) (fun hHeld => ?_)
      clear hK KK
      change wpAnyH _ _ _ _ _ _ _ { tmps := List.toArray (_ :: _ :: _ :: .pointer (some ⟨ba, 0, none⟩) :: _ :: _ :: _ :: _ :: _ :: .pointer (some ⟨b9, 0, none⟩) :: _ :: .pointer (some ⟨bz, 0, none⟩) :: _ :: _ :: _ :: _ :: _ :: _ :: _ :: _ :: _ :: _ :: _ :: _ :: _ :: _ :: _ :: _ :: _ :: _ :: _ :: _ :: _ :: _ :: _ :: _ :: _ :: _ :: _ :: _ :: _ :: _ :: _ :: _ :: _ :: _ :: _ :: _ :: _ :: _ :: _ :: _ :: _ :: _ :: _ :: _ :: _ :: _ :: _ :: _ :: _ :: _ :: _ :: _ :: _ :: _ :: _ :: _ :: _ :: _ :: _ :: _ :: _ :: _ :: _ :: _ :: _ :: _ :: _ :: _ :: _ :: _ :: .agg #[.float .f64 a0, .float .f64 a1] :: .pointer (some ⟨b9, 0, none⟩) :: .float .f64 tw :: .agg #[.float .f64 0, .float .f64 tw] :: .agg #[.float .f64 m0, .float .f64 m1] :: .pointer (some ⟨b9, 0, none⟩) :: .float .f64 tw :: .agg #[.float .f64 0, .float .f64 tw] :: .agg #[.float .f64 p, .float .f64 q] :: _ :: _ :: _ :: _ :: _ :: _ :: _ :: _ :: _ :: _ :: _ :: _ :: _ :: _ :: _ :: _ :: _ :: _ :: _ :: _ :: _ :: _ :: _ :: _ :: _ :: _ :: _ :: _ :: _ :: _ :: _ :: _ :: _ :: _ :: _ :: _ :: _ :: _ :: _ :: _ :: _ :: _ :: _ :: _ :: _ :: _ :: _ :: _ :: _ :: _ :: []), defers := [] } _
      refine wpAnyH_done (by kernel_rfl) ?_ _
      go_wp2_with fail
      go_meet
      exact gotS Bd zB zlo hV
  case rest =>
  obtain ⟨⟨b11, f0, f1, rfl, K11, hCe, -⟩, hb⟩ := hcut
  replace HB4 := btrans HB4 hb
  replace KA := keepB hb KA
  replace KB := keepB hb KB
  replace K7 := keepB hb K7
  replace K8 := keepB hb K8
  replace K10 := keepB hb K10
  clear hb c0 c1 c2 c3 K9
  generalize wc = wA at *
  obtain ⟨T, hTT⟩ : ∃ T : Int, T = ((2 ^ t : Nat) : Int) := ⟨_, rfl⟩
  have hT0 : 0 ≤ T := by rw [hTT]; exact Int.natCast_nonneg _
  have hT1 : T ≤ 128 := by rw [hTT]; exact Int.ofNat_le.2 hT2
  have hTsq : T * T = ((2 ^ (t + t) : Nat) : Int) := by rw [hTT, Nat.pow_add, Int.natCast_mul]
  rw [← hTT] at hTd
  have D2 : DC 0 T 0 (ZV.c ⟨tw, 0⟩) := ⟨hTd.cl, (Dq.zero 0).cl⟩
  have D3 : DC 0 0 T (ZV.c ⟨0, tw⟩) := ⟨(Dq.zero 0).cl, hTd.cl⟩
  have S2 := zsize_D (N := 128) D2 (by decide) (by omega) (by omega) (by omega) (by omega) (by decide)
  have S3 := zsize_D (N := 128) D3 (by decide) (by omega) (by omega) (by omega) (by omega) (by decide)
  rw [show T * T + 0 * 0 = T * T by omega, hTsq] at S2
  rw [show 0 * 0 + T * T = T * T by omega, hTsq] at S3
  have m0 := mb (n := A0) (m := T) (N := 128) (M := 128) (by omega) (by omega) (by omega) (by omega)
  have m1 := mb (n := A1) (m := T) (N := 128) (M := 128) (by omega) (by omega) (by omega) (by omega)
  have M2 := zmul_D (N := 128) (M := 128) hDA D2 (by decide) (by omega) (by omega) (by omega) (by omega) (by omega) (by omega) (by omega) (by omega) (by decide)
  have M3 := zmul_D (N := 128) (M := 128) hDA D3 (by decide) (by omega) (by omega) (by omega) (by omega) (by omega) (by omega) (by omega) (by omega) (by decide)
  rw [show A0 * T - A1 * 0 = A0 * T by omega, show A0 * 0 + A1 * T = A1 * T by omega] at M2
  rw [show A0 * 0 - A1 * T = -(A1 * T) by omega, show A0 * T + A1 * 0 = A0 * T by omega] at M3
  have V2 := zdiv_D (N := 16384) (M := 128) M2 D2 S2 (by omega) (by omega) (by omega) (by omega) (by omega) (by omega) (by omega) (by omega) (by omega) (by omega) (by decide)
  have V3 := zdiv_D (N := 16384) (M := 128) M3 D3 S3 (by omega) (by omega) (by omega) (by omega) (by omega) (by omega) (by omega) (by omega) (by omega) (by omega) (by decide)
  rw [← hCd, show A0 * T * T + A1 * T * 0 = A0 * (T * T) by grind, show A1 * T * T - A0 * T * 0 = A1 * (T * T) by grind] at V2
  rw [← hCe, show -(A1 * T) * 0 + A0 * T * T = A0 * (T * T) by grind, show A0 * T * 0 - -(A1 * T) * T = A1 * (T * T) by grind] at V3
  have U0 := hDA.1.up (l := 2 + 0 + (t + t)) (by omega) (by omega)
  have U1 := hDA.2.up (l := 2 + 0 + (t + t)) (by omega) (by omega)
  rw [show 2 + 0 + (t + t) - 2 = t + t by omega, ← hTsq] at U0 U1
  have o1 : FloatKind.f64.format.order d0 a0 = some .eq := eq_of V2.1 U0
  have o2 : FloatKind.f64.format.order d1 a1 = some .eq := eq_of V2.2 U1
  have o3 : FloatKind.f64.format.order f0 a0 = some .eq := eq_of V3.1 U0
  have o4 : FloatKind.f64.format.order f1 a1 = some .eq := eq_of V3.2 U1
  have G1 := zadd_D (N := 128) hDA hDB (by decide) (by omega) (by omega) (by omega) (by omega) (by omega) (by omega) (by omega) (by omega) (by decide)
  have G2 := zadd_D (N := 128) hDB hDA (by decide) (by omega) (by omega) (by omega) (by omega) (by omega) (by omega) (by omega) (by omega) (by decide)
  rw [← hS] at G1
  rw [← hR, Int.add_comm B0 A0, Int.add_comm B1 A1] at G2
  have o5 : FloatKind.f64.format.order g0 r0 = some .eq := eq_of G1.1 G2.1
  have o6 : FloatKind.f64.format.order g1 r1 = some .eq := eq_of G1.2 G2.2
  obtain ⟨r9, hr1, hr2⟩ := hA0.of.add hB0.of (by decide) (by omega)
  have hr3 := fopD hr1
  have o7 : FloatKind.f64.format.order g0 r9 = some .eq := eq_of G1.1 hr2.cl
  clear V2 V3 U0 U1 G1 G2 M2 M3 S2 S3 D2 D3 m0 m1 hr1 hr2 hTsq hTT hTd hCd hCe hS hR hDA hDB hA0 hA1 hB0 hB1
  obtain ⟨⟨c0, c1⟩, -⟩ := twoC KA
  obtain ⟨⟨c2, c3⟩, -⟩ := twoC KB
  obtain ⟨⟨c4, c5⟩, -⟩ := twoC K7
  obtain ⟨⟨c6, c7⟩, -⟩ := twoC K8
  obtain ⟨⟨c8, c9⟩, -⟩ := twoC K10
  obtain ⟨⟨ca, cb⟩, -⟩ := twoC K11
  go_wp2
  go_ret
  exact ⟨rfl, HB4⟩
end Go.Proofs.Ytapnidhokpkmdaa
