/- Lowest of program and model. -/
import Derived.Test.YtapnidhokpkmdaaZI
namespace Go.Proofs.Ytapnidhokpkmdaa
open Go.RowKit Fl
attribute [local go_sem] run_store_float
theorem self_eq (x : Nat) : (FloatKind.f64.format.order x x == some .eq) = (cl x).isSome := by
  cases h : cl x with
  | none => rw [order_cl, h]; rfl
  | some y =>
    obtain ⟨rfl, hn⟩ := cl_some h
    rcases self_order x with h9 | h9
    · exfalso
      unfold isN at hn
      simp only [decide_eq_false_iff_not] at hn
      have h8 : Ieee.double.order x x = none := h9
      by_cases h7 : rg x < 2047 * 2 ^ 52
      · rw [order_eq h7 h7] at h8; cases h8
      · unfold Ieee.Format.order at h8
        rw [read_inf (by omega)] at h8
        cases sg x <;> cases h8
    · rw [h9]; rfl
theorem cIsNaN (x : Nat) (w : World) : Calls Try.prog 64 #[.float .f64 x] w fun e w' => e = .returned (.bool (cl x).isNone) ∧ w' = w := by
  have E : Hid ((cl x).isNone = !(FloatKind.f64.format.order x x == some .eq)) := hide (by rw [self_eq]; cases cl x <;> rfl)
  generalize (cl x).isNone = r at *
  go_enter Try.func64, Try.ntmps64
  go_wp2
  go_ret
  exact ⟨ret_bool E.out.symm, rfl⟩
theorem lowI_succ (l : List C2) (k : Nat) : lowI l (k + 1) = if lowP l (lowI l k) k then (k : Int) else lowI l k := rfl
theorem low_nan {l : List C2} {k : Nat} (h : (szAt l k).isNone = true) : lowI l (k + 1) = lowI l k := by
  rw [lowI_succ]
  have : lowP l (lowI l k) k = false := by unfold lowP; cases hz : szAt l k <;> simp_all
  simp [this]
theorem low_first {l : List C2} {k : Nat} (h : (szAt l k).isNone = false) (hb : lowI l k = -1) : lowI l (k + 1) = k := by
  rw [lowI_succ]
  have : lowP l (lowI l k) k = true := by unfold lowP; rw [hb]; cases hz : szAt l k <;> simp_all
  simp [this]
theorem low_next {l : List C2} {k j : Nat} (h : (szAt l k).isNone = false) (hb : lowI l k = (j : Int)) : lowI l (k + 1) = if ltZ (szAt l k) (szAt l j) then (k : Int) else (j : Int) := by
  rw [lowI_succ, hb]
  have : lowP l (j : Int) k = ltZ (szAt l k) (szAt l j) := by
    unfold lowP
    have e : decide ((j : Int) < 0) = false := by simp
    rw [e]
    cases hz : szAt l k with
    | none => rw [hz] at h; cases h
    | some x => simp
  rw [this]
theorem szAt_cs {es : List ZV} {k : Nat} (h : k < es.length) : szAt (cs es) k = zsize (es.getD k ZV.zero).c := by unfold szAt; rw [gC_cs h]

set_option maxRecDepth 20000 in
set_option maxHeartbeats 12800000 in
theorem cLowI (a : Option Addr) (cap : Nat) (es : List ZV) (w : World) (he : Zs w a es) (hl : es.length ≤ maxLen) :
    Calls Try.prog 24 #[.slice a es.length cap] w fun e w' => e = .returned (.int .i64 (lowC (cs es))) ∧ Below w.heap.size w w' := by
  unfold maxLen at hl
  by_cases h40 : 40 < es.length
  · have h41 : (40 : Int) < es.length := by omega
    have E : lowC (cs es) = -1 := by unfold lowC; rw [cs_len, if_pos h40]
    rw [E]
    clear E
    go_enter Try.func24, Try.ntmps24
    go_wp2
    go_ret
    exact ⟨rfl, Below.refl _ _⟩
  have h41 : ¬ (40 : Int) < es.length := by omega
  have E : lowC (cs es) = lowI (cs es) es.length := by unfold lowC; rw [cs_len, if_neg h40]
  rw [E]
  have h42 : es.length ≤ 40 := by omega
  clear h40 hl E
  go_enter Try.func24, Try.ntmps24
  go_wp2
  go_loopw [3, 11] (fun b i wr => ∃ k : Nat, k ≤ es.length ∧ i = .int .i64 k ∧ b = .int .i64 (lowI (cs es) k) ∧ Below w.heap.size w wr) (fun _ i _ => es.length - (intOf i).toNat)
  case atStart => exact ⟨0, Nat.zero_le _, rfl, rfl, Below.refl _ _⟩
  case round =>
    obtain ⟨k, hk, rfl, rfl, hb⟩ := hrel
    by_cases hlt : k < es.length
    · rcases he with h | ⟨eb, eo, rfl, q9⟩
      · simp [h] at hlt
      obtain ⟨p0, p1⟩ := q9 k hlt
      replace p0 := ble hb p0
      replace p1 := ble hb p1
      have hz := hide (szAt_cs hlt)
      have hQ := hide q9
      clear q9
      generalize es.getD k ZV.zero = z at *
      obtain ⟨zr, zi⟩ := z
      dsimp only at p0 p1
      have hbv := balloc wr (.cells #[.float .f64 zr, .float .f64 zi] 26)
      have K := one_block wr (.cells #[.float .f64 zr, .float .f64 zi] 26)
      obtain ⟨⟨c0, c1⟩, -⟩ := twoC K
      clear K
      cases hN : (zsize (ZV.c ⟨zr, zi⟩)).isNone
      · have hN1 := hide ((congrArg Option.isNone hz.out).trans hN)
        rcases lowI_in (cs es) k with hB | ⟨hB0, hB1⟩
        · have hnew := hide (low_first hN1.out hB)
          rw [hB]
          clear hB
          go_upto_region 7 with fail
          generalize hvb : wr.heap.size = vb at *
          generalize wr.alloc (.cells #[.float .f64 zr, .float .f64 zi] 26) = wv at *
          rw [← hvb] at hbv
          refine wp_region_held_drew (S := (fun w' => w'.cell? ⟨vb, 0, none⟩ = some (.float .f64 zr) ∧ w'.cell? ⟨vb, 1, none⟩ = some (.float .f64 zi))) (by kernel_rfl) ?_ (fun hHeld => ?_)
          · go_keep
          have B0 : Below wv.heap.size wv wv.drew := (Below.refl _ _).drew
          generalize wv.drew = wd at *
          refine wpAnyH_take (i := 0) (v := .agg #[.float .f64 zr, .float .f64 zi]) rfl (by kernel_rfl) (by kernel_rfl) (by kernel_rfl) (fun _ _ _ h => h) (Or.inl ⟨by kernel_rfl, fun w hS => by (obtain ⟨hS0, hS1⟩ := hS; go_simp)⟩) hHeld ?_
          change wpAnyH _ _ _ _ _ _ _ { tmps := List.toArray (.slice (some ⟨eb, eo, none⟩) es.length cap :: _ :: _ :: .int .i64 (-1) :: _ :: .pointer (some ⟨vb, 0, none⟩) :: _ :: _ :: _ :: _ :: _ :: _ :: _ :: _ :: _ :: _ :: .agg #[.float .f64 zr, .float .f64 zi] :: _ :: _ :: _ :: _ :: _ :: _ :: _ :: _ :: _ :: _ :: _ :: _ :: _ :: _ :: _ :: _ :: _ :: _ :: _ :: _ :: []), defers := [] } _
          refine wpAnyH_ready (rs := [1]) (by kernel_rfl) (by simp) ?_
          refine (AllReadyH.cons rfl (fun KK hK => ?_) AllReadyH.nil)
          go_simp
          refine (cZSizeI2 zr zi _).mono ?_
          rintro e w1 ⟨s1, rfl, h1, hb1⟩
          have B1 := btrans B0 hb1
          clear hb1
          go_wp2_with fail
          clear hHeld
          refine hK.out _ _ (⟨ble B1 c0, ble B1 c1⟩) (fun hHeld => ?_)
          clear hK KK
          change wpAnyH _ _ _ _ _ _ _ { tmps := List.toArray (.slice (some ⟨eb, eo, none⟩) es.length cap :: _ :: _ :: .int .i64 (-1) :: _ :: .pointer (some ⟨vb, 0, none⟩) :: _ :: _ :: _ :: _ :: _ :: _ :: _ :: _ :: _ :: _ :: .agg #[.float .f64 zr, .float .f64 zi] :: .float .f64 s1 :: _ :: _ :: _ :: _ :: _ :: _ :: _ :: _ :: _ :: _ :: _ :: _ :: _ :: _ :: _ :: _ :: _ :: _ :: _ :: []), defers := [] } _
          refine wpAnyH_ready (rs := [2]) (by kernel_rfl) (by simp) ?_
          refine (AllReadyH.cons rfl (fun KK hK => ?_) AllReadyH.nil)
          go_simp
          refine (cIsNaN s1 _).mono ?_
          rintro e w2 ⟨rfl, hw2⟩
          subst w2
          rw [h1, hN]
          go_wp2_with fail
          clear hHeld
          refine hK.out _ _ (⟨ble B1 c0, ble B1 c1⟩) (fun hHeld => ?_)
          clear hK KK
          change wpAnyH _ _ _ _ _ _ _ { tmps := List.toArray (.slice (some ⟨eb, eo, none⟩) es.length cap :: _ :: _ :: .int .i64 (-1) :: _ :: .pointer (some ⟨vb, 0, none⟩) :: _ :: _ :: _ :: _ :: _ :: _ :: _ :: _ :: _ :: _ :: .agg #[.float .f64 zr, .float .f64 zi] :: .float .f64 s1 :: .bool false :: _ :: _ :: _ :: _ :: _ :: _ :: _ :: _ :: _ :: _ :: _ :: _ :: _ :: _ :: _ :: _ :: _ :: _ :: []), defers := [] } _
          refine wpAnyH_take (i := 3) (v := .bool true) rfl (by kernel_rfl) (by kernel_rfl) (by kernel_rfl) (fun _ _ _ h => h) (Or.inl ⟨by kernel_rfl, fun w hS => by go_simp⟩) hHeld ?_
          change wpAnyH _ _ _ _ _ _ _ { tmps := List.toArray (.slice (some ⟨eb, eo, none⟩) es.length cap :: _ :: _ :: .int .i64 (-1) :: _ :: .pointer (some ⟨vb, 0, none⟩) :: _ :: _ :: _ :: _ :: _ :: _ :: _ :: _ :: _ :: _ :: .agg #[.float .f64 zr, .float .f64 zi] :: .float .f64 s1 :: .bool false :: .bool true :: _ :: _ :: _ :: _ :: _ :: _ :: _ :: _ :: _ :: _ :: _ :: _ :: _ :: _ :: _ :: _ :: _ :: []), defers := [] } _
          refine wpAnyH_take (i := 4) (v := .bool true) rfl (by kernel_rfl) (by kernel_rfl) (by kernel_rfl) (fun _ _ _ h => h) (Or.inl ⟨by kernel_rfl, fun w hS => by go_simp⟩) hHeld ?_
          change wpAnyH _ _ _ _ _ _ _ { tmps := List.toArray (.slice (some ⟨eb, eo, none⟩) es.length cap :: _ :: _ :: .int .i64 (-1) :: _ :: .pointer (some ⟨vb, 0, none⟩) :: _ :: _ :: _ :: _ :: _ :: _ :: _ :: _ :: _ :: _ :: .agg #[.float .f64 zr, .float .f64 zi] :: .float .f64 s1 :: .bool false :: .bool true :: .bool true :: _ :: _ :: _ :: _ :: _ :: _ :: _ :: _ :: _ :: _ :: _ :: _ :: _ :: _ :: _ :: _ :: []), defers := [] } _
          refine wpAnyH_take (i := 5) (v := .int .i64 (-1)) rfl (by kernel_rfl) (by kernel_rfl) (by kernel_rfl) (fun _ _ _ h => h) (Or.inl ⟨by kernel_rfl, fun w hS => by go_simp⟩) hHeld ?_
          change wpAnyH _ _ _ _ _ _ _ { tmps := List.toArray (.slice (some ⟨eb, eo, none⟩) es.length cap :: _ :: _ :: .int .i64 (-1) :: _ :: .pointer (some ⟨vb, 0, none⟩) :: _ :: _ :: _ :: _ :: _ :: _ :: _ :: _ :: _ :: _ :: .agg #[.float .f64 zr, .float .f64 zi] :: .float .f64 s1 :: .bool false :: .bool true :: .bool true :: .int .i64 (-1) :: _ :: _ :: _ :: _ :: _ :: _ :: _ :: _ :: _ :: _ :: _ :: _ :: _ :: _ :: _ :: []), defers := [] } _
          refine wpAnyH_take (i := 6) (v := .bool true) rfl (by kernel_rfl) (by kernel_rfl) (by kernel_rfl) (fun _ _ _ h => h) (Or.inl ⟨by kernel_rfl, fun w hS => by go_simp⟩) hHeld ?_
          change wpAnyH _ _ _ _ _ _ _ { tmps := List.toArray (.slice (some ⟨eb, eo, none⟩) es.length cap :: _ :: _ :: .int .i64 (-1) :: _ :: .pointer (some ⟨vb, 0, none⟩) :: _ :: _ :: _ :: _ :: _ :: _ :: _ :: _ :: _ :: _ :: .agg #[.float .f64 zr, .float .f64 zi] :: .float .f64 s1 :: .bool false :: .bool true :: .bool true :: .int .i64 (-1) :: .bool true :: _ :: _ :: _ :: _ :: _ :: _ :: _ :: _ :: _ :: _ :: _ :: _ :: _ :: _ :: []), defers := [] } _
          refine wpAnyH_take (i := 7) (v := .bool true) rfl (by kernel_rfl) (by kernel_rfl) (by kernel_rfl) (fun _ _ _ h => h) (Or.inl ⟨by kernel_rfl, fun w hS => by go_simp⟩) hHeld ?_
          change wpAnyH _ _ _ _ _ _ _ { tmps := List.toArray (.slice (some ⟨eb, eo, none⟩) es.length cap :: _ :: _ :: .int .i64 (-1) :: _ :: .pointer (some ⟨vb, 0, none⟩) :: _ :: _ :: _ :: _ :: _ :: _ :: _ :: _ :: _ :: _ :: .agg #[.float .f64 zr, .float .f64 zi] :: .float .f64 s1 :: .bool false :: .bool true :: .bool true :: .int .i64 (-1) :: .bool true :: .bool true :: _ :: _ :: _ :: _ :: _ :: _ :: _ :: _ :: _ :: _ :: _ :: _ :: _ :: []), defers := [] } _
          refine wpAnyH_take (i := 8) (v := undef) rfl (by kernel_rfl) (by kernel_rfl) (by kernel_rfl) (fun _ _ _ h => h) (Or.inr ⟨by kernel_rfl, rfl⟩) hHeld ?_
          change wpAnyH _ _ _ _ _ _ _ { tmps := List.toArray (.slice (some ⟨eb, eo, none⟩) es.length cap :: _ :: _ :: .int .i64 (-1) :: _ :: .pointer (some ⟨vb, 0, none⟩) :: _ :: _ :: _ :: _ :: _ :: _ :: _ :: _ :: _ :: _ :: .agg #[.float .f64 zr, .float .f64 zi] :: .float .f64 s1 :: .bool false :: .bool true :: .bool true :: .int .i64 (-1) :: .bool true :: .bool true :: undef :: _ :: _ :: _ :: _ :: _ :: _ :: _ :: _ :: _ :: _ :: _ :: _ :: []), defers := [] } _
          refine wpAnyH_take (i := 9) (v := undef) rfl (by kernel_rfl) (by kernel_rfl) (by kernel_rfl) (fun _ _ _ h => h) (Or.inr ⟨by kernel_rfl, rfl⟩) hHeld ?_
          change wpAnyH _ _ _ _ _ _ _ { tmps := List.toArray (.slice (some ⟨eb, eo, none⟩) es.length cap :: _ :: _ :: .int .i64 (-1) :: _ :: .pointer (some ⟨vb, 0, none⟩) :: _ :: _ :: _ :: _ :: _ :: _ :: _ :: _ :: _ :: _ :: .agg #[.float .f64 zr, .float .f64 zi] :: .float .f64 s1 :: .bool false :: .bool true :: .bool true :: .int .i64 (-1) :: .bool true :: .bool true :: undef :: undef :: _ :: _ :: _ :: _ :: _ :: _ :: _ :: _ :: _ :: _ :: _ :: []), defers := [] } _
          refine wpAnyH_take (i := 10) (v := undef) rfl (by kernel_rfl) (by kernel_rfl) (by kernel_rfl) (fun _ _ _ h => h) (Or.inr ⟨by kernel_rfl, rfl⟩) hHeld ?_
          change wpAnyH _ _ _ _ _ _ _ { tmps := List.toArray (.slice (some ⟨eb, eo, none⟩) es.length cap :: _ :: _ :: .int .i64 (-1) :: _ :: .pointer (some ⟨vb, 0, none⟩) :: _ :: _ :: _ :: _ :: _ :: _ :: _ :: _ :: _ :: _ :: .agg #[.float .f64 zr, .float .f64 zi] :: .float .f64 s1 :: .bool false :: .bool true :: .bool true :: .int .i64 (-1) :: .bool true :: .bool true :: undef :: undef :: undef :: _ :: _ :: _ :: _ :: _ :: _ :: _ :: _ :: _ :: _ :: []), defers := [] } _
          refine wpAnyH_take (i := 11) (v := undef) rfl (by kernel_rfl) (by kernel_rfl) (by kernel_rfl) (fun _ _ _ h => h) (Or.inr ⟨by kernel_rfl, rfl⟩) hHeld ?_
          change wpAnyH _ _ _ _ _ _ _ { tmps := List.toArray (.slice (some ⟨eb, eo, none⟩) es.length cap :: _ :: _ :: .int .i64 (-1) :: _ :: .pointer (some ⟨vb, 0, none⟩) :: _ :: _ :: _ :: _ :: _ :: _ :: _ :: _ :: _ :: _ :: .agg #[.float .f64 zr, .float .f64 zi] :: .float .f64 s1 :: .bool false :: .bool true :: .bool true :: .int .i64 (-1) :: .bool true :: .bool true :: undef :: undef :: undef :: undef :: _ :: _ :: _ :: _ :: _ :: _ :: _ :: _ :: _ :: []), defers := [] } _
          refine wpAnyH_take (i := 12) (v := undef) rfl (by kernel_rfl) (by kernel_rfl) (by kernel_rfl) (fun _ _ _ h => h) (Or.inr ⟨by kernel_rfl, rfl⟩) hHeld ?_
          change wpAnyH _ _ _ _ _ _ _ { tmps := List.toArray (.slice (some ⟨eb, eo, none⟩) es.length cap :: _ :: _ :: .int .i64 (-1) :: _ :: .pointer (some ⟨vb, 0, none⟩) :: _ :: _ :: _ :: _ :: _ :: _ :: _ :: _ :: _ :: _ :: .agg #[.float .f64 zr, .float .f64 zi] :: .float .f64 s1 :: .bool false :: .bool true :: .bool true :: .int .i64 (-1) :: .bool true :: .bool true :: undef :: undef :: undef :: undef :: undef :: _ :: _ :: _ :: _ :: _ :: _ :: _ :: _ :: []), defers := [] } _
          refine wpAnyH_take (i := 13) (v := undef) rfl (by kernel_rfl) (by kernel_rfl) (by kernel_rfl) (fun _ _ _ h => h) (Or.inr ⟨by kernel_rfl, rfl⟩) hHeld ?_
          change wpAnyH _ _ _ _ _ _ _ { tmps := List.toArray (.slice (some ⟨eb, eo, none⟩) es.length cap :: _ :: _ :: .int .i64 (-1) :: _ :: .pointer (some ⟨vb, 0, none⟩) :: _ :: _ :: _ :: _ :: _ :: _ :: _ :: _ :: _ :: _ :: .agg #[.float .f64 zr, .float .f64 zi] :: .float .f64 s1 :: .bool false :: .bool true :: .bool true :: .int .i64 (-1) :: .bool true :: .bool true :: undef :: undef :: undef :: undef :: undef :: undef :: _ :: _ :: _ :: _ :: _ :: _ :: _ :: []), defers := [] } _
          refine wpAnyH_take (i := 14) (v := undef) rfl (by kernel_rfl) (by kernel_rfl) (by kernel_rfl) (fun _ _ _ h => h) (Or.inr ⟨by kernel_rfl, rfl⟩) hHeld ?_
          change wpAnyH _ _ _ _ _ _ _ { tmps := List.toArray (.slice (some ⟨eb, eo, none⟩) es.length cap :: _ :: _ :: .int .i64 (-1) :: _ :: .pointer (some ⟨vb, 0, none⟩) :: _ :: _ :: _ :: _ :: _ :: _ :: _ :: _ :: _ :: _ :: .agg #[.float .f64 zr, .float .f64 zi] :: .float .f64 s1 :: .bool false :: .bool true :: .bool true :: .int .i64 (-1) :: .bool true :: .bool true :: undef :: undef :: undef :: undef :: undef :: undef :: undef :: _ :: _ :: _ :: _ :: _ :: _ :: []), defers := [] } _
          refine wpAnyH_take (i := 15) (v := undef) rfl (by kernel_rfl) (by kernel_rfl) (by kernel_rfl) (fun _ _ _ h => h) (Or.inr ⟨by kernel_rfl, rfl⟩) hHeld ?_
          change wpAnyH _ _ _ _ _ _ _ { tmps := List.toArray (.slice (some ⟨eb, eo, none⟩) es.length cap :: _ :: _ :: .int .i64 (-1) :: _ :: .pointer (some ⟨vb, 0, none⟩) :: _ :: _ :: _ :: _ :: _ :: _ :: _ :: _ :: _ :: _ :: .agg #[.float .f64 zr, .float .f64 zi] :: .float .f64 s1 :: .bool false :: .bool true :: .bool true :: .int .i64 (-1) :: .bool true :: .bool true :: undef :: undef :: undef :: undef :: undef :: undef :: undef :: undef :: _ :: _ :: _ :: _ :: _ :: []), defers := [] } _
          refine wpAnyH_take (i := 16) (v := .bool true) rfl (by kernel_rfl) (by kernel_rfl) (by kernel_rfl) (fun _ _ _ h => h) (Or.inl ⟨by kernel_rfl, fun w hS => by go_simp⟩) hHeld ?_
          change wpAnyH _ _ _ _ _ _ _ { tmps := List.toArray (.slice (some ⟨eb, eo, none⟩) es.length cap :: _ :: _ :: .int .i64 (-1) :: _ :: .pointer (some ⟨vb, 0, none⟩) :: _ :: _ :: _ :: _ :: _ :: _ :: _ :: _ :: _ :: _ :: .agg #[.float .f64 zr, .float .f64 zi] :: .float .f64 s1 :: .bool false :: .bool true :: .bool true :: .int .i64 (-1) :: .bool true :: .bool true :: undef :: undef :: undef :: undef :: undef :: undef :: undef :: undef :: .bool true :: _ :: _ :: _ :: _ :: []), defers := [] } _
          refine wpAnyH_take (i := 17) (v := .bool true) rfl (by kernel_rfl) (by kernel_rfl) (by kernel_rfl) (fun _ _ _ h => h) (Or.inl ⟨by kernel_rfl, fun w hS => by go_simp⟩) hHeld ?_
          change wpAnyH _ _ _ _ _ _ _ { tmps := List.toArray (.slice (some ⟨eb, eo, none⟩) es.length cap :: _ :: _ :: .int .i64 (-1) :: _ :: .pointer (some ⟨vb, 0, none⟩) :: _ :: _ :: _ :: _ :: _ :: _ :: _ :: _ :: _ :: _ :: .agg #[.float .f64 zr, .float .f64 zi] :: .float .f64 s1 :: .bool false :: .bool true :: .bool true :: .int .i64 (-1) :: .bool true :: .bool true :: undef :: undef :: undef :: undef :: undef :: undef :: undef :: undef :: .bool true :: .bool true :: _ :: _ :: _ :: []), defers := [] } _
          refine wpAnyH_done (by kernel_rfl) ?_ _
          go_wp2
          go_roundw
          case rel => exact ⟨k + 1, by omega, by go_num, by rw [hnew.out], btrans hb (btrans hbv B1)⟩
          case measure => simp [intOf]; omega
        · obtain ⟨j, hj⟩ := Int.eq_ofNat_of_zero_le hB0
          have hjn : j < es.length := by omega
          obtain ⟨d0, d1⟩ := hQ.out j hjn
          replace d0 := ble (btrans hb hbv) d0
          replace d1 := ble (btrans hb hbv) d1
          have hx := hide (szAt_cs hjn)
          have hnew := low_next hN1.out hj
          rw [hz.out, hx.out] at hnew
          rw [hj]
          clear hB0 hB1 hj
          generalize es.getD j ZV.zero = x at *
          obtain ⟨xr, xi⟩ := x
          dsimp only at d0 d1
          obtain ⟨L, hL0⟩ : ∃ L, Hid (ltZ (zsize (ZV.c ⟨zr, zi⟩)) (zsize (ZV.c ⟨xr, xi⟩)) = L) := ⟨_, hide rfl⟩
          rw [hL0.out] at hnew
          replace hnew := hide hnew
          go_upto_region 7 with fail
          generalize hvb : wr.heap.size = vb at *
          generalize wr.alloc (.cells #[.float .f64 zr, .float .f64 zi] 26) = wv at *
          rw [← hvb] at hbv
          refine wp_region_held_drew (S := (fun w' => w'.cell? ⟨vb, 0, none⟩ = some (.float .f64 zr) ∧ w'.cell? ⟨vb, 1, none⟩ = some (.float .f64 zi) ∧ w'.cell? ⟨eb, eo + j * 2, none⟩ = some (.float .f64 xr) ∧ w'.cell? ⟨eb, eo + j * 2 + 1, none⟩ = some (.float .f64 xi))) (by kernel_rfl) ?_ (fun hHeld => ?_)
          · go_keep
          have B0 : Below wv.heap.size wv wv.drew := (Below.refl _ _).drew
          generalize wv.drew = wd at *
          refine wpAnyH_take (i := 0) (v := .agg #[.float .f64 zr, .float .f64 zi]) rfl (by kernel_rfl) (by kernel_rfl) (by kernel_rfl) (fun _ _ _ h => h) (Or.inl ⟨by kernel_rfl, fun w hS => by (obtain ⟨hS0, hS1, hS2, hS3⟩ := hS; go_simp)⟩) hHeld ?_
          change wpAnyH _ _ _ _ _ _ _ { tmps := List.toArray (.slice (some ⟨eb, eo, none⟩) es.length cap :: _ :: _ :: .int .i64 (j : Int) :: _ :: .pointer (some ⟨vb, 0, none⟩) :: _ :: _ :: _ :: _ :: _ :: _ :: _ :: _ :: _ :: _ :: .agg #[.float .f64 zr, .float .f64 zi] :: _ :: _ :: _ :: _ :: _ :: _ :: _ :: _ :: _ :: _ :: _ :: _ :: _ :: _ :: _ :: _ :: _ :: _ :: _ :: _ :: []), defers := [] } _
          refine wpAnyH_ready (rs := [1]) (by kernel_rfl) (by simp) ?_
          refine (AllReadyH.cons rfl (fun KK hK => ?_) AllReadyH.nil)
          go_simp
          refine (cZSizeI2 zr zi _).mono ?_
          rintro e w1 ⟨s1, rfl, h1, hb1⟩
          have B1 := btrans B0 hb1
          clear hb1
          go_wp2_with fail
          clear hHeld
          refine hK.out _ _ (⟨ble B1 c0, ble B1 c1, ble B1 d0, ble B1 d1⟩) (fun hHeld => ?_)
          clear hK KK
          change wpAnyH _ _ _ _ _ _ _ { tmps := List.toArray (.slice (some ⟨eb, eo, none⟩) es.length cap :: _ :: _ :: .int .i64 (j : Int) :: _ :: .pointer (some ⟨vb, 0, none⟩) :: _ :: _ :: _ :: _ :: _ :: _ :: _ :: _ :: _ :: _ :: .agg #[.float .f64 zr, .float .f64 zi] :: .float .f64 s1 :: _ :: _ :: _ :: _ :: _ :: _ :: _ :: _ :: _ :: _ :: _ :: _ :: _ :: _ :: _ :: _ :: _ :: _ :: _ :: []), defers := [] } _
          refine wpAnyH_ready (rs := [2]) (by kernel_rfl) (by simp) ?_
          refine (AllReadyH.cons rfl (fun KK hK => ?_) AllReadyH.nil)
          go_simp
          refine (cIsNaN s1 _).mono ?_
          rintro e w2 ⟨rfl, hw2⟩
          subst w2
          rw [h1, hN]
          go_wp2_with fail
          clear hHeld
          refine hK.out _ _ (⟨ble B1 c0, ble B1 c1, ble B1 d0, ble B1 d1⟩) (fun hHeld => ?_)
          clear hK KK
          change wpAnyH _ _ _ _ _ _ _ { tmps := List.toArray (.slice (some ⟨eb, eo, none⟩) es.length cap :: _ :: _ :: .int .i64 (j : Int) :: _ :: .pointer (some ⟨vb, 0, none⟩) :: _ :: _ :: _ :: _ :: _ :: _ :: _ :: _ :: _ :: _ :: .agg #[.float .f64 zr, .float .f64 zi] :: .float .f64 s1 :: .bool false :: _ :: _ :: _ :: _ :: _ :: _ :: _ :: _ :: _ :: _ :: _ :: _ :: _ :: _ :: _ :: _ :: _ :: _ :: []), defers := [] } _
          refine wpAnyH_take (i := 3) (v := .bool true) rfl (by kernel_rfl) (by kernel_rfl) (by kernel_rfl) (fun _ _ _ h => h) (Or.inl ⟨by kernel_rfl, fun w hS => by go_simp⟩) hHeld ?_
          change wpAnyH _ _ _ _ _ _ _ { tmps := List.toArray (.slice (some ⟨eb, eo, none⟩) es.length cap :: _ :: _ :: .int .i64 (j : Int) :: _ :: .pointer (some ⟨vb, 0, none⟩) :: _ :: _ :: _ :: _ :: _ :: _ :: _ :: _ :: _ :: _ :: .agg #[.float .f64 zr, .float .f64 zi] :: .float .f64 s1 :: .bool false :: .bool true :: _ :: _ :: _ :: _ :: _ :: _ :: _ :: _ :: _ :: _ :: _ :: _ :: _ :: _ :: _ :: _ :: _ :: []), defers := [] } _
          refine wpAnyH_take (i := 4) (v := .bool true) rfl (by kernel_rfl) (by kernel_rfl) (by kernel_rfl) (fun _ _ _ h => h) (Or.inl ⟨by kernel_rfl, fun w hS => by go_simp⟩) hHeld ?_
          change wpAnyH _ _ _ _ _ _ _ { tmps := List.toArray (.slice (some ⟨eb, eo, none⟩) es.length cap :: _ :: _ :: .int .i64 (j : Int) :: _ :: .pointer (some ⟨vb, 0, none⟩) :: _ :: _ :: _ :: _ :: _ :: _ :: _ :: _ :: _ :: _ :: .agg #[.float .f64 zr, .float .f64 zi] :: .float .f64 s1 :: .bool false :: .bool true :: .bool true :: _ :: _ :: _ :: _ :: _ :: _ :: _ :: _ :: _ :: _ :: _ :: _ :: _ :: _ :: _ :: _ :: []), defers := [] } _
          refine wpAnyH_take (i := 5) (v := .int .i64 (j : Int)) rfl (by kernel_rfl) (by kernel_rfl) (by kernel_rfl) (fun _ _ _ h => h) (Or.inl ⟨by kernel_rfl, fun w hS => by go_simp⟩) hHeld ?_
          change wpAnyH _ _ _ _ _ _ _ { tmps := List.toArray (.slice (some ⟨eb, eo, none⟩) es.length cap :: _ :: _ :: .int .i64 (j : Int) :: _ :: .pointer (some ⟨vb, 0, none⟩) :: _ :: _ :: _ :: _ :: _ :: _ :: _ :: _ :: _ :: _ :: .agg #[.float .f64 zr, .float .f64 zi] :: .float .f64 s1 :: .bool false :: .bool true :: .bool true :: .int .i64 (j : Int) :: _ :: _ :: _ :: _ :: _ :: _ :: _ :: _ :: _ :: _ :: _ :: _ :: _ :: _ :: _ :: []), defers := [] } _
          refine wpAnyH_take (i := 6) (v := .bool false) rfl (by kernel_rfl) (by kernel_rfl) (by kernel_rfl) (fun _ _ _ h => h) (Or.inl ⟨by kernel_rfl, fun w hS => by go_simp⟩) hHeld ?_
          change wpAnyH _ _ _ _ _ _ _ { tmps := List.toArray (.slice (some ⟨eb, eo, none⟩) es.length cap :: _ :: _ :: .int .i64 (j : Int) :: _ :: .pointer (some ⟨vb, 0, none⟩) :: _ :: _ :: _ :: _ :: _ :: _ :: _ :: _ :: _ :: _ :: .agg #[.float .f64 zr, .float .f64 zi] :: .float .f64 s1 :: .bool false :: .bool true :: .bool true :: .int .i64 (j : Int) :: .bool false :: _ :: _ :: _ :: _ :: _ :: _ :: _ :: _ :: _ :: _ :: _ :: _ :: _ :: _ :: []), defers := [] } _
          refine wpAnyH_take (i := 7) (v := .bool false) rfl (by kernel_rfl) (by kernel_rfl) (by kernel_rfl) (fun _ _ _ h => h) (Or.inl ⟨by kernel_rfl, fun w hS => by go_simp⟩) hHeld ?_
          change wpAnyH _ _ _ _ _ _ _ { tmps := List.toArray (.slice (some ⟨eb, eo, none⟩) es.length cap :: _ :: _ :: .int .i64 (j : Int) :: _ :: .pointer (some ⟨vb, 0, none⟩) :: _ :: _ :: _ :: _ :: _ :: _ :: _ :: _ :: _ :: _ :: .agg #[.float .f64 zr, .float .f64 zi] :: .float .f64 s1 :: .bool false :: .bool true :: .bool true :: .int .i64 (j : Int) :: .bool false :: .bool false :: _ :: _ :: _ :: _ :: _ :: _ :: _ :: _ :: _ :: _ :: _ :: _ :: _ :: []), defers := [] } _
          refine wpAnyH_take (i := 8) (v := .agg #[.float .f64 zr, .float .f64 zi]) rfl (by kernel_rfl) (by kernel_rfl) (by kernel_rfl) (fun _ _ _ h => h) (Or.inl ⟨by kernel_rfl, fun w hS => by (obtain ⟨hS0, hS1, hS2, hS3⟩ := hS; go_simp)⟩) hHeld ?_
          change wpAnyH _ _ _ _ _ _ _ { tmps := List.toArray (.slice (some ⟨eb, eo, none⟩) es.length cap :: _ :: _ :: .int .i64 (j : Int) :: _ :: .pointer (some ⟨vb, 0, none⟩) :: _ :: _ :: _ :: _ :: _ :: _ :: _ :: _ :: _ :: _ :: .agg #[.float .f64 zr, .float .f64 zi] :: .float .f64 s1 :: .bool false :: .bool true :: .bool true :: .int .i64 (j : Int) :: .bool false :: .bool false :: .agg #[.float .f64 zr, .float .f64 zi] :: _ :: _ :: _ :: _ :: _ :: _ :: _ :: _ :: _ :: _ :: _ :: _ :: []), defers := [] } _
          refine wpAnyH_take (i := 10) (v := .slice (some ⟨eb, eo, none⟩) es.length cap) rfl (by kernel_rfl) (by kernel_rfl) (by kernel_rfl) (fun _ _ _ h => h) (Or.inl ⟨by kernel_rfl, fun w hS => by go_simp⟩) hHeld ?_
          change wpAnyH _ _ _ _ _ _ _ { tmps := List.toArray (.slice (some ⟨eb, eo, none⟩) es.length cap :: _ :: _ :: .int .i64 (j : Int) :: _ :: .pointer (some ⟨vb, 0, none⟩) :: _ :: _ :: _ :: _ :: _ :: _ :: _ :: _ :: _ :: _ :: .agg #[.float .f64 zr, .float .f64 zi] :: .float .f64 s1 :: .bool false :: .bool true :: .bool true :: .int .i64 (j : Int) :: .bool false :: .bool false :: .agg #[.float .f64 zr, .float .f64 zi] :: _ :: .slice (some ⟨eb, eo, none⟩) es.length cap :: _ :: _ :: _ :: _ :: _ :: _ :: _ :: _ :: _ :: _ :: []), defers := [] } _
          refine wpAnyH_take (i := 11) (v := .int .i64 (j : Int)) rfl (by kernel_rfl) (by kernel_rfl) (by kernel_rfl) (fun _ _ _ h => h) (Or.inl ⟨by kernel_rfl, fun w hS => by go_simp⟩) hHeld ?_
          change wpAnyH _ _ _ _ _ _ _ { tmps := List.toArray (.slice (some ⟨eb, eo, none⟩) es.length cap :: _ :: _ :: .int .i64 (j : Int) :: _ :: .pointer (some ⟨vb, 0, none⟩) :: _ :: _ :: _ :: _ :: _ :: _ :: _ :: _ :: _ :: _ :: .agg #[.float .f64 zr, .float .f64 zi] :: .float .f64 s1 :: .bool false :: .bool true :: .bool true :: .int .i64 (j : Int) :: .bool false :: .bool false :: .agg #[.float .f64 zr, .float .f64 zi] :: _ :: .slice (some ⟨eb, eo, none⟩) es.length cap :: .int .i64 (j : Int) :: _ :: _ :: _ :: _ :: _ :: _ :: _ :: _ :: _ :: []), defers := [] } _
          refine wpAnyH_take (i := 12) (v := .pointer (some ⟨eb, eo + j * 2, none⟩)) rfl (by kernel_rfl) (by kernel_rfl) (by kernel_rfl) (fun _ _ _ h => h) (Or.inl ⟨by kernel_rfl, fun w hS => by go_simp⟩) hHeld ?_
          change wpAnyH _ _ _ _ _ _ _ { tmps := List.toArray (.slice (some ⟨eb, eo, none⟩) es.length cap :: _ :: _ :: .int .i64 (j : Int) :: _ :: .pointer (some ⟨vb, 0, none⟩) :: _ :: _ :: _ :: _ :: _ :: _ :: _ :: _ :: _ :: _ :: .agg #[.float .f64 zr, .float .f64 zi] :: .float .f64 s1 :: .bool false :: .bool true :: .bool true :: .int .i64 (j : Int) :: .bool false :: .bool false :: .agg #[.float .f64 zr, .float .f64 zi] :: _ :: .slice (some ⟨eb, eo, none⟩) es.length cap :: .int .i64 (j : Int) :: .pointer (some ⟨eb, eo + j * 2, none⟩) :: _ :: _ :: _ :: _ :: _ :: _ :: _ :: _ :: []), defers := [] } _
          refine wpAnyH_take (i := 13) (v := .agg #[.float .f64 xr, .float .f64 xi]) rfl (by kernel_rfl) (by kernel_rfl) (by kernel_rfl) (fun _ _ _ h => h) (Or.inl ⟨by kernel_rfl, fun w hS => by (obtain ⟨hS0, hS1, hS2, hS3⟩ := hS; go_simp)⟩) hHeld ?_
          change wpAnyH _ _ _ _ _ _ _ { tmps := List.toArray (.slice (some ⟨eb, eo, none⟩) es.length cap :: _ :: _ :: .int .i64 (j : Int) :: _ :: .pointer (some ⟨vb, 0, none⟩) :: _ :: _ :: _ :: _ :: _ :: _ :: _ :: _ :: _ :: _ :: .agg #[.float .f64 zr, .float .f64 zi] :: .float .f64 s1 :: .bool false :: .bool true :: .bool true :: .int .i64 (j : Int) :: .bool false :: .bool false :: .agg #[.float .f64 zr, .float .f64 zi] :: _ :: .slice (some ⟨eb, eo, none⟩) es.length cap :: .int .i64 (j : Int) :: .pointer (some ⟨eb, eo + j * 2, none⟩) :: .agg #[.float .f64 xr, .float .f64 xi] :: _ :: _ :: _ :: _ :: _ :: _ :: _ :: []), defers := [] } _
          refine wpAnyH_ready (rs := [9]) (by kernel_rfl) (by simp) ?_
          refine (AllReadyH.cons rfl (fun KK hK => ?_) AllReadyH.nil)
          go_simp
          refine (cZSizeI2 zr zi _).mono ?_
          rintro e w3 ⟨s3, rfl, h3, hb3⟩
          have B3 := btrans B1 hb3
          clear hb3
          go_wp2_with fail
          clear hHeld
          refine hK.out _ _ (⟨ble B3 c0, ble B3 c1, ble B3 d0, ble B3 d1⟩) (fun hHeld => ?_)
          clear hK KK
          change wpAnyH _ _ _ _ _ _ _ { tmps := List.toArray (.slice (some ⟨eb, eo, none⟩) es.length cap :: _ :: _ :: .int .i64 (j : Int) :: _ :: .pointer (some ⟨vb, 0, none⟩) :: _ :: _ :: _ :: _ :: _ :: _ :: _ :: _ :: _ :: _ :: .agg #[.float .f64 zr, .float .f64 zi] :: .float .f64 s1 :: .bool false :: .bool true :: .bool true :: .int .i64 (j : Int) :: .bool false :: .bool false :: .agg #[.float .f64 zr, .float .f64 zi] :: .float .f64 s3 :: .slice (some ⟨eb, eo, none⟩) es.length cap :: .int .i64 (j : Int) :: .pointer (some ⟨eb, eo + j * 2, none⟩) :: .agg #[.float .f64 xr, .float .f64 xi] :: _ :: _ :: _ :: _ :: _ :: _ :: _ :: []), defers := [] } _
          refine wpAnyH_ready (rs := [14]) (by kernel_rfl) (by simp) ?_
          refine (AllReadyH.cons rfl (fun KK hK => ?_) AllReadyH.nil)
          go_simp
          refine (cZSizeI2 xr xi _).mono ?_
          rintro e w4 ⟨s4, rfl, h4, hb4⟩
          have B4 := btrans B3 hb4
          clear hb4
          have hL : (FloatKind.f64.format.order s3 s4 == some .lt) = L := by rw [order_cl, h3, h4]; exact hL0.out
          go_wp2_with fail
          clear hHeld
          refine hK.out _ _ (⟨ble B4 c0, ble B4 c1, ble B4 d0, ble B4 d1⟩) (fun hHeld => ?_)
          clear hK KK
          change wpAnyH _ _ _ _ _ _ _ { tmps := List.toArray (.slice (some ⟨eb, eo, none⟩) es.length cap :: _ :: _ :: .int .i64 (j : Int) :: _ :: .pointer (some ⟨vb, 0, none⟩) :: _ :: _ :: _ :: _ :: _ :: _ :: _ :: _ :: _ :: _ :: .agg #[.float .f64 zr, .float .f64 zi] :: .float .f64 s1 :: .bool false :: .bool true :: .bool true :: .int .i64 (j : Int) :: .bool false :: .bool false :: .agg #[.float .f64 zr, .float .f64 zi] :: .float .f64 s3 :: .slice (some ⟨eb, eo, none⟩) es.length cap :: .int .i64 (j : Int) :: .pointer (some ⟨eb, eo + j * 2, none⟩) :: .agg #[.float .f64 xr, .float .f64 xi] :: .float .f64 s4 :: _ :: _ :: _ :: _ :: _ :: _ :: []), defers := [] } _
          refine wpAnyH_take (i := 15) (v := .bool L) rfl (by kernel_rfl) (by kernel_rfl) (by kernel_rfl) (fun _ _ _ h => h) (Or.inl ⟨by kernel_rfl, fun w hS => by go_simp⟩) hHeld ?_
          change wpAnyH _ _ _ _ _ _ _ { tmps := List.toArray (.slice (some ⟨eb, eo, none⟩) es.length cap :: _ :: _ :: .int .i64 (j : Int) :: _ :: .pointer (some ⟨vb, 0, none⟩) :: _ :: _ :: _ :: _ :: _ :: _ :: _ :: _ :: _ :: _ :: .agg #[.float .f64 zr, .float .f64 zi] :: .float .f64 s1 :: .bool false :: .bool true :: .bool true :: .int .i64 (j : Int) :: .bool false :: .bool false :: .agg #[.float .f64 zr, .float .f64 zi] :: .float .f64 s3 :: .slice (some ⟨eb, eo, none⟩) es.length cap :: .int .i64 (j : Int) :: .pointer (some ⟨eb, eo + j * 2, none⟩) :: .agg #[.float .f64 xr, .float .f64 xi] :: .float .f64 s4 :: .bool L :: _ :: _ :: _ :: _ :: _ :: []), defers := [] } _
          refine wpAnyH_take (i := 16) (v := .bool L) rfl (by kernel_rfl) (by kernel_rfl) (by kernel_rfl) (fun _ _ _ h => h) (Or.inl ⟨by kernel_rfl, fun w hS => by go_simp⟩) hHeld ?_
          change wpAnyH _ _ _ _ _ _ _ { tmps := List.toArray (.slice (some ⟨eb, eo, none⟩) es.length cap :: _ :: _ :: .int .i64 (j : Int) :: _ :: .pointer (some ⟨vb, 0, none⟩) :: _ :: _ :: _ :: _ :: _ :: _ :: _ :: _ :: _ :: _ :: .agg #[.float .f64 zr, .float .f64 zi] :: .float .f64 s1 :: .bool false :: .bool true :: .bool true :: .int .i64 (j : Int) :: .bool false :: .bool false :: .agg #[.float .f64 zr, .float .f64 zi] :: .float .f64 s3 :: .slice (some ⟨eb, eo, none⟩) es.length cap :: .int .i64 (j : Int) :: .pointer (some ⟨eb, eo + j * 2, none⟩) :: .agg #[.float .f64 xr, .float .f64 xi] :: .float .f64 s4 :: .bool L :: .bool L :: _ :: _ :: _ :: _ :: []), defers := [] } _
          refine wpAnyH_take (i := 17) (v := .bool L) rfl (by kernel_rfl) (by kernel_rfl) (by kernel_rfl) (fun _ _ _ h => h) (Or.inl ⟨by kernel_rfl, fun w hS => by go_simp⟩) hHeld ?_
          change wpAnyH _ _ _ _ _ _ _ { tmps := List.toArray (.slice (some ⟨eb, eo, none⟩) es.length cap :: _ :: _ :: .int .i64 (j : Int) :: _ :: .pointer (some ⟨vb, 0, none⟩) :: _ :: _ :: _ :: _ :: _ :: _ :: _ :: _ :: _ :: _ :: .agg #[.float .f64 zr, .float .f64 zi] :: .float .f64 s1 :: .bool false :: .bool true :: .bool true :: .int .i64 (j : Int) :: .bool false :: .bool false :: .agg #[.float .f64 zr, .float .f64 zi] :: .float .f64 s3 :: .slice (some ⟨eb, eo, none⟩) es.length cap :: .int .i64 (j : Int) :: .pointer (some ⟨eb, eo + j * 2, none⟩) :: .agg #[.float .f64 xr, .float .f64 xi] :: .float .f64 s4 :: .bool L :: .bool L :: .bool L :: _ :: _ :: _ :: []), defers := [] } _
          refine wpAnyH_done (by kernel_rfl) ?_ _
          cases L
          · have hnew2 : Hid (lowI (cs es) (k + 1) = (j : Int)) := hide (by rw [hnew.out]; rfl)
            clear hL
            go_wp2
            go_roundw
            case rel => exact ⟨k + 1, by omega, by go_num, by rw [hnew2.out], btrans hb (btrans hbv B4)⟩
            case measure => simp [intOf]; omega
          · have hnew2 : Hid (lowI (cs es) (k + 1) = (k : Int)) := hide (by rw [hnew.out]; rfl)
            clear hL
            go_wp2
            go_roundw
            case rel => exact ⟨k + 1, by omega, by go_num, by rw [hnew2.out], btrans hb (btrans hbv B4)⟩
            case measure => simp [intOf]; omega
      · have hN1 := hide ((congrArg Option.isNone hz.out).trans hN)
        have hnew := hide (low_nan hN1.out)
        go_upto_region 7 with fail
        generalize hvb : wr.heap.size = vb at *
        generalize wr.alloc (.cells #[.float .f64 zr, .float .f64 zi] 26) = wv at *
        rw [← hvb] at hbv
        generalize lowI (cs es) k = B at *
        refine wp_region_held_drew (S := (fun w' => w'.cell? ⟨vb, 0, none⟩ = some (.float .f64 zr) ∧ w'.cell? ⟨vb, 1, none⟩ = some (.float .f64 zi))) (by kernel_rfl) ?_ (fun hHeld => ?_)
        · go_keep
        have B0 : Below wv.heap.size wv wv.drew := (Below.refl _ _).drew
        generalize wv.drew = wd at *
        refine wpAnyH_take (i := 0) (v := .agg #[.float .f64 zr, .float .f64 zi]) rfl (by kernel_rfl) (by kernel_rfl) (by kernel_rfl) (fun _ _ _ h => h) (Or.inl ⟨by kernel_rfl, fun w hS => by (obtain ⟨hS0, hS1⟩ := hS; go_simp)⟩) hHeld ?_
        change wpAnyH _ _ _ _ _ _ _ { tmps := List.toArray (.slice (some ⟨eb, eo, none⟩) es.length cap :: _ :: _ :: .int .i64 B :: _ :: .pointer (some ⟨vb, 0, none⟩) :: _ :: _ :: _ :: _ :: _ :: _ :: _ :: _ :: _ :: _ :: .agg #[.float .f64 zr, .float .f64 zi] :: _ :: _ :: _ :: _ :: _ :: _ :: _ :: _ :: _ :: _ :: _ :: _ :: _ :: _ :: _ :: _ :: _ :: _ :: _ :: _ :: []), defers := [] } _
        refine wpAnyH_ready (rs := [1]) (by kernel_rfl) (by simp) ?_
        refine (AllReadyH.cons rfl (fun KK hK => ?_) AllReadyH.nil)
        go_simp
        refine (cZSizeI2 zr zi _).mono ?_
        rintro e w1 ⟨s1, rfl, h1, hb1⟩
        have B1 := btrans B0 hb1
        clear hb1
        go_wp2_with fail
        clear hHeld
        refine hK.out _ _ (⟨ble B1 c0, ble B1 c1⟩) (fun hHeld => ?_)
        clear hK KK
        change wpAnyH _ _ _ _ _ _ _ { tmps := List.toArray (.slice (some ⟨eb, eo, none⟩) es.length cap :: _ :: _ :: .int .i64 B :: _ :: .pointer (some ⟨vb, 0, none⟩) :: _ :: _ :: _ :: _ :: _ :: _ :: _ :: _ :: _ :: _ :: .agg #[.float .f64 zr, .float .f64 zi] :: .float .f64 s1 :: _ :: _ :: _ :: _ :: _ :: _ :: _ :: _ :: _ :: _ :: _ :: _ :: _ :: _ :: _ :: _ :: _ :: _ :: _ :: []), defers := [] } _
        refine wpAnyH_ready (rs := [2]) (by kernel_rfl) (by simp) ?_
        refine (AllReadyH.cons rfl (fun KK hK => ?_) AllReadyH.nil)
        go_simp
        refine (cIsNaN s1 _).mono ?_
        rintro e w2 ⟨rfl, hw2⟩
        subst w2
        rw [h1, hN]
        go_wp2_with fail
        clear hHeld
        refine hK.out _ _ (⟨ble B1 c0, ble B1 c1⟩) (fun hHeld => ?_)
        clear hK KK
        change wpAnyH _ _ _ _ _ _ _ { tmps := List.toArray (.slice (some ⟨eb, eo, none⟩) es.length cap :: _ :: _ :: .int .i64 B :: _ :: .pointer (some ⟨vb, 0, none⟩) :: _ :: _ :: _ :: _ :: _ :: _ :: _ :: _ :: _ :: _ :: .agg #[.float .f64 zr, .float .f64 zi] :: .float .f64 s1 :: .bool true :: _ :: _ :: _ :: _ :: _ :: _ :: _ :: _ :: _ :: _ :: _ :: _ :: _ :: _ :: _ :: _ :: _ :: _ :: []), defers := [] } _
        refine wpAnyH_take (i := 3) (v := .bool false) rfl (by kernel_rfl) (by kernel_rfl) (by kernel_rfl) (fun _ _ _ h => h) (Or.inl ⟨by kernel_rfl, fun w hS => by go_simp⟩) hHeld ?_
        change wpAnyH _ _ _ _ _ _ _ { tmps := List.toArray (.slice (some ⟨eb, eo, none⟩) es.length cap :: _ :: _ :: .int .i64 B :: _ :: .pointer (some ⟨vb, 0, none⟩) :: _ :: _ :: _ :: _ :: _ :: _ :: _ :: _ :: _ :: _ :: .agg #[.float .f64 zr, .float .f64 zi] :: .float .f64 s1 :: .bool true :: .bool false :: _ :: _ :: _ :: _ :: _ :: _ :: _ :: _ :: _ :: _ :: _ :: _ :: _ :: _ :: _ :: _ :: _ :: []), defers := [] } _
        refine wpAnyH_take (i := 4) (v := .bool false) rfl (by kernel_rfl) (by kernel_rfl) (by kernel_rfl) (fun _ _ _ h => h) (Or.inl ⟨by kernel_rfl, fun w hS => by go_simp⟩) hHeld ?_
        change wpAnyH _ _ _ _ _ _ _ { tmps := List.toArray (.slice (some ⟨eb, eo, none⟩) es.length cap :: _ :: _ :: .int .i64 B :: _ :: .pointer (some ⟨vb, 0, none⟩) :: _ :: _ :: _ :: _ :: _ :: _ :: _ :: _ :: _ :: _ :: .agg #[.float .f64 zr, .float .f64 zi] :: .float .f64 s1 :: .bool true :: .bool false :: .bool false :: _ :: _ :: _ :: _ :: _ :: _ :: _ :: _ :: _ :: _ :: _ :: _ :: _ :: _ :: _ :: _ :: []), defers := [] } _
        refine wpAnyH_take (i := 5) (v := undef) rfl (by kernel_rfl) (by kernel_rfl) (by kernel_rfl) (fun _ _ _ h => h) (Or.inr ⟨by kernel_rfl, rfl⟩) hHeld ?_
        change wpAnyH _ _ _ _ _ _ _ { tmps := List.toArray (.slice (some ⟨eb, eo, none⟩) es.length cap :: _ :: _ :: .int .i64 B :: _ :: .pointer (some ⟨vb, 0, none⟩) :: _ :: _ :: _ :: _ :: _ :: _ :: _ :: _ :: _ :: _ :: .agg #[.float .f64 zr, .float .f64 zi] :: .float .f64 s1 :: .bool true :: .bool false :: .bool false :: undef :: _ :: _ :: _ :: _ :: _ :: _ :: _ :: _ :: _ :: _ :: _ :: _ :: _ :: _ :: _ :: []), defers := [] } _
        refine wpAnyH_take (i := 6) (v := undef) rfl (by kernel_rfl) (by kernel_rfl) (by kernel_rfl) (fun _ _ _ h => h) (Or.inr ⟨by kernel_rfl, rfl⟩) hHeld ?_
        change wpAnyH _ _ _ _ _ _ _ { tmps := List.toArray (.slice (some ⟨eb, eo, none⟩) es.length cap :: _ :: _ :: .int .i64 B :: _ :: .pointer (some ⟨vb, 0, none⟩) :: _ :: _ :: _ :: _ :: _ :: _ :: _ :: _ :: _ :: _ :: .agg #[.float .f64 zr, .float .f64 zi] :: .float .f64 s1 :: .bool true :: .bool false :: .bool false :: undef :: undef :: _ :: _ :: _ :: _ :: _ :: _ :: _ :: _ :: _ :: _ :: _ :: _ :: _ :: _ :: []), defers := [] } _
        refine wpAnyH_take (i := 7) (v := undef) rfl (by kernel_rfl) (by kernel_rfl) (by kernel_rfl) (fun _ _ _ h => h) (Or.inr ⟨by kernel_rfl, rfl⟩) hHeld ?_
        change wpAnyH _ _ _ _ _ _ _ { tmps := List.toArray (.slice (some ⟨eb, eo, none⟩) es.length cap :: _ :: _ :: .int .i64 B :: _ :: .pointer (some ⟨vb, 0, none⟩) :: _ :: _ :: _ :: _ :: _ :: _ :: _ :: _ :: _ :: _ :: .agg #[.float .f64 zr, .float .f64 zi] :: .float .f64 s1 :: .bool true :: .bool false :: .bool false :: undef :: undef :: undef :: _ :: _ :: _ :: _ :: _ :: _ :: _ :: _ :: _ :: _ :: _ :: _ :: _ :: []), defers := [] } _
        refine wpAnyH_take (i := 8) (v := undef) rfl (by kernel_rfl) (by kernel_rfl) (by kernel_rfl) (fun _ _ _ h => h) (Or.inr ⟨by kernel_rfl, rfl⟩) hHeld ?_
        change wpAnyH _ _ _ _ _ _ _ { tmps := List.toArray (.slice (some ⟨eb, eo, none⟩) es.length cap :: _ :: _ :: .int .i64 B :: _ :: .pointer (some ⟨vb, 0, none⟩) :: _ :: _ :: _ :: _ :: _ :: _ :: _ :: _ :: _ :: _ :: .agg #[.float .f64 zr, .float .f64 zi] :: .float .f64 s1 :: .bool true :: .bool false :: .bool false :: undef :: undef :: undef :: undef :: _ :: _ :: _ :: _ :: _ :: _ :: _ :: _ :: _ :: _ :: _ :: _ :: []), defers := [] } _
        refine wpAnyH_take (i := 9) (v := undef) rfl (by kernel_rfl) (by kernel_rfl) (by kernel_rfl) (fun _ _ _ h => h) (Or.inr ⟨by kernel_rfl, rfl⟩) hHeld ?_
        change wpAnyH _ _ _ _ _ _ _ { tmps := List.toArray (.slice (some ⟨eb, eo, none⟩) es.length cap :: _ :: _ :: .int .i64 B :: _ :: .pointer (some ⟨vb, 0, none⟩) :: _ :: _ :: _ :: _ :: _ :: _ :: _ :: _ :: _ :: _ :: .agg #[.float .f64 zr, .float .f64 zi] :: .float .f64 s1 :: .bool true :: .bool false :: .bool false :: undef :: undef :: undef :: undef :: undef :: _ :: _ :: _ :: _ :: _ :: _ :: _ :: _ :: _ :: _ :: _ :: []), defers := [] } _
        refine wpAnyH_take (i := 10) (v := undef) rfl (by kernel_rfl) (by kernel_rfl) (by kernel_rfl) (fun _ _ _ h => h) (Or.inr ⟨by kernel_rfl, rfl⟩) hHeld ?_
        change wpAnyH _ _ _ _ _ _ _ { tmps := List.toArray (.slice (some ⟨eb, eo, none⟩) es.length cap :: _ :: _ :: .int .i64 B :: _ :: .pointer (some ⟨vb, 0, none⟩) :: _ :: _ :: _ :: _ :: _ :: _ :: _ :: _ :: _ :: _ :: .agg #[.float .f64 zr, .float .f64 zi] :: .float .f64 s1 :: .bool true :: .bool false :: .bool false :: undef :: undef :: undef :: undef :: undef :: undef :: _ :: _ :: _ :: _ :: _ :: _ :: _ :: _ :: _ :: _ :: []), defers := [] } _
        refine wpAnyH_take (i := 11) (v := undef) rfl (by kernel_rfl) (by kernel_rfl) (by kernel_rfl) (fun _ _ _ h => h) (Or.inr ⟨by kernel_rfl, rfl⟩) hHeld ?_
        change wpAnyH _ _ _ _ _ _ _ { tmps := List.toArray (.slice (some ⟨eb, eo, none⟩) es.length cap :: _ :: _ :: .int .i64 B :: _ :: .pointer (some ⟨vb, 0, none⟩) :: _ :: _ :: _ :: _ :: _ :: _ :: _ :: _ :: _ :: _ :: .agg #[.float .f64 zr, .float .f64 zi] :: .float .f64 s1 :: .bool true :: .bool false :: .bool false :: undef :: undef :: undef :: undef :: undef :: undef :: undef :: _ :: _ :: _ :: _ :: _ :: _ :: _ :: _ :: _ :: []), defers := [] } _
        refine wpAnyH_take (i := 12) (v := undef) rfl (by kernel_rfl) (by kernel_rfl) (by kernel_rfl) (fun _ _ _ h => h) (Or.inr ⟨by kernel_rfl, rfl⟩) hHeld ?_
        change wpAnyH _ _ _ _ _ _ _ { tmps := List.toArray (.slice (some ⟨eb, eo, none⟩) es.length cap :: _ :: _ :: .int .i64 B :: _ :: .pointer (some ⟨vb, 0, none⟩) :: _ :: _ :: _ :: _ :: _ :: _ :: _ :: _ :: _ :: _ :: .agg #[.float .f64 zr, .float .f64 zi] :: .float .f64 s1 :: .bool true :: .bool false :: .bool false :: undef :: undef :: undef :: undef :: undef :: undef :: undef :: undef :: _ :: _ :: _ :: _ :: _ :: _ :: _ :: _ :: []), defers := [] } _
        refine wpAnyH_take (i := 13) (v := undef) rfl (by kernel_rfl) (by kernel_rfl) (by kernel_rfl) (fun _ _ _ h => h) (Or.inr ⟨by kernel_rfl, rfl⟩) hHeld ?_
        change wpAnyH _ _ _ _ _ _ _ { tmps := List.toArray (.slice (some ⟨eb, eo, none⟩) es.length cap :: _ :: _ :: .int .i64 B :: _ :: .pointer (some ⟨vb, 0, none⟩) :: _ :: _ :: _ :: _ :: _ :: _ :: _ :: _ :: _ :: _ :: .agg #[.float .f64 zr, .float .f64 zi] :: .float .f64 s1 :: .bool true :: .bool false :: .bool false :: undef :: undef :: undef :: undef :: undef :: undef :: undef :: undef :: undef :: _ :: _ :: _ :: _ :: _ :: _ :: _ :: []), defers := [] } _
        refine wpAnyH_take (i := 14) (v := undef) rfl (by kernel_rfl) (by kernel_rfl) (by kernel_rfl) (fun _ _ _ h => h) (Or.inr ⟨by kernel_rfl, rfl⟩) hHeld ?_
        change wpAnyH _ _ _ _ _ _ _ { tmps := List.toArray (.slice (some ⟨eb, eo, none⟩) es.length cap :: _ :: _ :: .int .i64 B :: _ :: .pointer (some ⟨vb, 0, none⟩) :: _ :: _ :: _ :: _ :: _ :: _ :: _ :: _ :: _ :: _ :: .agg #[.float .f64 zr, .float .f64 zi] :: .float .f64 s1 :: .bool true :: .bool false :: .bool false :: undef :: undef :: undef :: undef :: undef :: undef :: undef :: undef :: undef :: undef :: _ :: _ :: _ :: _ :: _ :: _ :: []), defers := [] } _
        refine wpAnyH_take (i := 15) (v := undef) rfl (by kernel_rfl) (by kernel_rfl) (by kernel_rfl) (fun _ _ _ h => h) (Or.inr ⟨by kernel_rfl, rfl⟩) hHeld ?_
        change wpAnyH _ _ _ _ _ _ _ { tmps := List.toArray (.slice (some ⟨eb, eo, none⟩) es.length cap :: _ :: _ :: .int .i64 B :: _ :: .pointer (some ⟨vb, 0, none⟩) :: _ :: _ :: _ :: _ :: _ :: _ :: _ :: _ :: _ :: _ :: .agg #[.float .f64 zr, .float .f64 zi] :: .float .f64 s1 :: .bool true :: .bool false :: .bool false :: undef :: undef :: undef :: undef :: undef :: undef :: undef :: undef :: undef :: undef :: undef :: _ :: _ :: _ :: _ :: _ :: []), defers := [] } _
        refine wpAnyH_take (i := 16) (v := undef) rfl (by kernel_rfl) (by kernel_rfl) (by kernel_rfl) (fun _ _ _ h => h) (Or.inr ⟨by kernel_rfl, rfl⟩) hHeld ?_
        change wpAnyH _ _ _ _ _ _ _ { tmps := List.toArray (.slice (some ⟨eb, eo, none⟩) es.length cap :: _ :: _ :: .int .i64 B :: _ :: .pointer (some ⟨vb, 0, none⟩) :: _ :: _ :: _ :: _ :: _ :: _ :: _ :: _ :: _ :: _ :: .agg #[.float .f64 zr, .float .f64 zi] :: .float .f64 s1 :: .bool true :: .bool false :: .bool false :: undef :: undef :: undef :: undef :: undef :: undef :: undef :: undef :: undef :: undef :: undef :: undef :: _ :: _ :: _ :: _ :: []), defers := [] } _
        refine wpAnyH_take (i := 17) (v := .bool false) rfl (by kernel_rfl) (by kernel_rfl) (by kernel_rfl) (fun _ _ _ h => h) (Or.inl ⟨by kernel_rfl, fun w hS => by go_simp⟩) hHeld ?_
        change wpAnyH _ _ _ _ _ _ _ { tmps := List.toArray (.slice (some ⟨eb, eo, none⟩) es.length cap :: _ :: _ :: .int .i64 B :: _ :: .pointer (some ⟨vb, 0, none⟩) :: _ :: _ :: _ :: _ :: _ :: _ :: _ :: _ :: _ :: _ :: .agg #[.float .f64 zr, .float .f64 zi] :: .float .f64 s1 :: .bool true :: .bool false :: .bool false :: undef :: undef :: undef :: undef :: undef :: undef :: undef :: undef :: undef :: undef :: undef :: undef :: .bool false :: _ :: _ :: _ :: []), defers := [] } _
        refine wpAnyH_done (by kernel_rfl) ?_ _
        go_wp2
        go_roundw
        case rel => exact ⟨k + 1, by omega, by go_num, by rw [hnew.out], btrans hb (btrans hbv B1)⟩
        case measure => simp [intOf]; omega
    · obtain rfl : k = es.length := by omega
      clear he
      go_wp2
      go_ret
      exact ⟨rfl, hb⟩

set_option maxRecDepth 20000 in
set_option maxHeartbeats 12800000 in
theorem cLowS (a : Option Addr) (cap : Nat) (es : List ZV) (w : World) (he : Zs w a es) (hl : es.length ≤ maxLen) :
    Calls Try.prog 47 #[.slice a es.length cap] w fun e w' => e = .returned (.int .i64 (lowC (cs es))) ∧ Below w.heap.size w w' := by
  unfold maxLen at hl
  by_cases h40 : 40 < es.length
  · have h41 : (40 : Int) < es.length := by omega
    have E : lowC (cs es) = -1 := by unfold lowC; rw [cs_len, if_pos h40]
    rw [E]
    clear E
    go_enter Try.func47, Try.ntmps47
    go_wp2
    go_ret
    exact ⟨rfl, Below.refl _ _⟩
  have h41 : ¬ (40 : Int) < es.length := by omega
  have E : lowC (cs es) = lowI (cs es) es.length := by unfold lowC; rw [cs_len, if_neg h40]
  rw [E]
  have h42 : es.length ≤ 40 := by omega
  clear h40 hl E
  go_enter Try.func47, Try.ntmps47
  go_wp2
  go_loopw [3, 4, 5] (fun b i _ wr => ∃ k : Nat, k ≤ es.length ∧ i = .int .i64 k ∧ b = .int .i64 (lowI (cs es) k) ∧ Below w.heap.size w wr) (fun _ i _ _ => es.length - (intOf i).toNat)
  case atStart => exact ⟨0, Nat.zero_le _, rfl, rfl, Below.refl _ _⟩
  case round =>
    obtain ⟨k, hk, rfl, rfl, hb⟩ := hrel
    by_cases hlt : k < es.length
    · rcases he with h | ⟨eb, eo, rfl, q9⟩
      · simp [h] at hlt
      obtain ⟨p0, p1⟩ := q9 k hlt
      replace p0 := ble hb p0
      replace p1 := ble hb p1
      have hz := hide (szAt_cs hlt)
      have hQ := hide q9
      clear q9
      generalize es.getD k ZV.zero = z at *
      obtain ⟨zr, zi⟩ := z
      dsimp only at p0 p1
      have hin := hide (lowI_in (cs es) k)
      have hf1 := hide (fun h => low_first (l := cs es) (k := k) h)
      have hf2 := hide (fun j h => low_next (l := cs es) (k := k) (j := j) h)
      have hf3 := hide (fun h => low_nan (l := cs es) (k := k) h)
      generalize hBB : lowI (cs es) k = B at *
      go_wp2_with fail
      refine (cZSizeS2 zr zi _).mono ?_
      rintro e w1 ⟨s1, rfl, h1, hb1⟩
      have B1 := btrans hb hb1
      have hse := self_eq s1
      clear p0 p1 hb1
      cases hN : (zsize (ZV.c ⟨zr, zi⟩)).isNone
      · have hN1 := hide ((congrArg Option.isNone hz.out).trans hN)
        have hs : (FloatKind.f64.format.order s1 s1 == some .eq) = true := by rw [hse, h1]; cases hq : zsize (ZV.c ⟨zr, zi⟩) <;> simp_all
        clear hse hN
        rcases hin.out with rfl | ⟨hB0, hB1⟩
        · have hnew := hide (hf1.out hN1.out rfl)
          clear hf1 hf2 hf3 hin
          go_wp2
          go_roundw
          case rel => exact ⟨k + 1, by omega, by go_num, by rw [hnew.out], B1⟩
          case measure => simp [intOf]; omega
        · obtain ⟨j, rfl⟩ := Int.eq_ofNat_of_zero_le hB0
          have hjn : j < es.length := by omega
          obtain ⟨d0, d1⟩ := hQ.out j hjn
          replace d0 := ble B1 d0
          replace d1 := ble B1 d1
          have hx := hide (szAt_cs hjn)
          have hnew := hf2.out j hN1.out rfl
          rw [hz.out, hx.out] at hnew
          replace hnew := hide hnew
          clear hB0 hB1 hf1 hf2 hf3 hin
          generalize es.getD j ZV.zero = x at *
          obtain ⟨xr, xi⟩ := x
          dsimp only at d0 d1
          go_wp2_with fail
          refine (cZSizeS2 xr xi _).mono ?_
          rintro e w2 ⟨s2, rfl, h2, hb2⟩
          have B2 := btrans B1 hb2
          have hL : (FloatKind.f64.format.order s1 s2 == some .lt) = ltZ (zsize (ZV.c ⟨zr, zi⟩)) (zsize (ZV.c ⟨xr, xi⟩)) := by rw [order_cl, h1, h2]; rfl
          clear hb2 d0 d1
          cases hg : ltZ (zsize (ZV.c ⟨zr, zi⟩)) (zsize (ZV.c ⟨xr, xi⟩))
          · have hnew2 : Hid (lowI (cs es) (k + 1) = (j : Int)) := hide (by rw [hnew.out, hg]; rfl)
            rw [hg] at hL
            go_wp2
            go_roundw
            case rel => exact ⟨k + 1, by omega, by go_num, by rw [hnew2.out], B2⟩
            case measure => simp [intOf]; omega
          · have hnew2 : Hid (lowI (cs es) (k + 1) = (k : Int)) := hide (by rw [hnew.out, hg]; rfl)
            rw [hg] at hL
            go_wp2
            go_roundw
            case rel => exact ⟨k + 1, by omega, by go_num, by rw [hnew2.out], B2⟩
            case measure => simp [intOf]; omega
      · have hN1 := hide ((congrArg Option.isNone hz.out).trans hN)
        have hs : (FloatKind.f64.format.order s1 s1 == some .eq) = false := by rw [hse, h1]; cases hq : zsize (ZV.c ⟨zr, zi⟩) <;> simp_all
        have hnew := hide (hf3.out hN1.out)
        clear hse hN hf1 hf2 hf3 hin
        go_wp2
        go_roundw
        case rel => exact ⟨k + 1, by omega, by go_num, by rw [hnew.out], B1⟩
        case measure => simp [intOf]; omega
    · obtain rfl : k = es.length := by omega
      clear he
      go_wp2
      go_ret
      exact ⟨rfl, hb⟩
end Go.Proofs.Ytapnidhokpkmdaa
