/- Volts and Losses of the model. -/
import Derived.Test.YtapnidhokpkmdaaZF
import Derived.Test.YtapnidhokpkmdaaZG
import Derived.Deep.CutRange
namespace Go.Proofs.Ytapnidhokpkmdaa
open Go.RowKit Fl
attribute [local go_sem] run_store_float
theorem cZSizeS2 (a b : Nat) (w : World) : Calls Try.prog 37 #[.agg #[.float .f64 a, .float .f64 b]] w fun e w' => ∃ r, e = .returned (.float .f64 r) ∧ cl r = zsize (ZV.c ⟨a, b⟩) ∧ Below w.heap.size w w' := cZSizeS ⟨a, b⟩ w
theorem sums_at {ds ss : List ZV} (h : cs ss = sumsC (cs ds)) (h40 : ds.length ≤ 40) : ss.length = ds.length ∧ ∀ k, k < ds.length → (ss.getD k ZV.zero).c = sAt (cs ds) k := by
  unfold sumsC at h
  rw [cs_len, if_neg (by omega)] at h
  have hl : ss.length = ds.length := by have := congrArg List.length h; simpa [cs] using this
  refine ⟨hl, fun k hk => ?_⟩
  have h2 := congrArg (fun l => l[k]?) h
  have hk2 : k < ss.length := by omega
  simpa [cs, hk, hk2, List.getD] using h2
theorem vAt_succ (v : C2) (ls ds : List C2) (k : Nat) : vAt v ls ds (k + 1) = zsub (vAt v ls ds k) (zmul (gC ls k) (sAt ds k)) := rfl

set_option maxRecDepth 20000 in
set_option maxHeartbeats 6400000 in
theorem cVoltsS (v : ZV) (la da : Option Addr) (lc dc : Nat) (ls ds : List ZV) (w : World) (hls : Zs w la ls) (hds : Zs w da ds) (nl : ls.length ≤ maxLen) :
    Calls Try.prog 46 #[v.val, .slice la ls.length lc, .slice da ds.length dc] w (AnsZ w (voltsC v.c (cs ls) (cs ds))) := by
  obtain ⟨i0, hi, hz0, hz1, hz2⟩ := info_parts infoZs
  obtain ⟨vr, vi⟩ := v
  unfold ZV.val
  have HB := balloc w (.cells #[.float .f64 vr, .float .f64 vi] 26)
  have A0 : Bz _ w.heap.size ⟨vr, vi⟩ := one_block w (.cells #[.float .f64 vr, .float .f64 vi] 26)
  unfold maxLen at nl
  by_cases h1 : ls.length = ds.length
  · by_cases h2 : ls.length ≤ 40
    · rw [voltsC_yes (wireB_yes h1 h2), cs_len]
      have CC := fun w1 h => cSumsS da dc ds w1 h (by unfold maxLen; omega)
      have HS := hide (fun ss h => sums_at (ss := ss) (ds := ds) h (by omega))
      obtain ⟨n, hn⟩ : ∃ n, ls.length = n := ⟨_, rfl⟩
      have HN := hide hn
      have HM : Hid (ds.length = n) := hide (h1.symm.trans hn)
      rw [← h1, hn] at CC ⊢
      rw [hn] at h2
      clear h1 hn nl
      have h3 : ¬ (40 : Int) < n := by omega
      go_enter Try.func46, Try.ntmps46
      go_wp2_with fail
      generalize w.alloc (.cells #[.float .f64 vr, .float .f64 vi] 26) = w0 at *
      refine (CC w0 (hds.below HB)).mono ?_
      rintro e w1 ⟨sv, ss, rfl, hO, hcs, hb1⟩
      obtain ⟨hsl, hsa⟩ := HS.out ss hcs
      rw [HM.out] at hsl hsa
      rw [hsl] at hO
      obtain ⟨sa, sc, rfl⟩ := own_form hO
      have HSL := hide hsl
      have HSA := hide hsa
      clear CC hcs hsl hsa HS
      have A1 := keepB hb1 A0
      have HB1 := btrans HB hb1
      have hlt0 : w.heap.size < w0.heap.size := lt_of_block A0
      have hsb := own_from hO (Nat.le_refl _)
      have O0 : (w1.alloc (.cells #[] 26)).ownsRow w1.heap.size 26 2 (.slice (some ⟨w1.heap.size, 0, none⟩) 0 0) 0 (flatZs []) := World.ownsRow_made w1 #[] 0 (Nat.le_refl _) (by unfold maxLen; omega) rfl
      have hb0 := balloc w1 (.cells #[] 26)
      have hO1 := own_keep hO hb0
      have A2 : Bz (w1.alloc (.cells #[] 26)) w.heap.size ⟨vr, vi⟩ := keepB hb0 A1
      have HB2 := btrans HB1 hb0
      have hsl2 := own_blk_lt hO
      have hw01 : w0.heap.size ≤ w1.heap.size := hb1.size
      clear hO A1 A0 HB HB1 hb1 hb0
      go_wp2
      go_loopw [8, 9, 10] (fun v i _ wr => ∃ (k : Nat) (zs : List ZV) (z : ZV), k ≤ n ∧ i = .int .i64 k ∧ wr.ownsRow w1.heap.size 26 2 v k (flatZs zs) ∧ Done k k (fun j => vAt (ZV.c ⟨vr, vi⟩) (cs ls) (cs ds) (j + 1)) zs ∧ Bz wr w.heap.size z ∧ z.c = vAt (ZV.c ⟨vr, vi⟩) (cs ls) (cs ds) k ∧ wr.ownsRow w0.heap.size 26 2 (.slice sa n sc) n (flatZs ss) ∧ w1.heap.size ≤ wr.heap.size ∧ Below w.heap.size w wr) (fun _ i _ _ => n - (intOf i).toNat)
      case atStart => exact ⟨0, [], ⟨vr, vi⟩, Nat.zero_le _, rfl, O0, ⟨rfl, fun j h => by omega⟩, A2, rfl, hO1, by rw [sz1]; omega, HB2⟩
      case round =>
        clear O0 A2 hO1 HB2
        obtain ⟨k, zs, z, hk, rfl, O, hD, KZ, hz, hO, hw1r, hb⟩ := hrel
        obtain ⟨zr, zi⟩ := z
        obtain ⟨va, vc, rfl⟩ := own_form O
        by_cases hlt : k < n
        · have hkl : k < ls.length := by have := HN.out; omega
          have hks : k < ss.length := by have := HSL.out; omega
          rcases hls with h | ⟨lb, lo, rfl, q9⟩
          · simp [h] at hkl
          have hzs := Zs.own hO
          rcases hzs with h | ⟨sb, so, rfl, q8⟩
          · simp [h] at hks
          obtain ⟨p0, p1⟩ := q9 k hkl
          obtain ⟨q0, q1⟩ := q8 k hks
          replace p0 := ble hb p0
          replace p1 := ble hb p1
          have hG := hide (gC_cs hkl)
          have hc := hide (HSA.out k hlt)
          have hZ := hide hz
          clear q9 q8 hz
          generalize ls.getD k ZV.zero = x at *
          obtain ⟨xr, xi⟩ := x
          generalize ss.getD k ZV.zero = y at *
          obtain ⟨yr, yi⟩ := y
          dsimp only at p0 p1 q0 q1
          go_upto_region 8 with fail
          go_cut [10] from 24 to 53 (fun pv wc => GotZ wr (zmul (ZV.c ⟨xr, xi⟩) (ZV.c ⟨yr, yi⟩)) pv wc)
          case first =>
            refine wp_region_held_drew (S := (fun w' => w'.cell? ⟨lb, lo + k * 2, none⟩ = some (.float .f64 xr) ∧ w'.cell? ⟨lb, lo + k * 2 + 1, none⟩ = some (.float .f64 xi) ∧ w'.cell? ⟨sb, so + k * 2, none⟩ = some (.float .f64 yr) ∧ w'.cell? ⟨sb, so + k * 2 + 1, none⟩ = some (.float .f64 yi))) (by kernel_rfl) ?_ (fun hHeld => ?_)
            · go_keep
            have B0 : Below wr.heap.size wr wr.drew := (Below.refl _ _).drew
            generalize wr.drew = wd at *
            refine wpAnyH_take (i := 0) (v := .slice (some ⟨lb, lo, none⟩) n lc) rfl (by kernel_rfl) (by kernel_rfl) (by kernel_rfl) (fun _ _ _ h => h) (Or.inl ⟨by kernel_rfl, fun w hS => by go_simp⟩) hHeld ?_
            change wpAnyH _ _ _ _ _ _ _ { tmps := List.toArray (_ :: _ :: _ :: _ :: _ :: _ :: _ :: _ :: _ :: _ :: _ :: _ :: _ :: _ :: _ :: _ :: _ :: _ :: _ :: _ :: _ :: _ :: _ :: _ :: _ :: _ :: _ :: _ :: _ :: _ :: .slice (some ⟨lb, lo, none⟩) n lc :: _ :: _ :: _ :: _ :: _ :: _ :: _ :: _ :: _ :: _ :: _ :: _ :: _ :: _ :: _ :: _ :: _ :: _ :: _ :: _ :: _ :: _ :: _ :: _ :: []), defers := [] } _
            refine wpAnyH_take (i := 1) (v := .int .i64 k) rfl (by kernel_rfl) (by kernel_rfl) (by kernel_rfl) (fun _ _ _ h => h) (Or.inl ⟨by kernel_rfl, fun w hS => by go_simp⟩) hHeld ?_
            change wpAnyH _ _ _ _ _ _ _ { tmps := List.toArray (_ :: _ :: _ :: _ :: _ :: _ :: _ :: _ :: _ :: _ :: _ :: _ :: _ :: _ :: _ :: _ :: _ :: _ :: _ :: _ :: _ :: _ :: _ :: _ :: _ :: _ :: _ :: _ :: _ :: _ :: .slice (some ⟨lb, lo, none⟩) n lc :: .int .i64 k :: _ :: _ :: _ :: _ :: _ :: _ :: _ :: _ :: _ :: _ :: _ :: _ :: _ :: _ :: _ :: _ :: _ :: _ :: _ :: _ :: _ :: _ :: _ :: []), defers := [] } _
            refine wpAnyH_take (i := 2) (v := .pointer (some ⟨lb, lo + k * 2, none⟩)) rfl (by kernel_rfl) (by kernel_rfl) (by kernel_rfl) (fun _ _ _ h => h) (Or.inl ⟨by kernel_rfl, fun w hS => by go_simp⟩) hHeld ?_
            change wpAnyH _ _ _ _ _ _ _ { tmps := List.toArray (_ :: _ :: _ :: _ :: _ :: _ :: _ :: _ :: _ :: _ :: _ :: _ :: _ :: _ :: _ :: _ :: _ :: _ :: _ :: _ :: _ :: _ :: _ :: _ :: _ :: _ :: _ :: _ :: _ :: _ :: .slice (some ⟨lb, lo, none⟩) n lc :: .int .i64 k :: .pointer (some ⟨lb, lo + k * 2, none⟩) :: _ :: _ :: _ :: _ :: _ :: _ :: _ :: _ :: _ :: _ :: _ :: _ :: _ :: _ :: _ :: _ :: _ :: _ :: _ :: _ :: _ :: _ :: []), defers := [] } _
            refine wpAnyH_take (i := 3) (v := .agg #[.float .f64 xr, .float .f64 xi]) rfl (by kernel_rfl) (by kernel_rfl) (by kernel_rfl) (fun _ _ _ h => h) (Or.inl ⟨by kernel_rfl, fun w hS => by (obtain ⟨hS0, hS1, hS2, hS3⟩ := hS; go_simp)⟩) hHeld ?_
            change wpAnyH _ _ _ _ _ _ _ { tmps := List.toArray (_ :: _ :: _ :: _ :: _ :: _ :: _ :: _ :: _ :: _ :: _ :: _ :: _ :: _ :: _ :: _ :: _ :: _ :: _ :: _ :: _ :: _ :: _ :: _ :: _ :: _ :: _ :: _ :: _ :: _ :: .slice (some ⟨lb, lo, none⟩) n lc :: .int .i64 k :: .pointer (some ⟨lb, lo + k * 2, none⟩) :: .agg #[.float .f64 xr, .float .f64 xi] :: _ :: _ :: _ :: _ :: _ :: _ :: _ :: _ :: _ :: _ :: _ :: _ :: _ :: _ :: _ :: _ :: _ :: _ :: _ :: _ :: _ :: []), defers := [] } _
            refine wpAnyH_take (i := 4) (v := .slice (some ⟨sb, so, none⟩) n sc) rfl (by kernel_rfl) (by kernel_rfl) (by kernel_rfl) (fun _ _ _ h => h) (Or.inl ⟨by kernel_rfl, fun w hS => by go_simp⟩) hHeld ?_
            change wpAnyH _ _ _ _ _ _ _ { tmps := List.toArray (_ :: _ :: _ :: _ :: _ :: _ :: _ :: _ :: _ :: _ :: _ :: _ :: _ :: _ :: _ :: _ :: _ :: _ :: _ :: _ :: _ :: _ :: _ :: _ :: _ :: _ :: _ :: _ :: _ :: _ :: .slice (some ⟨lb, lo, none⟩) n lc :: .int .i64 k :: .pointer (some ⟨lb, lo + k * 2, none⟩) :: .agg #[.float .f64 xr, .float .f64 xi] :: .slice (some ⟨sb, so, none⟩) n sc :: _ :: _ :: _ :: _ :: _ :: _ :: _ :: _ :: _ :: _ :: _ :: _ :: _ :: _ :: _ :: _ :: _ :: _ :: _ :: _ :: []), defers := [] } _
            refine wpAnyH_take (i := 5) (v := .int .i64 k) rfl (by kernel_rfl) (by kernel_rfl) (by kernel_rfl) (fun _ _ _ h => h) (Or.inl ⟨by kernel_rfl, fun w hS => by go_simp⟩) hHeld ?_
            change wpAnyH _ _ _ _ _ _ _ { tmps := List.toArray (_ :: _ :: _ :: _ :: _ :: _ :: _ :: _ :: _ :: _ :: _ :: _ :: _ :: _ :: _ :: _ :: _ :: _ :: _ :: _ :: _ :: _ :: _ :: _ :: _ :: _ :: _ :: _ :: _ :: _ :: .slice (some ⟨lb, lo, none⟩) n lc :: .int .i64 k :: .pointer (some ⟨lb, lo + k * 2, none⟩) :: .agg #[.float .f64 xr, .float .f64 xi] :: .slice (some ⟨sb, so, none⟩) n sc :: .int .i64 k :: _ :: _ :: _ :: _ :: _ :: _ :: _ :: _ :: _ :: _ :: _ :: _ :: _ :: _ :: _ :: _ :: _ :: _ :: _ :: []), defers := [] } _
            refine wpAnyH_take (i := 6) (v := .pointer (some ⟨sb, so + k * 2, none⟩)) rfl (by kernel_rfl) (by kernel_rfl) (by kernel_rfl) (fun _ _ _ h => h) (Or.inl ⟨by kernel_rfl, fun w hS => by go_simp⟩) hHeld ?_
            change wpAnyH _ _ _ _ _ _ _ { tmps := List.toArray (_ :: _ :: _ :: _ :: _ :: _ :: _ :: _ :: _ :: _ :: _ :: _ :: _ :: _ :: _ :: _ :: _ :: _ :: _ :: _ :: _ :: _ :: _ :: _ :: _ :: _ :: _ :: _ :: _ :: _ :: .slice (some ⟨lb, lo, none⟩) n lc :: .int .i64 k :: .pointer (some ⟨lb, lo + k * 2, none⟩) :: .agg #[.float .f64 xr, .float .f64 xi] :: .slice (some ⟨sb, so, none⟩) n sc :: .int .i64 k :: .pointer (some ⟨sb, so + k * 2, none⟩) :: _ :: _ :: _ :: _ :: _ :: _ :: _ :: _ :: _ :: _ :: _ :: _ :: _ :: _ :: _ :: _ :: _ :: _ :: []), defers := [] } _
            refine wpAnyH_take (i := 7) (v := .agg #[.float .f64 yr, .float .f64 yi]) rfl (by kernel_rfl) (by kernel_rfl) (by kernel_rfl) (fun _ _ _ h => h) (Or.inl ⟨by kernel_rfl, fun w hS => by (obtain ⟨hS0, hS1, hS2, hS3⟩ := hS; go_simp)⟩) hHeld ?_
            change wpAnyH _ _ _ _ _ _ _ { tmps := List.toArray (_ :: _ :: _ :: _ :: _ :: _ :: _ :: _ :: _ :: _ :: _ :: _ :: _ :: _ :: _ :: _ :: _ :: _ :: _ :: _ :: _ :: _ :: _ :: _ :: _ :: _ :: _ :: _ :: _ :: _ :: .slice (some ⟨lb, lo, none⟩) n lc :: .int .i64 k :: .pointer (some ⟨lb, lo + k * 2, none⟩) :: .agg #[.float .f64 xr, .float .f64 xi] :: .slice (some ⟨sb, so, none⟩) n sc :: .int .i64 k :: .pointer (some ⟨sb, so + k * 2, none⟩) :: .agg #[.float .f64 yr, .float .f64 yi] :: _ :: _ :: _ :: _ :: _ :: _ :: _ :: _ :: _ :: _ :: _ :: _ :: _ :: _ :: _ :: _ :: _ :: []), defers := [] } _
            refine wpAnyH_ready (rs := [8, 9]) (by kernel_rfl) (by simp) ?_
            refine (AllReadyH.cons rfl (fun KK hK => ?_) (AllReadyH.cons rfl (fun KK hK => ?_) AllReadyH.nil))
            · skip
              go_simp
              refine (cZMulS2 xr xi yr yi _).mono ?_
              rintro e w3 ⟨pr, pi, rfl, hC, hb⟩
              have B3 := btrans B0 hb
              clear hb
              go_wp2_with fail
              clear hHeld
              refine hK.out _ _ (⟨ble B3 p0, ble B3 p1, ble B3 q0, ble B3 q1⟩) (fun hHeld => ?_)
              clear hK KK
              change wpAnyH _ _ _ _ _ _ _ { tmps := List.toArray (_ :: _ :: _ :: _ :: _ :: _ :: _ :: _ :: _ :: _ :: _ :: _ :: _ :: _ :: _ :: _ :: _ :: _ :: _ :: _ :: _ :: _ :: _ :: _ :: _ :: _ :: _ :: _ :: _ :: _ :: .slice (some ⟨lb, lo, none⟩) n lc :: .int .i64 k :: .pointer (some ⟨lb, lo + k * 2, none⟩) :: .agg #[.float .f64 xr, .float .f64 xi] :: .slice (some ⟨sb, so, none⟩) n sc :: .int .i64 k :: .pointer (some ⟨sb, so + k * 2, none⟩) :: .agg #[.float .f64 yr, .float .f64 yi] :: .agg #[.float .f64 pr, .float .f64 pi] :: _ :: _ :: _ :: _ :: _ :: _ :: _ :: _ :: _ :: _ :: _ :: _ :: _ :: _ :: _ :: _ :: []), defers := [] } _
              refine wpAnyH_ready (rs := [9]) (by kernel_rfl) (by simp) ?_
              refine (AllReadyH.cons rfl (fun KK hK => ?_) AllReadyH.nil)
              go_simp
              have Ba := btrans B3 (balloc w3 (.cells #[.float .f64 0, .float .f64 0] 26))
              have zB : (w3.alloc (.cells #[.float .f64 0, .float .f64 0] 26)).heap[w3.heap.size]? = some (.cells #[.float .f64 0, .float .f64 0] 26 (0, 0)) := one_block w3 _
              have zlo : wr.heap.size ≤ w3.heap.size := B3.size
              clear hHeld
              refine hK.out _ _ (⟨ble Ba p0, ble Ba p1, ble Ba q0, ble Ba q1⟩) (fun hHeld => ?_)
              clear hK KK
              change wpAnyH _ _ _ _ _ _ _ { tmps := List.toArray (_ :: _ :: _ :: _ :: _ :: _ :: _ :: _ :: _ :: _ :: .pointer (some ⟨w3.heap.size, 0, none⟩) :: _ :: _ :: _ :: _ :: _ :: _ :: _ :: _ :: _ :: _ :: _ :: _ :: _ :: _ :: _ :: _ :: _ :: _ :: _ :: .slice (some ⟨lb, lo, none⟩) n lc :: .int .i64 k :: .pointer (some ⟨lb, lo + k * 2, none⟩) :: .agg #[.float .f64 xr, .float .f64 xi] :: .slice (some ⟨sb, so, none⟩) n sc :: .int .i64 k :: .pointer (some ⟨sb, so + k * 2, none⟩) :: .agg #[.float .f64 yr, .float .f64 yi] :: .agg #[.float .f64 pr, .float .f64 pi] :: _ :: _ :: _ :: _ :: _ :: _ :: _ :: _ :: _ :: _ :: _ :: _ :: _ :: _ :: _ :: _ :: []), defers := [] } _
              refine wpAnyH_ready (rs := [10]) (by kernel_rfl) (by simp) ?_
              refine (AllReadyH.cons rfl (fun KK hK => ?_) AllReadyH.nil)
              have Bs := btrans B3 (balloc w3 (.cells #[.float .f64 pr, .float .f64 pi] 26))
              go_simp
              clear hHeld
              refine hK.out _ _ (⟨ble Bs p0, ble Bs p1, ble Bs q0, ble Bs q1⟩) (fun hHeld => ?_)
              clear hK KK
              change wpAnyH _ _ _ _ _ _ _ { tmps := List.toArray (_ :: _ :: _ :: _ :: _ :: _ :: _ :: _ :: _ :: _ :: .pointer (some ⟨w3.heap.size, 0, none⟩) :: _ :: _ :: _ :: _ :: _ :: _ :: _ :: _ :: _ :: _ :: _ :: _ :: _ :: _ :: _ :: _ :: _ :: _ :: _ :: .slice (some ⟨lb, lo, none⟩) n lc :: .int .i64 k :: .pointer (some ⟨lb, lo + k * 2, none⟩) :: .agg #[.float .f64 xr, .float .f64 xi] :: .slice (some ⟨sb, so, none⟩) n sc :: .int .i64 k :: .pointer (some ⟨sb, so + k * 2, none⟩) :: .agg #[.float .f64 yr, .float .f64 yi] :: .agg #[.float .f64 pr, .float .f64 pi] :: _ :: _ :: _ :: _ :: _ :: _ :: _ :: _ :: _ :: _ :: _ :: _ :: _ :: _ :: _ :: _ :: []), defers := [] } _
              refine wpAnyH_done (by kernel_rfl) ?_ _
              go_wp2_with fail
              go_meet
              exact gotN B3 hC
            · skip
              go_simp
              have Ba := btrans B0 (balloc wd (.cells #[.float .f64 0, .float .f64 0] 26))
              have zB : (wd.alloc (.cells #[.float .f64 0, .float .f64 0] 26)).heap[wd.heap.size]? = some (.cells #[.float .f64 0, .float .f64 0] 26 (0, 0)) := one_block wd _
              have zlo : wr.heap.size ≤ wd.heap.size := B0.size
              clear hHeld
              refine hK.out _ _ (⟨ble Ba p0, ble Ba p1, ble Ba q0, ble Ba q1⟩) (fun hHeld => ?_)
              clear hK KK
              change wpAnyH _ _ _ _ _ _ _ { tmps := List.toArray (_ :: _ :: _ :: _ :: _ :: _ :: _ :: _ :: _ :: _ :: .pointer (some ⟨wd.heap.size, 0, none⟩) :: _ :: _ :: _ :: _ :: _ :: _ :: _ :: _ :: _ :: _ :: _ :: _ :: _ :: _ :: _ :: _ :: _ :: _ :: _ :: .slice (some ⟨lb, lo, none⟩) n lc :: .int .i64 k :: .pointer (some ⟨lb, lo + k * 2, none⟩) :: .agg #[.float .f64 xr, .float .f64 xi] :: .slice (some ⟨sb, so, none⟩) n sc :: .int .i64 k :: .pointer (some ⟨sb, so + k * 2, none⟩) :: .agg #[.float .f64 yr, .float .f64 yi] :: _ :: _ :: _ :: _ :: _ :: _ :: _ :: _ :: _ :: _ :: _ :: _ :: _ :: _ :: _ :: _ :: _ :: []), defers := [] } _
              refine wpAnyH_ready (rs := [8]) (by kernel_rfl) (by simp) ?_
              refine (AllReadyH.cons rfl (fun KK hK => ?_) AllReadyH.nil)
              go_simp
              refine (cZMulS2 xr xi yr yi _).mono ?_
              rintro e w3 ⟨pr, pi, rfl, hC, hb⟩
              have B3 := btrans Ba hb
              have zB := keepB hb zB
              clear hb
              go_wp2_with fail
              clear hHeld
              refine hK.out _ _ (⟨ble B3 p0, ble B3 p1, ble B3 q0, ble B3 q1⟩) (fun hHeld => ?_)
              clear hK KK
              change wpAnyH _ _ _ _ _ _ _ { tmps := List.toArray (_ :: _ :: _ :: _ :: _ :: _ :: _ :: _ :: _ :: _ :: .pointer (some ⟨wd.heap.size, 0, none⟩) :: _ :: _ :: _ :: _ :: _ :: _ :: _ :: _ :: _ :: _ :: _ :: _ :: _ :: _ :: _ :: _ :: _ :: _ :: _ :: .slice (some ⟨lb, lo, none⟩) n lc :: .int .i64 k :: .pointer (some ⟨lb, lo + k * 2, none⟩) :: .agg #[.float .f64 xr, .float .f64 xi] :: .slice (some ⟨sb, so, none⟩) n sc :: .int .i64 k :: .pointer (some ⟨sb, so + k * 2, none⟩) :: .agg #[.float .f64 yr, .float .f64 yi] :: .agg #[.float .f64 pr, .float .f64 pi] :: _ :: _ :: _ :: _ :: _ :: _ :: _ :: _ :: _ :: _ :: _ :: _ :: _ :: _ :: _ :: _ :: []), defers := [] } _
              refine wpAnyH_ready (rs := [10]) (by kernel_rfl) (by simp) ?_
              refine (AllReadyH.cons rfl (fun KK hK => ?_) AllReadyH.nil)
              obtain ⟨⟨z0, z1⟩, y0, y1⟩ := twoC zB
              have Bs : Below wr.heap.size wr ((w3.setCell ⟨wd.heap.size, 0, none⟩ (.float .f64 pr)).setCell ⟨wd.heap.size, 1, none⟩ (.float .f64 pi)) := below_set zlo (below_set zlo B3)
              go_simp
              clear hHeld
              refine hK.out _ _ (⟨ble Bs p0, ble Bs p1, ble Bs q0, ble Bs q1⟩) (fun hHeld => ?_)
              clear hK KK
              change wpAnyH _ _ _ _ _ _ _ { tmps := List.toArray (_ :: _ :: _ :: _ :: _ :: _ :: _ :: _ :: _ :: _ :: .pointer (some ⟨wd.heap.size, 0, none⟩) :: _ :: _ :: _ :: _ :: _ :: _ :: _ :: _ :: _ :: _ :: _ :: _ :: _ :: _ :: _ :: _ :: _ :: _ :: _ :: .slice (some ⟨lb, lo, none⟩) n lc :: .int .i64 k :: .pointer (some ⟨lb, lo + k * 2, none⟩) :: .agg #[.float .f64 xr, .float .f64 xi] :: .slice (some ⟨sb, so, none⟩) n sc :: .int .i64 k :: .pointer (some ⟨sb, so + k * 2, none⟩) :: .agg #[.float .f64 yr, .float .f64 yi] :: .agg #[.float .f64 pr, .float .f64 pi] :: _ :: _ :: _ :: _ :: _ :: _ :: _ :: _ :: _ :: _ :: _ :: _ :: _ :: _ :: _ :: _ :: []), defers := [] } _
              refine wpAnyH_done (by kernel_rfl) ?_ _
              go_wp2_with fail
              go_meet
              exact gotS B3 zB zlo hC
          case rest =>
          obtain ⟨⟨b3, pr, pi, rfl, K3, hC, hlo⟩, hb3⟩ := hcut
          have O3 := own_keep O hb3
          have hO3 := own_keep hO hb3
          have KZ3 : Bz wc w.heap.size ⟨zr, zi⟩ := keepB hb3 KZ
          have HB3 := btrans hb hb3
          have hW1 : Hid (w1.heap.size ≤ wc.heap.size) := hide (Nat.le_trans hw1r hb3.size)
          clear p0 p1 q0 q1 O hO KZ hb hb3
          obtain ⟨⟨c0, c1⟩, f0, f1⟩ := twoC KZ3
          obtain ⟨⟨c2, c3⟩, -⟩ := twoC K3
          have M := fsub_run
          go_upto_region 10 with fail
          generalize hp : fr .sub zr pr _ = sr
          generalize hq : fr .sub zi pi _ = si
          have hS : ZV.c ⟨sr, si⟩ = vAt (ZV.c ⟨vr, vi⟩) (cs ls) (cs ds) (k + 1) := by
            rw [vAt_succ, hG.out, ← hc.out, ← hZ.out, ← hC, ← hp, ← hq]
            simp only [ZV.c, zsub, cl_fr]
          clear hp hq hC hG hc hZ
          generalize nd BinOp.sub zr pr + nd BinOp.sub zi pi = N
          have HBd := Go.Joins.below_draws wc.heap.size wc N
          have KZ4 := KZ3.set (y := ⟨sr, si⟩) HBd
          have O4 := own_set (b := w.heap.size) (i := 1) (u := .float .f64 si) (own_set (b := w.heap.size) (i := 0) (u := .float .f64 sr) (own_keep O3 HBd) (fun j hj => by have := own_from O3 (Nat.le_refl _) j hj; omega)) (fun j hj => by have := own_from O3 (Nat.le_refl _) j hj; omega)
          have hO4 := own_set (b := w.heap.size) (i := 1) (u := .float .f64 si) (own_set (b := w.heap.size) (i := 0) (u := .float .f64 sr) (own_keep hO3 HBd) (fun j hj => by have := hsb j hj; omega)) (fun j hj => by have := hsb j hj; omega)
          have hW4 : w1.heap.size ≤ (((wc.drewN N).setCell ⟨w.heap.size, 0, none⟩ (.float .f64 sr)).setCell ⟨w.heap.size, 1, none⟩ (.float .f64 si)).heap.size := by simpa using hW1.out
          have HB4 := below_set (b := w.heap.size) (o := 1) (v := .float .f64 si) (Nat.le_refl _) (below_set (b := w.heap.size) (o := 0) (v := .float .f64 sr) (Nat.le_refl _) (bdraw HB3 N))
          clear HBd KZ3 O3 hO3 HB3 c0 c1 c2 c3 f0 f1 K3
          generalize ((wc.drewN N).setCell ⟨w.heap.size, 0, none⟩ (.float .f64 sr)).setCell ⟨w.heap.size, 1, none⟩ (.float .f64 si) = W4 at *
          have hN := one_block W4 (.cells #[.float .f64 sr, .float .f64 si] 26)
          have hb6 := balloc W4 (.cells #[.float .f64 sr, .float .f64 si] 26)
          have ho6 := own_keep O4 hb6
          have hO6 := own_keep hO4 hb6
          have KZ6 : Bz _ w.heap.size ⟨sr, si⟩ := keepB hb6 KZ4
          have hbx := btrans HB4 hb6
          have hD6 := hD.push (z := ⟨sr, si⟩) hS
          have hlo1 := own_blk_lt O4
          have hw1W : w1.heap.size ≤ W4.heap.size + 1 := by omega
          obtain ⟨⟨k0, k1⟩, -⟩ := twoC KZ4
          clear hD KZ4 O4 hO4 HB4
          go_wp2_with (at_builtin; refine wpList_append_own _ rfl _ _ 27 rfl w1.heap.size 26 i0 _ 2 16 Try.underlying27 hi hz0 hz1 hz2 rfl (by decide) _ _ _ rfl ho6 ⟨W4.heap.size, 0, none⟩ 1 1 [.float .f64 sr, .float .f64 si] rfl rfl ?c1 ?c2 ?c3 ?c4 ?c5 ?_)
          case c2 => exact ⟨rfl, rfl⟩
          case c3 => unfold maxLen; omega
          case c4 => omega
          intro v2 w5 hown hgrow _
          have hb5 := hbx.grown hgrow hbx.size (fun j hj => by have := own_from ho6 (Nat.le_refl _) j hj; omega)
          have hO5 := own_far hO6 hgrow (fun j hj e => by have h1 := hsl2 j hj; have h2 := own_from ho6 (Nat.le_refl _) j e.symm; omega)
          have KZ5 : Bz w5 w.heap.size ⟨sr, si⟩ := (hgrow.block _ (lt_of_block KZ6) (fun e => by have h2 := own_from ho6 (Nat.le_refl _) _ e.symm; omega)).trans KZ6
          have hw15 : w1.heap.size ≤ w5.heap.size := Nat.le_trans (by rw [sz1]; exact hw1W) hgrow.size
          rw [← flatZs_one zs ⟨sr, si⟩] at hown
          clear hgrow hN ho6 hbx hb6 hO6 KZ6 k0 k1
          go_wp2
          go_roundw
          case rel => exact ⟨k + 1, _, ⟨sr, si⟩, by omega, by go_num, hown, hD6, KZ5, hS, hO5, hw15, hb5⟩
          case measure => simp [intOf]; omega
        · obtain rfl : k = n := by omega
          clear hls hds hO
          have hcs := hD.cs
          have hlz := hD.len
          go_wp2
          go_ret
          exact ⟨_, zs, rfl, by rw [hlz]; exact own_base O (by omega), hcs, hb⟩
    · rw [voltsC_no (wireB_no2 h2)]
      have h3 : (40 : Int) < ls.length := by omega
      rw [← h1]
      clear h2
      go_enter Try.func46, Try.ntmps46
      go_wp2
      go_ret
      exact AnsZ.no HB
  · rw [voltsC_no (wireB_no1 h1)]
    have h3 : ((ls.length : Int) != (ds.length : Int)) = true := by simp; omega
    clear h1
    go_enter Try.func46, Try.ntmps46
    go_wp2
    go_ret
    exact AnsZ.no HB

set_option maxRecDepth 20000 in
set_option maxHeartbeats 6400000 in
theorem cLossesS (la da : Option Addr) (lc dc : Nat) (ls ds : List ZV) (w : World) (hls : Zs w la ls) (hds : Zs w da ds) (nl : ls.length ≤ maxLen) :
    Calls Try.prog 27 #[.slice la ls.length lc, .slice da ds.length dc] w fun e w' => ∃ r, e = .returned (.float .f64 r) ∧ cl r = lossC (cs ls) (cs ds) ∧ Below w.heap.size w w' := by
  unfold maxLen at nl
  by_cases h1 : ls.length = ds.length
  · by_cases h2 : ls.length ≤ 40
    · rw [lossC_yes (wireB_yes h1 h2), cs_len]
      have CC := fun w1 h => cSumsS da dc ds w1 h (by unfold maxLen; omega)
      have HS := hide (fun ss h => sums_at (ss := ss) (ds := ds) h (by omega))
      obtain ⟨n, hn⟩ : ∃ n, ls.length = n := ⟨_, rfl⟩
      have HN := hide hn
      have HM : Hid (ds.length = n) := hide (h1.symm.trans hn)
      rw [← h1, hn] at CC ⊢
      rw [hn] at h2
      clear h1 hn nl
      have h3 : ¬ (40 : Int) < n := by omega
      go_enter Try.func27, Try.ntmps27
      go_wp2_with fail
      refine (CC w hds).mono ?_
      rintro e w1 ⟨sv, ss, rfl, hO, hcs, hb1⟩
      obtain ⟨hsl, hsa⟩ := HS.out ss hcs
      rw [HM.out] at hsl hsa
      rw [hsl] at hO
      obtain ⟨sa, sc, rfl⟩ := own_form hO
      have HSL := hide hsl
      have HSA := hide hsa
      have hzs := Zs.own hO
      clear CC hcs hsl hsa HS hO
      go_wp2
      go_loopw [5, 7, 8] (fun s i _ wr => ∃ (k r : Nat), k ≤ n ∧ i = .int .i64 k ∧ s = .float .f64 r ∧ cl r = lAt (cs ls) (cs ds) k ∧ Below w1.heap.size w1 wr) (fun _ i _ _ => n - (intOf i).toNat)
      case atStart => exact ⟨0, 0, Nat.zero_le _, rfl, rfl, rfl, Below.refl _ _⟩
      case round =>
        obtain ⟨k, r, hk, rfl, rfl, hr, hb⟩ := hrel
        by_cases hlt : k < n
        · have hkl : k < ls.length := by have := HN.out; omega
          have hks : k < ss.length := by have := HSL.out; omega
          rcases hls with h | ⟨lb, lo, rfl, q9⟩
          · simp [h] at hkl
          rcases hzs with h | ⟨sb, so, rfl, q8⟩
          · simp [h] at hks
          obtain ⟨p0, p1⟩ := q9 k hkl
          obtain ⟨q0, q1⟩ := q8 k hks
          replace p0 := ble (btrans hb1 hb) p0
          replace q0 := ble hb q0
          replace q1 := ble hb q1
          have hG := hide (gC_cs hkl)
          have hc := hide (HSA.out k hlt)
          have hR := hide hr
          clear q9 q8 hr p1
          generalize ls.getD k ZV.zero = x at *
          obtain ⟨xr, xi⟩ := x
          generalize ss.getD k ZV.zero = y at *
          obtain ⟨yr, yi⟩ := y
          dsimp only at p0 q0 q1
          have M := fadd_run
          have N := fmul_run
          go_wp2_with fail
          go_region_with (go_at_call 37; refine (cZSizeS2 yr yi _).mono ?_; rintro e w5 ⟨s5, rfl, h5, hb5⟩; have B5 := undrew hb5; have v0 := ble B5 p0)
          all_goals go_wp2_with fail
          all_goals generalize hp : fr .mul s5 xr _ = t6
          all_goals generalize hq : fr .add r t6 _ = r2
          all_goals have hR2 : cl r2 = lAt (cs ls) (cs ds) (k + 1) := (by rw [lAt_succ, hG.out, ← hc.out, ← hR.out, ← hq, cl_fr, ← hp, cl_fr, h5]; rfl)
          all_goals exact ⟨⟨k + 1, r2, by omega, by go_num, rfl, hR2, bdraw (btrans hb B5) _⟩, by simp [intOf]; omega⟩
        · obtain rfl : k = n := by omega
          clear hls hds hzs
          go_wp2
          go_ret
          exact ⟨r, rfl, hr, btrans hb1 hb⟩
    · rw [lossC_no (wireB_no2 h2)]
      have h3 : (40 : Int) < ls.length := by omega
      rw [← h1]
      clear h2
      go_enter Try.func27, Try.ntmps27
      go_wp2
      go_ret
      exact ⟨0, rfl, rfl, Below.refl _ _⟩
  · rw [lossC_no (wireB_no1 h1)]
    have h3 : ((ls.length : Int) != (ds.length : Int)) = true := by simp; omega
    clear h1
    go_enter Try.func27, Try.ntmps27
    go_wp2
    go_ret
    exact ⟨0, rfl, rfl, Below.refl _ _⟩
end Go.Proofs.Ytapnidhokpkmdaa
