/- The walk of the law on squares: every rule of the borders is kept, and none could be one more. -/
import Derived.Test.YtnhcmjfmfgoakaaN
import Derived.Test.YtnhcmjfmfgoakaaZA
import Derived.Deep.CutRange
namespace Go.Proofs.Ytnhcmjfmfgoakaa
open Go.RowKit

set_option maxHeartbeats 800000 in
theorem c18 (a1 a2 : Option Addr) (c1 c2 : Nat) (xs : List Int) (w : World) (h1 : Ints w a1 xs) (h2 : Ints w a2 xs) (hl1 : xs.length ≤ 1048576) :
    Calls Try.prog 18 #[.slice a1 xs.length c1, .slice a2 xs.length c2] w fun e w' => e = .returned (.bool true) ∧ ∃ q, w' = w.drewN q := by
  go_enter Try.func18, Try.ntmps18
  go_wp2
  go_loopw [5] (fun i wr => ∃ k q : Nat, k ≤ xs.length ∧ i = .int .i64 k ∧ wr = w.drewN q) (fun i _ => xs.length - (intOf i).toNat)
  case atStart => exact ⟨0, 0, Nat.zero_le _, rfl, rfl⟩
  case round =>
    obtain ⟨k, q, hk, rfl, rfl⟩ := hrel
    by_cases hlt : k < xs.length
    · rcases h1 with h1 | ⟨b1, o1, rfl, hc1⟩
      · simp [h1] at hlt
      rcases h2 with h2 | ⟨b2, o2, rfl, hc2⟩
      · simp [h2] at hlt
      have hk1 := hc1 k hlt
      have hk2 := hc2 k hlt
      clear hc1 hc2
      go_wp2
      go_quiet (fail)
      go_wp2
      go_roundw
      case rel => exact ⟨k + 1, _, by omega, by go_num, rfl⟩
      case measure => simp [intOf]; omega
    · go_wp2
      go_ret
      exact ⟨rfl, _, rfl⟩

theorem c18n (a1 a2 : Option Addr) (c1 c2 n : Nat) (xs : List Int) (w : World) (hn : xs.length = n) (h1 : Ints w a1 xs) (h2 : Ints w a2 xs) (hl1 : n ≤ 1048576) :
    Calls Try.prog 18 #[.slice a1 n c1, .slice a2 n c2] w fun e w' => e = .returned (.bool true) ∧ ∃ q, w' = w.drewN q := by
  subst hn; exact c18 a1 a2 c1 c2 xs w h1 h2 hl1

set_option maxRecDepth 20000 in
set_option maxHeartbeats 20000000 in
theorem walk3 (a : Option Addr) (cap : Nat) (bs : List Int) (w : World) (hz : Bytes w a bs) (hl : bs.length ≤ maxLen) :
    Calls Try.prog 3 #[.slice a bs.length cap] w fun e w' => e = .returned (.bool true) ∧ Below w.heap.size w w' := by
  by_cases hbig : 1048576 < bs.length
  · have hb : decide (1048576 < bs.length) = true := by simpa using hbig
    go_enter Try.func3, Try.ntmps3
    go_wp2_with (go_at_call 15; refine (c15 _ _ _ _ hl).mono ?_; rintro e w2 ⟨rfl, hw⟩; obtain rfl := hw.symm)
    go_ret
    exact ⟨rfl, Below.refl _ _⟩
  have hb : decide (1048576 < bs.length) = false := by simpa using hbig
  have hl2 : bs.length ≤ 1048576 := by omega
  clear hbig
  go_enter Try.func3, Try.ntmps3
  go_wp2_with fail
  refine (c15 _ _ _ _ hl).mono ?_
  rintro e w1 ⟨rfl, hw⟩
  obtain rfl := hw.symm
  rw [hb]
  go_wp2_with fail
  refine (c16 a cap bs _ hz hl2).mono ?_
  rintro e w1 ⟨m, v, zs, rfl, hD, ho, h0, h1, hall, hb1⟩
  have R := Right.drawn hD h0 h1 hall
  have hl1 : zs.length ≤ 1048576 := by omega
  obtain ⟨ao, cp, rfl⟩ := own_form ho
  have hI := ints_own ho rfl
  have CI := fun (w' : World) (hz' : Ints w' ao zs) => c17 ao cp m zs w' hz' hl1
  have CS := fun (w' : World) (hz' : Ints w' ao zs) => c19 ao cp m zs w' hz' hl1
  have hlen : (sqs m zs).length = zs.length + 1 := by rw [sqs_yes R.mB R.cB]; simp
  have hG := fun (k : Nat) (hk : k ≤ zs.length) => sqs_get (k := k) R.mB R.cB hk
  have hTop := fun (k : Nat) (h1 : 1 ≤ k) (h2 : k < zs.length) => sqAt_top R h1 h2
  have hE0 := sqAt_ends R (.inl rfl) (Nat.zero_le _)
  have hE1 := sqAt_ends R (.inr rfl) (Nat.le_refl _)
  have hin := sqAt_in R
  have hV := fun (k : Nat) (h1 : 1 ≤ k) (h2 : k < zs.length) => (show capS m.t zs k = capV m.t zs k * capV m.t zs k by unfold capS; rw [if_neg (by omega)])
  have hZ := R.z
  have t0 := R.t0
  have t1 := R.t1
  have u0 := R.u0
  have u1 := R.u1
  have d0 := R.d0
  have d1 := R.d1
  have n1 := R.n1
  clear R hD hall
  have hVdef : ∀ k, capV m.t zs k = lo (lo m.t (zs.getD (k - 1) 0)) (zs.getD k 0) := fun _ => rfl
  rw [hlen] at CI CS
  generalize sqs m zs = SQ at *
  generalize sqAt m zs = S at *
  obtain ⟨u, d, t⟩ := m
  unfold MotorV.val at *
  replace t0 : 1 ≤ t := t0
  replace t1 : t ≤ 90 := t1
  replace u0 : 1 ≤ u := u0
  replace u1 : u ≤ 200 := u1
  replace d0 : 1 ≤ d := d0
  replace d1 : d ≤ 400 := d1
  have X1 := Bx3.new w1 (.int .i64 u) (.int .i64 d) (.int .i64 t) 25
  have I1 := hI.below (balloc w1 (.cells #[.int .i64 u, .int .i64 d, .int .i64 t] 25))
  have HB1 := btrans hb1 (balloc w1 (.cells #[.int .i64 u, .int .i64 d, .int .i64 t] 25))
  clear hb1 hI ho hz
  have hTop := hide hTop
  have hV := hide hV
  have hVdef := hide hVdef
  have hZ := hide hZ
  have hG := hide hG
  have hin := hide hin
  have CS := hide CS
  go_wp2_with fail
  refine (CI _ I1).mono ?_
  rintro e w2 ⟨v2, rfl, o2, hb⟩
  obtain ⟨a2, cp2, rfl⟩ := own_form o2
  have J2 := ints_own o2 hlen
  have X2 := X1.below hb
  have I2 := I1.below hb
  have HB2 := btrans HB1 hb
  clear X1 I1 HB1 hb CI o2
  rcases J2 with J2 | ⟨b, o, rfl, hc⟩
  · rw [J2] at hlen; simp at hlen
  have hc' : ∀ k, k ≤ zs.length → w2.cell? ⟨b, o + k, none⟩ = some (.int .i64 (S k)) := fun k hk => by rw [hc k (by omega), hG.out k hk]
  have c0 : w2.cell? ⟨b, o, none⟩ = some (.int .i64 0) := by have := hc' 0 (by omega); rwa [hE0, Nat.add_zero] at this
  have c1 : w2.cell? ⟨b, o + zs.length, none⟩ = some (.int .i64 0) := by have := hc' zs.length (by omega); rwa [hE1] at this
  have J2 : Ints w2 (some ⟨b, o, none⟩) SQ := .inr ⟨b, o, rfl, hc⟩
  have hc'' := hide hc'
  clear hc hc' hG
  have hlen := hide hlen
  obtain ⟨x0, x1, x2⟩ := id X2
  have hz0 : (0 : Int) ≤ (zs.length : Int) := by omega
  have hz1 : (zs.length : Int) < (zs.length : Int) + 1 := by omega
  go_wp2_with fail
  refine (CS.out _ I2).mono ?_
  rintro e w3 ⟨v3, rfl, o3, hb⟩
  obtain ⟨a3, cp3, rfl⟩ := own_form o3
  have J3 := ints_own o3 hlen.out
  have X3 := X2.below hb
  have I3 := I2.below hb
  have J23 := J2.below hb
  have HB3 := btrans HB2 hb
  have hc3 : Hid (∀ k, k ≤ zs.length → w3.cell? ⟨b, o + k, none⟩ = some (.int .i64 (S k))) := fun k hk => ble hb (hc''.out k hk)
  clear X2 I2 J2 HB2 hb o3 x0 x1 x2 c0 c1 hc''
  go_wp2_with fail
  refine (c18n _ _ _ _ (zs.length + 1) SQ _ hlen.out J23 J3 (by omega)).mono ?_
  rintro e w4 ⟨rfl, q4, hw⟩
  have hb : Below w3.heap.size w3 w4 := by rw [hw]; exact bdraw (Below.refl _ _) _
  have X4 := X3.below hb
  have I4 := I3.below hb
  have HB4 := btrans HB3 hb
  have hc4 : Hid (∀ k, k ≤ zs.length → w4.cell? ⟨b, o + k, none⟩ = some (.int .i64 (S k))) := fun k hk => ble hb (hc3.out k hk)
  clear X3 I3 J23 J3 HB3 hb hw hc3
  go_wp2_with fail
  go_loopw [6, 7, 8] (fun kk _ _ wr => ∃ q : Nat, q < zs.length ∧ kk = .int .i64 ((q : Int) + 1) ∧ Below w4.heap.size w4 wr) (fun kk _ _ _ => zs.length + 1 - (intOf kk).toNat)
  case atStart => exact ⟨0, by omega, rfl, Below.refl _ _⟩
  case round =>
    obtain ⟨q, hq, rfl, hbw⟩ := hrel
    by_cases hlt : q + 1 < zs.length
    · have hx0 := hZ.out q (by omega)
      have hy0 := hZ.out (q + 1) hlt
      have hVd := hVdef.out (q + 1)
      obtain ⟨x0, x1, x2⟩ := X4.below hbw
      rcases I4.below hbw with hnil | ⟨b', o', hao, hcz⟩
      · simp [hnil] at hlt
      subst hao
      have z1 := hcz q (by omega)
      have z2 := hcz (q + 1) hlt
      have y1 := ble hbw (hc4.out q (by omega))
      have y2 := ble hbw (hc4.out (q + 1) (by omega))
      have y3 := ble hbw (hc4.out (q + 1 + 1) (by omega))
      obtain ⟨k1, k2, k3, k4⟩ := hTop.out (q + 1) (by omega) hlt
      have hcv := hV.out (q + 1) (by omega) hlt
      replace hcv : capS t zs (q + 1) = capV t zs (q + 1) * capV t zs (q + 1) := hcv
      replace k1 : S (q + 1) ≤ capS t zs (q + 1) := k1
      replace k4 : ¬ (S (q + 1) + 1 ≤ capS t zs (q + 1) ∧ S (q + 1) + 1 ≤ S (q + 1 - 1) + u ∧ S (q + 1) + 1 ≤ S (q + 1 + 1) + d) := k4
      replace k2 : S (q + 1) ≤ S (q + 1 - 1) + u := k2
      replace k3 : S (q + 1) ≤ S (q + 1 + 1) + d := k3
      replace hVd : capV t zs (q + 1) = lo (lo t (zs.getD (q + 1 - 1) 0)) (zs.getD (q + 1) 0) := hVd
      rw [hcv] at k1 k4
      rw [Nat.add_sub_cancel] at k2 k4 hVd
      have i1 := hin.out q
      have i2 := hin.out (q + 1)
      have i3 := hin.out (q + 1 + 1)
      generalize zs.getD q 0 = x at *
      generalize zs.getD (q + 1) 0 = y at *
      generalize S (q + 1 + 1) = Nx at *
      generalize S (q + 1) = X at *
      generalize S q = P at *
      have hVdef := hVd
      clear hcv hVd hcz
      obtain ⟨xa, xb⟩ := hx0
      obtain ⟨ya, yb⟩ := hy0
      have w1' : (q : Int) + 1 < (zs.length : Int) := by omega
      have w2' : IntKind.i64.wrap (q : Int) = q := wrap_in _ (by omega) (by omega)
      have w3' : IntKind.i64.wrap ((q : Int) + 1) = (q : Int) + 1 := wrap_in _ (by omega) (by omega)
      have w4' : IntKind.i64.wrap ((q : Int) + 1 + 1) = (q : Int) + 1 + 1 := wrap_in _ (by omega) (by omega)
      have w5' : (0 : Int) ≤ (q : Int) + 1 := by omega
      have w6' : (0 : Int) ≤ (q : Int) + 1 + 1 := by omega
      have w7' : (q : Int) < (zs.length : Int) + 1 := by omega
      have w8' : (q : Int) + 1 < (zs.length : Int) + 1 := by omega
      have w9' : (q : Int) + 1 + 1 < (zs.length : Int) + 1 := by omega
      have g2 : ¬ P + u < X := by omega
      have g3 : ¬ Nx + d < X := by omega
      have v1 : IntKind.i64.wrap (P + u) = P + u := wrap_in _ (by omega) (by omega)
      have v2 : IntKind.i64.wrap (Nx + d) = Nx + d := wrap_in _ (by omega) (by omega)
      have v3 : IntKind.i64.wrap (X + 1) = X + 1 := wrap_in _ (by omega) (by omega)
      have hVin : 1 ≤ lo (lo t x) y ∧ lo (lo t x) y ≤ 90 := by unfold lo; repeat' split <;> omega
      rw [← hVdef] at hVin
      generalize capV t zs (q + 1) = V at *
      have hs := sq_wrap (v := V) (by omega) (by omega)
      have htn : ((q : Int) + 1 + 1).toNat = q + 1 + 1 := by omega
      have hVd := hide hVdef
      clear hVdef
      go_upto_if 61 with fail
      go_cut [7] from 47 to 141 (fun c wc => c = .int .i64 (lo t x) ∧ wc = wr)
      case first =>
        by_cases hx : x < t
        · go_wp2
          go_meet
          case rel => exact ⟨by unfold lo; rw [if_pos (by omega)], rfl⟩
        · go_wp2
          go_meet
          case rel => exact ⟨by unfold lo; rw [if_neg (by omega)], rfl⟩
      case rest =>
      obtain ⟨rfl, hwc⟩ := hcut
      obtain rfl := hwc.symm
      generalize hV1 : lo t x = V1 at *
      go_upto_if 72 with fail
      go_cut [7] from 47 to 141 (fun c wc => c = .int .i64 V ∧ wc = wr)
      case first =>
        by_cases hy : y < V1
        · have hV2 : V = y := by rw [hVd.out]; simp [lo, hy]
          go_wp2
          go_meet
          case rel => exact ⟨by rw [hV2], rfl⟩
        · have hV2 : V = V1 := by rw [hVd.out]; simp [lo, hy]
          have hV3 := hide hV2
          clear hV2
          go_wp2
          go_meet
          case rel => exact ⟨by rw [hV3.out], rfl⟩
      case rest =>
      obtain ⟨rfl, hwc⟩ := hcut
      obtain rfl := hwc.symm
      clear hV1 hVd
      generalize hCC : V * V = CC at *
      have g1 : ¬ CC < X := by omega
      by_cases e1 : X + 1 ≤ CC
      · by_cases e2 : X + 1 ≤ P + u
        · have e3 : ¬ X + 1 ≤ Nx + d := fun h => k4 ⟨e1, e2, h⟩
          have bb3 : decide (X + 1 ≤ Nx + d) = false := by simpa using e3
          go_wp2
          go_quiet (fail)
          go_wp2
          go_quiet (fail)
          go_wp2
          go_roundw
          case rel => exact ⟨q + 1, hlt, by go_num, bdraw hbw _⟩
          case measure => simp [intOf]; omega
        · have bb2 : decide (X + 1 ≤ P + u) = false := by simpa using e2
          go_wp2
          go_quiet (fail)
          go_wp2
          go_quiet (fail)
          go_wp2
          go_roundw
          case rel => exact ⟨q + 1, hlt, by go_num, bdraw hbw _⟩
          case measure => simp [intOf]; omega
      · have bb1 : decide (X + 1 ≤ CC) = false := by simpa using e1
        go_wp2
        go_quiet (fail)
        go_wp2
        go_quiet (fail)
        go_wp2
        go_roundw
        case rel => exact ⟨q + 1, hlt, by go_num, bdraw hbw _⟩
        case measure => simp [intOf]; omega
    · obtain rfl : q = zs.length - 1 := by omega
      have e1 : ((zs.length - 1 : Nat) : Int) + 1 = zs.length := by omega
      rw [e1]
      go_wp2
      go_ret
      exact ⟨rfl, btrans HB4 hbw⟩
end Go.Proofs.Ytnhcmjfmfgoakaa
