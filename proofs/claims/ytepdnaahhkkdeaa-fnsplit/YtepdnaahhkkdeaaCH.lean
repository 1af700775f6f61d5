/- Through of program and model. -/
import Derived.Test.YtepdnaahhkkdeaaCG
import Derived.BigQuiet
import Derived.Deep.RegionHeld3
namespace Go.Proofs.Ytepdnaahhkkdeaa
open Go.RowKit
set_option maxHeartbeats 800000 in
theorem cStopsI (a : Option Addr) (cap : Nat) (zs : List Int) (w : World) (hz : Ints w a zs) (hl : zs.length ≤ 1048576) :
    Calls Try.prog 57 #[.slice a zs.length cap] w fun e w' => e = .returned (.bool (stopsB zs)) ∧ w' = w := by
  cases h : inB zs.length 2 20
  · have R := hide (show stopsB zs = false by simp only [stopsB, h, Bool.false_and])
    go_enter Try.func57, Try.ntmps57
    go_wp2_with (go_at_call 45; refine (cWithin _ _ _ _).mono ?_; rintro e w' ⟨rfl, rfl⟩)
    go_ret
    exact ⟨ret_bool R.out.symm, rfl⟩
  · have R := hide (show stopsB zs = zs.all zonB by simp only [stopsB, h, Bool.true_and])
    go_enter Try.func57, Try.ntmps57
    go_wp2_with (first | (go_at_call 45; refine (cWithin _ _ _ _).mono ?_; rintro e w' ⟨rfl, rfl⟩) | (go_at_call 46; refine (cAllZon _ _ zs _ hz hl).mono ?_; rintro e w' ⟨rfl, rfl⟩))
    go_ret
    exact ⟨ret_bool R.out.symm, rfl⟩

set_option maxHeartbeats 1600000 in
theorem cStopsS (a : Option Addr) (cap : Nat) (zs : List Int) (w : World) (hz : Ints w a zs) (hl : zs.length ≤ 1048576) :
    Calls Try.prog 56 #[.slice a zs.length cap] w fun e w' => e = .returned (.bool (stopsB zs)) ∧ w' = w := by
  go_enter Try.func56, Try.ntmps56
  go_wp2
  go_loop [3] (fun i => ∃ k : Nat, k ≤ zs.length ∧ i = .int .i64 k ∧ Hid ((zs.drop k).all zonB = zs.all zonB)) (fun i => zs.length - (intOf i).toNat)
  case atStart => exact ⟨0, Nat.zero_le _, rfl, hide rfl⟩
  case round =>
    obtain ⟨k, hk, rfl, hres⟩ := hrel
    by_cases hlt : k < zs.length
    · rcases hz with h | ⟨bb, off, rfl, hc⟩
      · simp [h] at hlt
      have q0 := hc k hlt
      have e0 : zs.getD k 0 = zs[k] := by simp [List.getD, hlt]
      rw [e0] at q0
      have hd := hide ((all_drop (P := zonB) hlt).symm.trans hres.out)
      clear hc e0 hres
      generalize zs[k] = y at *
      cases hy : inB y 0 19
      · have hf := hide (show stopsB zs = false by simp only [stopsB]; rw [← hd.out, show zonB y = false from hy]; simp)
        clear hd
        go_wp2_with (go_at_call 43; refine (cIn _ _ _ _).mono ?_; rintro e w' ⟨rfl, rfl⟩)
        go_ret
        exact ⟨ret_bool hf.out.symm, rfl⟩
      · have hf := hide (show (zs.drop (k + 1)).all zonB = zs.all zonB by rw [← hd.out, show zonB y = true from hy]; rfl)
        clear hd
        go_wp2_with (go_at_call 43; refine (cIn _ _ _ _).mono ?_; rintro e w' ⟨rfl, rfl⟩)
        go_round
        case rel => exact ⟨k + 1, by omega, by go_num, hf⟩
        case measure => simp [intOf]; omega
    · obtain rfl : k = zs.length := by omega
      have hf := hide (show inB zs.length 2 20 = stopsB zs by simp only [stopsB]; rw [← hres.out, List.drop_length]; simp)
      clear hres hz
      go_wp2_with (go_at_call 43; refine (cIn _ _ _ _).mono ?_; rintro e w' ⟨rfl, rfl⟩)
      go_ret
      exact ⟨ret_bool hf.out, rfl⟩
theorem stops_at {zs : List Int} (h : stopsB zs = true) {i : Nat} (hi : i < zs.length) : zonB (zs.getD i 0) = true := by
  simp only [stopsB, Bool.and_eq_true, List.all_eq_true] at h
  have e0 : zs.getD i 0 = zs[i] := by simp [List.getD, hi]
  rw [e0]
  exact h.2 _ (List.getElem_mem hi)
theorem stops_len {zs : List Int} (h : stopsB zs = true) : 2 ≤ zs.length ∧ zs.length ≤ 20 := by
  simp only [stopsB, Bool.and_eq_true] at h
  have := inB_true h.1
  omega

set_option maxRecDepth 20000 in
set_option maxHeartbeats 3200000 in
theorem cThroughI (b s r m : Int) (js : List Int) (a : Option Addr) (c : Nat) (za : Option Addr) (zc : Nat) (zs : List Int) (ca : Option Addr) (cc : Nat) (cs : List CardV) (w : World) (hz : Ints w a js) (hl : js.length ≤ 1048576) (hS : Ints w za zs) (hls : zs.length ≤ 1048576) (hL : Cards w ca cs) (hl2 : cs.length ≤ 1048576) :
    Calls Try.prog 28 #[.agg #[.int .i64 b, .int .i64 s, .slice a js.length c, .int .i64 r], .slice za zs.length zc, .slice ca cs.length cc, .int .i64 m] w fun e w' => e = .returned (.int .i64 (throughV b s js r zs cs m)) ∧ Below w.heap.size w w' := by
  have hW := balloc w (.cells #[.int .i64 b, .int .i64 s, .slice a js.length c, .int .i64 r] 27)
  have X := Bx4.new w (.int .i64 b) (.int .i64 s) (.slice a js.length c) (.int .i64 r) 27
  have C := cStopsI za zc zs _ (hS.below hW) hls
  cases h0 : stopsB zs
  · have R := hide (show throughV b s js r zs cs m = -1 by simp [throughV, h0])
    rw [h0] at C
    go_enter Try.func28, Try.ntmps28
    go_wp2_with (go_at_call 57; refine C.mono ?_; rintro e w' ⟨rfl, hw'⟩; subst w')
    go_ret
    exact ⟨ret_int R.out.symm, hW⟩
  rw [h0] at C
  have R := hide (show throughV b s js r zs cs m = cardedV b s js r (fareV b s js r (zs.getD 0 0) (zs.getD (zs.length - 1) 0)) cs m by simp [throughV, h0])
  have sl := stops_len h0
  go_enter Try.func28, Try.ntmps28
  go_wp2_with fail
  refine C.mono ?_
  rintro e w1 ⟨rfl, hw⟩
  subst w1
  clear C
  rcases hS with h | ⟨zb, off, rfl, hc⟩
  · simp [h] at sl
  have z0 := ble hW (hc 0 (by omega))
  have z1 := ble hW (hc (zs.length - 1) (by omega))
  have zbs := cell_lt (hc 0 (by omega))
  clear hc
  rw [Nat.add_zero] at z0
  obtain ⟨n, hn⟩ : ∃ n : Nat, zs.length = n + 1 := ⟨zs.length - 1, by omega⟩
  rw [hn, show n + 1 - 1 = n by omega] at z1 R
  have hnw : IntKind.i64.wrap (((n + 1 : Nat) : Int) - 1) = n := by rw [wrap_in _ (by omega) (by omega)]; omega
  have hn2 : n + 1 ≤ 20 := by omega
  have hnw2 : IntKind.i64.wrap (n : Int) = n := wrap_in _ (by omega) (by omega)
  have hn3 : (0 : Int) ≤ n := by omega
  have hn4 : (n : Int) < (n : Int) + 1 := by omega
  have hn5 : ((n : Int)).toNat = n := Int.toNat_natCast n
  have hn6 : n < n + 1 := by omega
  have CF := fun w1 (hb : Below w.heap.size w w1) => cFareI b s r (zs.getD 0 0) (zs.getD n 0) js a c w1 (hz.below hb) hl
  generalize zs.getD 0 0 = y0 at *
  generalize zs.getD n 0 = y1 at *
  generalize fareV b s js r y0 y1 = f at *
  have CD := fun w1 (hb : Below w.heap.size w w1) => cCardedI b s r f m js a c ca cc cs w1 (hz.below hb) hl (hL.below hb) hl2
  rw [hn]
  generalize hv1 : w.alloc (.cells #[.int .i64 b, .int .i64 s, .slice a js.length c, .int .i64 r] 27) = v at *
  obtain ⟨x0, x1, x2, x3⟩ := id X
  have hD := hW.drew
  clear hn hv1 h0
  go_wp2_with fail
  go_region_held3 (fun w' => w'.cell? ⟨w.heap.size, 0, none⟩ = some (.int .i64 b) ∧ w'.cell? ⟨w.heap.size, 1, none⟩ = some (.int .i64 s) ∧ w'.cell? ⟨w.heap.size, 2, none⟩ = some (.slice a js.length c) ∧ w'.cell? ⟨w.heap.size, 3, none⟩ = some (.int .i64 r) ∧ w'.cell? ⟨zb, off, none⟩ = some (.int .i64 y0) ∧ w'.cell? ⟨zb, off + n, none⟩ = some (.int .i64 y1)) (go_keep) (first
    | (go_at_call 25; with_reducible refine (CD _ Bq).mono ?_; rintro e wp ⟨rfl, hbp⟩; have Bp := btrans Bq hbp; have Bs := btrans Bt hbp; clear hbp; obtain ⟨v0, v1, v2, v3⟩ := X.c Bs; have v4 := ble Bs z0; have v5 := ble Bs z1)
    | (go_at_call 18; with_reducible refine (CF _ hD).mono ?_; rintro e wq ⟨rfl, hbq⟩; have Bq := btrans hD hbq; have Bt := undrew hbq; clear hbq; obtain ⟨v0, v1, v2, v3⟩ := X.c Bt; have v4 := ble Bt z0; have v5 := ble Bt z1))
  go_wp2
  go_ret
  exact ⟨ret_int R.out.symm, Bp⟩

set_option maxRecDepth 20000 in
set_option maxHeartbeats 3200000 in
theorem cThroughS (b s r m : Int) (js : List Int) (a : Option Addr) (c : Nat) (za : Option Addr) (zc : Nat) (zs : List Int) (ca : Option Addr) (cc : Nat) (cs : List CardV) (w : World) (hz : Ints w a js) (hl : js.length ≤ 1048576) (hS : Ints w za zs) (hls : zs.length ≤ 1048576) (hL : Cards w ca cs) (hl2 : cs.length ≤ 1048576) :
    Calls Try.prog 26 #[.agg #[.int .i64 b, .int .i64 s, .slice a js.length c, .int .i64 r], .slice za zs.length zc, .slice ca cs.length cc, .int .i64 m] w fun e w' => e = .returned (.int .i64 (throughV b s js r zs cs m)) ∧ Below w.heap.size w w' := by
  have hW := balloc w (.cells #[.int .i64 b, .int .i64 s, .slice a js.length c, .int .i64 r] 27)
  have X := Bx4.new w (.int .i64 b) (.int .i64 s) (.slice a js.length c) (.int .i64 r) 27
  have C := cStopsS za zc zs _ (hS.below hW) hls
  cases h0 : stopsB zs
  · have R := hide (show throughV b s js r zs cs m = -1 by simp [throughV, h0])
    rw [h0] at C
    go_enter Try.func26, Try.ntmps26
    go_wp2_with (go_at_call 56; refine C.mono ?_; rintro e w' ⟨rfl, hw'⟩; subst w')
    go_ret
    exact ⟨ret_int R.out.symm, hW⟩
  rw [h0] at C
  have R := hide (show throughV b s js r zs cs m = cardedV b s js r (fareV b s js r (zs.getD 0 0) (zs.getD (zs.length - 1) 0)) cs m by simp [throughV, h0])
  have sl := stops_len h0
  go_enter Try.func26, Try.ntmps26
  go_wp2_with fail
  refine C.mono ?_
  rintro e w1 ⟨rfl, hw⟩
  subst w1
  clear C
  rcases hS with h | ⟨zb, off, rfl, hc⟩
  · simp [h] at sl
  have z0 := ble hW (hc 0 (by omega))
  have z1 := ble hW (hc (zs.length - 1) (by omega))
  have zbs := cell_lt (hc 0 (by omega))
  clear hc
  rw [Nat.add_zero] at z0
  obtain ⟨n, hn⟩ : ∃ n : Nat, zs.length = n + 1 := ⟨zs.length - 1, by omega⟩
  rw [hn, show n + 1 - 1 = n by omega] at z1 R
  have hnw : IntKind.i64.wrap (((n + 1 : Nat) : Int) - 1) = n := by rw [wrap_in _ (by omega) (by omega)]; omega
  have hn2 : n + 1 ≤ 20 := by omega
  have hnw2 : IntKind.i64.wrap (n : Int) = n := wrap_in _ (by omega) (by omega)
  have hn3 : (0 : Int) ≤ n := by omega
  have hn4 : (n : Int) < (n : Int) + 1 := by omega
  have hn5 : ((n : Int)).toNat = n := Int.toNat_natCast n
  have hn6 : n < n + 1 := by omega
  have CF := fun w1 (hb : Below w.heap.size w w1) => cFareS b s r (zs.getD 0 0) (zs.getD n 0) js a c w1 (hz.below hb) hl
  generalize zs.getD 0 0 = y0 at *
  generalize zs.getD n 0 = y1 at *
  generalize fareV b s js r y0 y1 = f at *
  have CD := fun w1 (hb : Below w.heap.size w w1) => cCardedS b s r f m js a c ca cc cs w1 (hz.below hb) hl (hL.below hb) hl2
  rw [hn]
  generalize hv1 : w.alloc (.cells #[.int .i64 b, .int .i64 s, .slice a js.length c, .int .i64 r] 27) = v at *
  obtain ⟨x0, x1, x2, x3⟩ := id X
  have hD := hW.drew
  clear hn hv1 h0
  go_wp2_with fail
  go_region_held3 (fun w' => w'.cell? ⟨w.heap.size, 0, none⟩ = some (.int .i64 b) ∧ w'.cell? ⟨w.heap.size, 1, none⟩ = some (.int .i64 s) ∧ w'.cell? ⟨w.heap.size, 2, none⟩ = some (.slice a js.length c) ∧ w'.cell? ⟨w.heap.size, 3, none⟩ = some (.int .i64 r) ∧ w'.cell? ⟨zb, off, none⟩ = some (.int .i64 y0) ∧ w'.cell? ⟨zb, off + n, none⟩ = some (.int .i64 y1)) (go_keep) (first
    | (go_at_call 24; with_reducible refine (CD _ Bq).mono ?_; rintro e wp ⟨rfl, hbp⟩; have Bp := btrans Bq hbp; have Bs := btrans Bt hbp; clear hbp; obtain ⟨v0, v1, v2, v3⟩ := X.c Bs; have v4 := ble Bs z0; have v5 := ble Bs z1)
    | (go_at_call 17; with_reducible refine (CF _ hD).mono ?_; rintro e wq ⟨rfl, hbq⟩; have Bq := btrans hD hbq; have Bt := undrew hbq; clear hbq; obtain ⟨v0, v1, v2, v3⟩ := X.c Bt; have v4 := ble Bt z0; have v5 := ble Bt z1))
  go_wp2
  go_ret
  exact ⟨ret_int R.out.symm, Bp⟩
end Go.Proofs.Ytepdnaahhkkdeaa
