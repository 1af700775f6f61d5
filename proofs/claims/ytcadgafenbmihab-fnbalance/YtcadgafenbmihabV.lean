/- The walk of the law on the balance. -/
import Derived.Test.YtcadgafenbmihabU
namespace Go.Proofs.Ytcadgafenbmihab
open Go.RowKit Fl

attribute [local go_sem] run_store_float

theorem cars_own {w : World} {base n c : Nat} {a : Option Addr} {es : List CarV} (h : w.ownsRow base 38 4 (.slice a n c) n (flat es)) (hn : es.length = n) : Cars w a es := by
  rcases h.2 with ⟨_, h0⟩ | ⟨g, cap', cur, he, _⟩
  · left; cases es <;> simp_all
  · simp only [Value.slice.injEq] at he
    obtain ⟨rfl, _, rfl⟩ := he
    exact Cars.of_owns h

set_option maxRecDepth 20000 in
set_option maxHeartbeats 12800000 in
theorem walk3 (a : Option Addr) (cap : Nat) (bs : List Int) (w : World) (hz : Bytes w a bs) (hl : bs.length ≤ maxLen) :
    Calls Try.prog 3 #[.slice a bs.length cap] w fun e w' => e = .returned (.bool true) ∧ Below w.heap.size w w' := by
  by_cases hbig : 1048576 < bs.length
  · have hb : decide (1048576 < bs.length) = true := by simpa using hbig
    go_enter Try.func3, Try.ntmps3
    go_wp2_with (go_at_call 4; refine (cbig _ _ _ _ hl).mono ?_; rintro e w2 ⟨rfl, hw⟩; obtain rfl := hw.symm)
    go_ret
    exact ⟨rfl, Below.refl _ _⟩
  have hb : decide (1048576 < bs.length) = false := by simpa using hbig
  have hl2 : bs.length ≤ 1048576 := by omega
  clear hbig
  have A3 := atZ_in hz 3
  have A4 := atZ_in hz 4
  go_enter Try.func3, Try.ntmps3
  go_wp2_with fail
  refine (cbig _ _ _ _ hl).mono ?_
  rintro e w2 ⟨rfl, hw⟩
  obtain rfl := hw.symm
  clear hl
  rw [hb]
  go_wp2_with fail
  refine (c49 a cap bs _ hz hl2).mono ?_
  rintro e w1 ⟨p, g, v0, sp, uc, es, rfl, h1, h2, -, -, -, -, oc, HB1⟩
  clear hb
  obtain ⟨ac, cc, rfl⟩ := own_form oc
  have hle : es.length ≤ 1048576 := by have := train_len h2; omega
  have HB2 := btrans HB1 (balloc w1 (.cells #[.float .f64 p, .float .f64 g] 26))
  have X2 : Bx2 (w1.alloc (.cells #[.float .f64 p, .float .f64 g] 26)) w1.heap.size ⟨p, g⟩ := ⟨by simp, by simp⟩
  have oc2 := own_keep oc (balloc w1 (.cells #[.float .f64 p, .float .f64 g] 26))
  have C3 := cat a cap bs 3 (w1.alloc (.cells #[.float .f64 p, .float .f64 g] 26)) (hz.below HB2) hl2 (by omega)
  obtain ⟨s1, s2⟩ := slope_in2 (n := atZ bs 3 % 64) (by omega) (by omega)
  have o1 := fop s1
  clear s1
  generalize fdiv (floatOfInt .f64 (atZ bs 3 % 64 - 20)) k256 = sl at *
  go_wp2_with fail
  refine C3.mono ?_
  rintro e w4 ⟨rfl, hw⟩
  obtain rfl := hw.symm
  clear C3
  generalize w1.alloc (.cells #[.float .f64 p, .float .f64 g] 26) = w2 at *
  generalize w1.heap.size = b3 at *
  clear HB1 oc
  have BF := balFrom_le ⟨p, g⟩ es sl 201
  have BA := balFrom_at ⟨p, g⟩ es sl 201
  have BB := balFrom_above ⟨p, g⟩ es sl 201
  have BY := bal_yes h1 h2 s2
  rw [← BY] at BF BA BB
  have CB := fun w' hc => c45 ⟨p, g⟩ ac cc sl es w' hc hle
  have CS := fun w' hc => c44 ⟨p, g⟩ ac cc sl es w' hc hle
  obtain ⟨n4, hn4⟩ : ∃ n4 : Nat, atZ bs 4 % 32 = (n4 : Int) := ⟨(atZ bs 4 % 32).toNat, by omega⟩
  have hn4t : (atZ bs 4).tmod 32 = (n4 : Int) := by rw [Int.tmod_eq_emod_of_nonneg A4.1]; exact hn4
  obtain ⟨t1, t2, t3⟩ := steeper (n := n4) (by omega) s2
  have o2 := fop t1
  have o3 := fop t2
  clear t1 t2
  generalize fdiv (floatOfInt .f64 (n4 : Int)) k256 = sq at *
  have BM := bal_mono (s2 := fadd sl sq) h1 h2 s2 (fun _ => t3)
  have CT := fun w' hc => c45 ⟨p, g⟩ ac cc (fadd sl sq) es w' hc hle
  generalize fadd sl sq = sl2 at *
  generalize bal ⟨p, g⟩ es sl2 = V2 at *
  unfold LocoV.val at CB CS CT
  clear BY t3
  have CE := fun (n : Nat) w' => c27 ⟨p, g⟩ (floatOfInt .f64 (n : Int)) w'
  have CD := fun (n : Nat) w' hz => c34 ac cc es (floatOfInt .f64 (n : Int)) sl w' hz hle
  unfold LocoV.val at CE
  have FE : ∀ n : Nat, flt (effort ⟨p, g⟩ (floatOfInt .f64 (n : Int))) (drag es (floatOfInt .f64 (n : Int)) sl) = (FloatKind.f64.format.order (effort ⟨p, g⟩ (floatOfInt .f64 (n : Int))) (drag es (floatOfInt .f64 (n : Int)) sl) == some .lt) := fun n => rfl
  unfold fi at BA BB
  generalize bal ⟨p, g⟩ es sl = V at *
  obtain ⟨b0, b1⟩ := id X2
  dsimp only at b0 b1
  go_wp2_with fail
  clear b0 b1
  refine (CB _ (cars_own oc2 rfl)).mono ?_
  rintro e w5 ⟨rfl, hb⟩
  have HB5 := btrans HB2 hb
  have X5 := X2.below hb
  have oc5 := own_keep oc2 hb
  clear hb HB2 X2 oc2 CB o1
  obtain ⟨V0, V1⟩ := BF
  have V1' : V ≤ 200 := by omega
  clear V1
  -- the balance itself, then whatever is above it
  have key : ∀ (wx : World), Below w.heap.size w wx → Bx2 wx b3 ⟨p, g⟩ → wx.ownsRow w.heap.size 38 4 (.slice ac es.length cc) es.length (flat es) → True := fun _ _ _ _ => trivial
  clear key
  by_cases hV : 0 ≤ V
  · obtain ⟨n, rfl⟩ := Int.eq_ofNat_of_zero_le hV
    have hq := BA n rfl
    rw [FE n] at hq
    have hq' : (FloatKind.f64.format.order (effort ⟨p, g⟩ (floatOfInt .f64 (n : Int))) (drag es (floatOfInt .f64 (n : Int)) sl) == some .lt) = false := hq
    clear hq BA
    obtain ⟨b0, b1⟩ := id X5
    dsimp only at b0 b1
    go_wp2_with fail
    clear b0 b1
    refine (CE n _).mono ?_
    rintro e w6 ⟨rfl, hb⟩
    have HB6 := btrans HB5 hb
    have X6 := X5.below hb
    have oc6 := own_keep oc5 hb
    clear hb HB5 X5 oc5
    go_wp2_with fail
    refine (CD n _ (cars_own oc6 rfl)).mono ?_
    rintro e w7 ⟨rfl, hb⟩
    have HB7 := btrans HB6 hb
    have X7 := X6.below hb
    have oc7 := own_keep oc6 hb
    clear hb HB6 X6 oc6
    generalize effort ⟨p, g⟩ (floatOfInt .f64 (n : Int)) = ef at hq' ⊢
    generalize drag es (floatOfInt .f64 (n : Int)) sl = dr at hq' ⊢
    go_wp2_with fail
    clear hq'
    go_loopw [9] (fun ii wr => ∃ x : Nat, x ≤ 201 ∧ (n : Int) < (x : Int) ∧ ii = .int .i64 x ∧ Below w.heap.size w wr ∧ Bx2 wr b3 ⟨p, g⟩ ∧ wr.ownsRow w.heap.size 38 4 (.slice ac es.length cc) es.length (flat es)) (fun ii _ => 201 - (intOf ii).toNat)
    case atStart => exact ⟨n + 1, by omega, by omega, by go_num, HB7, X7, oc7⟩
    case round =>
      clear HB7 X7 oc7
      obtain ⟨x, hx, hVx, rfl, HB, X, oc⟩ := hrel
      by_cases hlt : x ≤ 200
      · have hq := BB x hVx (by omega)
        rw [FE x] at hq
        have hq' : FloatKind.f64.format.order (effort ⟨p, g⟩ (floatOfInt .f64 (x : Int))) (drag es (floatOfInt .f64 (x : Int)) sl) = some .lt := by simpa using hq
        clear hq
        obtain ⟨b0, b1⟩ := id X
        dsimp only at b0 b1
        go_wp2_with fail
        clear b0 b1
        refine (CE x _).mono ?_
        rintro e w6 ⟨rfl, hb⟩
        have HB6 := btrans HB hb
        have X6 := X.below hb
        have oc6 := own_keep oc hb
        clear hb HB X oc
        go_wp2_with fail
        refine (CD x _ (cars_own oc6 rfl)).mono ?_
        rintro e w7 ⟨rfl, hb⟩
        have HB7 := btrans HB6 hb
        have X7 := X6.below hb
        have oc7 := own_keep oc6 hb
        clear hb HB6 X6 oc6
        generalize effort ⟨p, g⟩ (floatOfInt .f64 (x : Int)) = ef at hq' ⊢
        generalize drag es (floatOfInt .f64 (x : Int)) sl = dr at hq' ⊢
        go_wp2
        go_roundw
        case rel => exact ⟨x + 1, by omega, by omega, by go_num, HB7, X7, oc7⟩
        case measure => simp [intOf]; omega
      · clear BB FE CE CD
        have C4 : ∀ w', Bytes w' a bs → Calls Try.prog 6 #[.slice a bs.length cap, .int .i64 4] w' (fun e w'' => e = .returned (.int .i64 (atZ bs 4)) ∧ w'' = w') := fun w' h => cat a cap bs 4 w' h hl2 (by omega)
        have zb := hz.below HB
        have zc := cars_own oc rfl
        obtain ⟨b0, b1⟩ := id X
        dsimp only at b0 b1
        have hbx := cell_lt b0
        go_wp2_with fail
        go_region_held3 (fun w' => w'.cell? ⟨b3, 0, none⟩ = some (.float .f64 p) ∧ w'.cell? ⟨b3, 1, none⟩ = some (.float .f64 g)) (go_keep) (first
          | (go_at_call 6; with_reducible refine (C4 _ (zb.below (Below.refl _ _).drew)).mono ?_; rintro e w' ⟨rfl, hw⟩; obtain rfl := hw.symm)
          | (go_at_call 10; with_reducible refine (CS _ (zc.below hb10)).mono ?_; rintro e w11 ⟨rfl, hb⟩; have hb11 := btrans hb10 hb; obtain ⟨hc2, hf2⟩ := bcell hb11; clear hb)
          | (go_at_call 7; with_reducible refine (CT _ (zc.below (Below.refl _ _).drew)).mono ?_; rintro e w10 ⟨rfl, hb⟩; have hb10 := undrew hb; obtain ⟨hc, hf⟩ := bcell hb10; clear hb))
        go_wp2
        go_ret
        exact ⟨ret_bool (by simp), btrans HB hb11⟩
  · obtain rfl : V = -1 := by omega
    have HB7 := HB5
    have X7 := X5
    have oc7 := oc5
    clear HB5 X5 oc5 BA
    go_wp2_with fail
    go_loopw [9] (fun ii wr => ∃ x : Nat, x ≤ 201 ∧ (-1 : Int) < (x : Int) ∧ ii = .int .i64 x ∧ Below w.heap.size w wr ∧ Bx2 wr b3 ⟨p, g⟩ ∧ wr.ownsRow w.heap.size 38 4 (.slice ac es.length cc) es.length (flat es)) (fun ii _ => 201 - (intOf ii).toNat)
    case atStart => exact ⟨0, by omega, by omega, rfl, HB7, X7, oc7⟩
    case round =>
      clear HB7 X7 oc7
      obtain ⟨x, hx, hVx, rfl, HB, X, oc⟩ := hrel
      by_cases hlt : x ≤ 200
      · have hq := BB x hVx (by omega)
        rw [FE x] at hq
        have hq' : FloatKind.f64.format.order (effort ⟨p, g⟩ (floatOfInt .f64 (x : Int))) (drag es (floatOfInt .f64 (x : Int)) sl) = some .lt := by simpa using hq
        clear hq
        obtain ⟨b0, b1⟩ := id X
        dsimp only at b0 b1
        go_wp2_with fail
        clear b0 b1
        refine (CE x _).mono ?_
        rintro e w6 ⟨rfl, hb⟩
        have HB6 := btrans HB hb
        have X6 := X.below hb
        have oc6 := own_keep oc hb
        clear hb HB X oc
        go_wp2_with fail
        refine (CD x _ (cars_own oc6 rfl)).mono ?_
        rintro e w7 ⟨rfl, hb⟩
        have HB7 := btrans HB6 hb
        have X7 := X6.below hb
        have oc7 := own_keep oc6 hb
        clear hb HB6 X6 oc6
        generalize effort ⟨p, g⟩ (floatOfInt .f64 (x : Int)) = ef at hq' ⊢
        generalize drag es (floatOfInt .f64 (x : Int)) sl = dr at hq' ⊢
        go_wp2
        go_roundw
        case rel => exact ⟨x + 1, by omega, by omega, by go_num, HB7, X7, oc7⟩
        case measure => simp [intOf]; omega
      · clear BB FE CE CD
        have C4 : ∀ w', Bytes w' a bs → Calls Try.prog 6 #[.slice a bs.length cap, .int .i64 4] w' (fun e w'' => e = .returned (.int .i64 (atZ bs 4)) ∧ w'' = w') := fun w' h => cat a cap bs 4 w' h hl2 (by omega)
        have zb := hz.below HB
        have zc := cars_own oc rfl
        obtain ⟨b0, b1⟩ := id X
        dsimp only at b0 b1
        have hbx := cell_lt b0
        go_wp2_with fail
        go_region_held3 (fun w' => w'.cell? ⟨b3, 0, none⟩ = some (.float .f64 p) ∧ w'.cell? ⟨b3, 1, none⟩ = some (.float .f64 g)) (go_keep) (first
          | (go_at_call 6; with_reducible refine (C4 _ (zb.below (Below.refl _ _).drew)).mono ?_; rintro e w' ⟨rfl, hw⟩; obtain rfl := hw.symm)
          | (go_at_call 10; with_reducible refine (CS _ (zc.below hb10)).mono ?_; rintro e w11 ⟨rfl, hb⟩; have hb11 := btrans hb10 hb; obtain ⟨hc2, hf2⟩ := bcell hb11; clear hb)
          | (go_at_call 7; with_reducible refine (CT _ (zc.below (Below.refl _ _).drew)).mono ?_; rintro e w10 ⟨rfl, hb⟩; have hb10 := undrew hb; obtain ⟨hc, hf⟩ := bcell hb10; clear hb))
        go_wp2
        go_ret
        exact ⟨ret_bool (by simp), btrans HB hb11⟩
end Go.Proofs.Ytcadgafenbmihab
