/- Right works: WorkOk of the program and of the model. -/
import Derived.Test.YtledkfhbdhlohaaCX
import Derived.Deep.RegionWith
import Derived.Deep.RegionHeld3
namespace Go.Proofs.Ytledkfhbdhlohaa
open Go.RowKit
theorem wB_n {zs : List Int} {ls : List LinkV} {x : Int} (h : 60 < zs.length) : workB zs ls x = false := by
  have : decide (zs.length ≤ 60) = false := by simp; omega
  simp only [workB, this, Bool.false_and]
theorem wB_m {zs : List Int} {ls : List LinkV} {x : Int} (h : zs.all minB = false) : workB zs ls x = false := by simp only [workB, h, Bool.false_and, Bool.and_false]
theorem wB_k {zs : List Int} {ls : List LinkV} {x : Int} (h : 150 < ls.length) : workB zs ls x = false := by
  have : decide (ls.length ≤ 150) = false := by simp; omega
  simp only [workB, this, Bool.false_and, Bool.and_false]
theorem wB_x {zs : List Int} {ls : List LinkV} {x : Int} (h : inB x 0 60 = false) : workB zs ls x = false := by simp only [workB, h, Bool.false_and, Bool.and_false]
theorem wB_all {zs : List Int} {ls : List LinkV} {x : Int} (h1 : zs.length ≤ 60) (h2 : zs.all minB = true) (h3 : ls.length ≤ 150) (h4 : inB x 0 60 = true) : workB zs ls x = ls.all (linkB zs) := by
  simp only [workB, h1, h2, h3, h4, decide_true, Bool.true_and]

set_option maxHeartbeats 1600000 in
theorem cWorkI (a b : Option Addr) (p q : Nat) (zs : List Int) (ls : List LinkV) (x : Int) (w : World) (hz : Ints w a zs) (hL : Links w b ls) (hl : zs.length ≤ 1048576) (hl2 : ls.length ≤ 1048576) :
    Calls Try.prog 8 #[.agg #[.slice a zs.length p, .slice b ls.length q, .int .i64 x]] w fun e w' => e = .returned (.bool (workB zs ls x)) ∧ Below w.heap.size w w' := by
  have hW := balloc w (.cells #[.slice a zs.length p, .slice b ls.length q, .int .i64 x] 30)
  have X := Bx3.new w (.slice a zs.length p) (.slice b ls.length q) (.int .i64 x) 30
  obtain ⟨x0, x1, x2⟩ := id X
  by_cases h1 : 60 < zs.length
  · have R := hide (wB_n (ls := ls) (x := x) h1)
    go_enter Try.func8, Try.ntmps8
    go_wp2
    go_ret
    exact ⟨ret_bool R.out.symm, hW⟩
  cases h2 : zs.all minB
  · have R := hide (wB_m (ls := ls) (x := x) h2)
    go_enter Try.func8, Try.ntmps8
    go_wp2_with (go_at_call 17; refine (cAllMin _ _ zs _ (hz.below hW) hl).mono ?_; rintro e w' ⟨rfl, rfl⟩)
    go_ret
    exact ⟨ret_bool R.out.symm, hW⟩
  by_cases h3 : 150 < ls.length
  · have R := hide (wB_k (zs := zs) (x := x) h3)
    go_enter Try.func8, Try.ntmps8
    go_wp2_with (go_at_call 17; refine (cAllMin _ _ zs _ (hz.below hW) hl).mono ?_; rintro e w' ⟨rfl, rfl⟩)
    go_ret
    exact ⟨ret_bool R.out.symm, hW⟩
  cases h4 : inB x 0 60
  · have R := hide (wB_x (zs := zs) (ls := ls) h4)
    go_enter Try.func8, Try.ntmps8
    go_wp2_with (first
      | (go_at_call 17; refine (cAllMin _ _ zs _ (hz.below hW) hl).mono ?_; rintro e w' ⟨rfl, rfl⟩)
      | (go_at_call 19; refine (cWithin _ _ _ _).mono ?_; rintro e w' ⟨rfl, rfl⟩))
    go_ret
    exact ⟨ret_bool R.out.symm, hW⟩
  have R := hide (wB_all (ls := ls) (by omega) h2 (by omega) h4)
  go_enter Try.func8, Try.ntmps8
  go_wp2_with (first
    | (go_at_call 17; refine (cAllMin _ _ zs _ (hz.below hW) hl).mono ?_; rintro e w' ⟨rfl, rfl⟩)
    | (go_at_call 19; refine (cWithin _ _ _ _).mono ?_; rintro e w' ⟨rfl, rfl⟩)
    | (go_at_call 20; refine (cAllLinks a b p q w.heap.size zs ls _ _ _ X (hz.below hW) h2 (hL.below hW) hl2).mono ?_; rintro e w' ⟨rfl, hb⟩; have HB := btrans hW hb))
  go_ret
  exact ⟨ret_bool R.out.symm, HB⟩

theorem inB_iff (x lo hi : Int) : inB x lo hi = decide (lo ≤ x ∧ x ≤ hi) := rfl

set_option maxHeartbeats 3200000 in
theorem cWorkS (a b : Option Addr) (p q : Nat) (zs : List Int) (ls : List LinkV) (x : Int) (w : World) (hz : Ints w a zs) (hL : Links w b ls) (hl : zs.length ≤ 1048576) (hl2 : ls.length ≤ 1048576) :
    Calls Try.prog 6 #[.agg #[.slice a zs.length p, .slice b ls.length q, .int .i64 x]] w fun e w' => e = .returned (.bool (workB zs ls x)) ∧ Below w.heap.size w w' := by
  have hW := balloc w (.cells #[.slice a zs.length p, .slice b ls.length q, .int .i64 x] 30)
  have X := Bx3.new w (.slice a zs.length p) (.slice b ls.length q) (.int .i64 x) 30
  obtain ⟨x0, x1, x2⟩ := id X
  by_cases h1 : 60 < zs.length
  · have R := hide (wB_n (ls := ls) (x := x) h1)
    go_enter Try.func6, Try.ntmps6
    go_wp2
    go_ret
    exact ⟨ret_bool R.out.symm, hW⟩
  by_cases h3 : 150 < ls.length
  · have R := hide (wB_k (zs := zs) (x := x) h3)
    go_enter Try.func6, Try.ntmps6
    go_wp2
    go_ret
    exact ⟨ret_bool R.out.symm, hW⟩
  cases h4 : inB x 0 60
  · have R := hide (wB_x (zs := zs) (ls := ls) h4)
    go_enter Try.func6, Try.ntmps6
    go_wp2_with (go_at_call 14; refine (cIn _ _ _ _).mono ?_; rintro e w' ⟨rfl, rfl⟩)
    go_ret
    exact ⟨ret_bool R.out.symm, hW⟩
  go_enter Try.func6, Try.ntmps6
  go_wp2_with (go_at_call 14; refine (cIn _ _ _ _).mono ?_; rintro e w' ⟨rfl, rfl⟩)
  go_loop [3] (fun i => ∃ k : Nat, k ≤ zs.length ∧ i = .int .i64 k ∧ Hid ((zs.drop k).all minB = zs.all minB)) (fun i => zs.length - (intOf i).toNat)
  case atStart => exact ⟨0, Nat.zero_le _, rfl, hide rfl⟩
  case round =>
    obtain ⟨k, hk, rfl, hres⟩ := hrel
    by_cases hlt : k < zs.length
    · rcases hz with h | ⟨bb, off, rfl, hc⟩
      · simp [h] at hlt
      have q0 := ble hW (hc k hlt)
      have e0 : zs.getD k 0 = zs[k] := by simp [List.getD, hlt]
      rw [e0] at q0
      have hd := hide ((all_drop (P := minB) hlt).symm.trans hres.out)
      clear hc e0 hres
      generalize zs[k] = y at *
      cases hy : inB y 0 100000
      · have hf := hide (show workB zs ls x = false from wB_m (by rw [← hd.out, show minB y = false from hy]; rfl))
        clear hd
        go_wp2_with (go_at_call 14; refine (cIn _ _ _ _).mono ?_; rintro e w' ⟨rfl, rfl⟩)
        go_ret
        exact ⟨ret_bool hf.out.symm, hW⟩
      · have hf := hide (show (zs.drop (k + 1)).all minB = zs.all minB by rw [← hd.out, show minB y = true from hy]; rfl)
        clear hd
        go_wp2_with (go_at_call 14; refine (cIn _ _ _ _).mono ?_; rintro e w' ⟨rfl, rfl⟩)
        go_round
        case rel => exact ⟨k + 1, by omega, by go_num, hf⟩
        case measure => simp [intOf]; omega
    · obtain rfl : k = zs.length := by omega
      have hm : zs.all minB = true := by rw [← hres.out, List.drop_length]; rfl
      clear hres
      have R := hide (wB_all (ls := ls) (by omega) hm (by omega) h4)
      have HM := hide hm
      clear hm
      go_wp2
      go_loopw [4, 5] (fun i _ wr => ∃ k : Nat, k ≤ ls.length ∧ i = .int .i64 k ∧ Hid ((ls.drop k).all (linkB zs) = ls.all (linkB zs)) ∧ Below (w.heap.size + 1) (w.alloc (.cells #[.slice a zs.length p, .slice b ls.length q, .int .i64 x] 30)) wr) (fun i _ _ => ls.length - (intOf i).toNat)
      case atStart => exact ⟨0, Nat.zero_le _, rfl, hide rfl, Below.refl _ _⟩
      case round =>
        obtain ⟨k, hk, rfl, hres, hb⟩ := hrel
        have hb' : Below (w.alloc (.cells #[.slice a zs.length p, .slice b ls.length q, .int .i64 x] 30)).heap.size (w.alloc (.cells #[.slice a zs.length p, .slice b ls.length q, .int .i64 x] 30)) wr := by rw [sz1]; exact hb
        have fin : Below w.heap.size w wr := btrans hW hb'
        have X1 := X.below hb'
        clear x0 x1 x2
        obtain ⟨x0, x1, x2⟩ := id X1
        have hws : w.heap.size < wr.heap.size := cell_lt x0
        clear hb' X1
        by_cases hlt : k < ls.length
        · rcases hL with h | ⟨bb, off, rfl, hc⟩
          · simp [h] at hlt
          obtain ⟨q0, q1, q2, q3⟩ := hc k hlt
          have p0 := ble fin q0
          have p1 := ble fin q1
          have p2 := ble fin q2
          have p3 := ble fin q3
          have hbs := cell_lt q0
          clear hc q0 q1 q2 q3
          have hd := hide ((all_drop (P := linkB zs) hlt).symm.trans hres.out)
          have e0 : ls.getD k LinkV.zero = ls[k] := by simp [List.getD, hlt]
          rw [e0] at p0 p1 p2 p3
          generalize ls[k] = y at *
          clear e0 hres
          obtain ⟨yf, yt, yl, yk⟩ := y
          dsimp only at p0 p1 p2 p3
          have bad := fun h : linkB zs ⟨yf, yt, yl, yk⟩ = false => hide (show workB zs ls x = false by rw [R.out, ← hd.out, h]; rfl)
          have F1 : Below w.heap.size w (wr.alloc (.cells #[.int .i64 yf, .int .i64 yt, .int .i64 yl, .int .i64 yk] 40)) := btrans fin (balloc _ _)
          cases ht : inB yt 0 (zs.length - 1)
          · have R2 := bad (by
              rcases inB_ff ht with h | h
              · by_cases h0 : yf < 0
                · exact lB_f h0
                · exact lB_t (by show yt ≤ yf; omega)
              · exact lB_n (by show (zs.length : Int) ≤ yt; omega))
            clear bad hb fin hd R
            go_wp2_with (go_at_call 14; refine (cIn _ _ _ _).mono ?_; rintro e w' ⟨rfl, rfl⟩)
            go_ret
            exact ⟨ret_bool R2.out.symm, F1⟩
          obtain ⟨ht0, ht1⟩ := inB_true ht
          cases hf : inB yf 0 (yt - 1)
          · have R2 := bad (by
              rcases inB_ff hf with h | h
              · exact lB_f h
              · exact lB_t (by show yt ≤ yf; omega))
            clear bad hb fin hd R
            go_wp2_with (go_at_call 14; refine (cIn _ _ _ _).mono ?_; rintro e w' ⟨rfl, rfl⟩)
            go_ret
            exact ⟨ret_bool R2.out.symm, F1⟩
          obtain ⟨hf0, hf1⟩ := inB_true hf
          cases hll : inB yl 0 1000
          · have R2 := bad (lB_l hll)
            clear bad hb fin hd R
            go_wp2_with (go_at_call 14; refine (cIn _ _ _ _).mono ?_; rintro e w' ⟨rfl, rfl⟩)
            go_ret
            exact ⟨ret_bool R2.out.symm, F1⟩
          obtain ⟨hl0, hl1⟩ := inB_true hll
          cases hkk : inB yk 0 1
          · have R2 := bad (lB_k hkk)
            clear bad hb fin hd R
            go_wp2_with (go_at_call 14; refine (cIn _ _ _ _).mono ?_; rintro e w' ⟨rfl, rfl⟩)
            go_ret
            exact ⟨ret_bool R2.out.symm, F1⟩
          have EL := lB_all (zs := zs) (l := ⟨yf, yt, yl, yk⟩) hf0 (by show yf < yt; omega) (by show yt < zs.length; omega) hll hkk
          obtain ⟨f, rfl⟩ := Int.eq_ofNat_of_zero_le hf0
          obtain ⟨t, rfl⟩ := Int.eq_ofNat_of_zero_le ht0
          have ES : slackI zs ⟨f, t, yl, yk⟩ = zs.getD t 0 - zs.getD f 0 - yl := by simp [slackI]
          rw [ES] at EL
          clear ES
          rcases hz with h | ⟨zb, zo, rfl, hc⟩
          · simp [h] at ht1; omega
          have F1 : Below w.heap.size w (wr.alloc (.cells #[.int .i64 f, .int .i64 t, .int .i64 yl, .int .i64 yk] 40)) := btrans fin (balloc _ _)
          have zt := ble F1 (hc t (by omega))
          have zf := ble F1 (hc f (by omega))
          have htl : t < zs.length := by omega
          have hfl : f < zs.length := by omega
          have mt := minB_at HM.out t
          have mf := minB_at HM.out f
          clear hc
          generalize zs.getD t 0 = T at *
          generalize zs.getD f 0 = F at *
          have w1 : IntKind.i64.wrap (F + yl) = F + yl := wrap_in _ (by omega) (by omega)
          by_cases hs : F + yl > T
          · have R2 := bad (by rw [EL]; simp; omega)
            have hs' : decide (T < F + yl) = true := by simp; omega
            clear bad hb fin hd R EL
            go_wp2_with (go_at_call 14; refine (cIn _ _ _ _).mono ?_; rintro e w' ⟨rfl, rfl⟩)
            go_region
            go_wp2
            go_ret
            exact ⟨ret_bool R2.out.symm, bdraw F1 _⟩
          · have hf := hide (show (ls.drop (k + 1)).all (linkB zs) = ls.all (linkB zs) by
              rw [← hd.out, EL]
              have : decide (0 ≤ T - F - yl) = true := by simp; omega
              rw [this]; rfl)
            have F2 := hb.trans ((balloc wr (.cells #[.int .i64 f, .int .i64 t, .int .i64 yl, .int .i64 yk] 40)).mono (show w.heap.size + 1 ≤ wr.heap.size by omega))
            clear bad hb fin hd EL
            go_wp2_with (go_at_call 14; refine (cIn _ _ _ _).mono ?_; rintro e w' ⟨rfl, rfl⟩)
            go_region
            go_wp2
            go_roundw
            case rel => exact ⟨k + 1, by omega, by go_num, hf, bdraw F2 _⟩
            case measure => simp [intOf]; omega
        · obtain rfl : k = ls.length := by omega
          have R2 := hide (show workB zs ls x = true by rw [R.out, ← hres.out, List.drop_length]; rfl)
          clear hL
          go_wp2
          go_ret
          exact ⟨ret_bool R2.out.symm, fin⟩
end Go.Proofs.Ytledkfhbdhlohaa
