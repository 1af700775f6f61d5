/- Where an id is among bookings: comparing, the search, find. -/
import Derived.Test.YtgnlcehpajbnoaaBY
import Derived.Deep.RegionHeld3
namespace Go.Proofs.Ytgnlcehpajbnoaa
open Go.RowKit Go.Lib
def cmpI (x y : Int) : Int := if x < y then -1 else if y < x then 1 else 0
theorem cmpI_cases (x y : Int) : (x < y ∧ cmpI x y = -1) ∨ (x = y ∧ cmpI x y = 0) ∨ (y < x ∧ cmpI x y = 1) := by
  unfold cmpI; split
  · left; omega
  · split
    · right; right; omega
    · right; left; omega
set_option maxHeartbeats 400000 in
theorem cNaN (x : Int) (w : World) : Calls Try.prog 98 #[.int .i64 x] w fun e w' => e = .returned (.bool false) ∧ w' = w := by
  go_enter Try.func98, Try.ntmps98
  go_wp2
  go_ret
  exact ⟨by simp, rfl⟩

set_option maxHeartbeats 800000 in
theorem cCompare (x y : Int) (w : World) : Calls Try.prog 93 #[.int .i64 x, .int .i64 y] w fun e w' => e = .returned (.int .i64 (cmpI x y)) ∧ w' = w := by
  rcases cmpI_cases x y with ⟨h1, e1⟩ | ⟨h1, e1⟩ | ⟨h1, e1⟩ <;> rw [e1] <;> clear e1
  · go_enter Try.func93, Try.ntmps93
    go_wp2_with (go_at_call 98; refine (cNaN _ _).mono ?_; rintro e w' ⟨rfl, rfl⟩)
    go_ret
    exact ⟨rfl, rfl⟩
  · subst h1
    go_enter Try.func93, Try.ntmps93
    go_wp2_with (go_at_call 98; refine (cNaN _ _).mono ?_; rintro e w' ⟨rfl, rfl⟩)
    go_ret
    exact ⟨rfl, rfl⟩
  · have h2 : ¬ x < y := by omega
    go_enter Try.func93, Try.ntmps93
    go_wp2_with (go_at_call 98; refine (cNaN _ _).mono ?_; rintro e w' ⟨rfl, rfl⟩)
    go_ret
    exact ⟨rfl, rfl⟩

theorem cmpI_neg {x y : Int} : cmpI x y < 0 ↔ x < y := by rcases cmpI_cases x y with ⟨h, e⟩ | ⟨h, e⟩ | ⟨h, e⟩ <;> rw [e] <;> omega
theorem cmpI_zero {x y : Int} : (cmpI x y == 0) = decide (x = y) := by
  rcases cmpI_cases x y with ⟨h, e⟩ | ⟨h, e⟩ | ⟨h, e⟩ <;> rw [e]
  · rw [decide_eq_false (by omega)]; rfl
  · rw [decide_eq_true h]; rfl
  · rw [decide_eq_false (by omega)]; rfl

set_option maxHeartbeats 800000 in
theorem cLess (xi xs xn xf id : Int) (w : World) : Calls Try.prog 92 #[.agg #[.int .i64 xi, .int .i64 xs, .int .i64 xn, .int .i64 xf], .int .i64 id] w fun e w' => e = .returned (.int .i64 (cmpI xi id)) ∧ Below w.heap.size w w' := by
  have hb := balloc w (.cells #[.int .i64 xi, .int .i64 xs, .int .i64 xn, .int .i64 xf] 78)
  go_enter Try.func92, Try.ntmps92
  go_wp2_with fail
  refine (cCompare xi id _).mono ?_
  rintro e w1 ⟨rfl, rfl⟩
  go_wp2
  go_ret
  exact ⟨rfl, hb⟩
theorem pair_get {es : List BkV} (hs : es.Pairwise fun a b => a.i < b.i) {i j : Nat} (hij : i < j) (hj : j < es.length) : (es.getD i BkV.zero).i < (es.getD j BkV.zero).i := by
  have := List.pairwise_iff_getElem.1 hs i j (by omega) hj hij
  simpa [List.getD, hj, show i < es.length by omega] using this
/-- What the middle of the search tells. -/
def MidStep (es : List BkV) (t : Int) (lo hi m : Nat) (y : Int) : Prop :=
  (y < t → ∀ i, i < m + 1 → (es.getD i BkV.zero).i < t) ∧ (¬ y < t → ∀ i, m ≤ i → i < es.length → t ≤ (es.getD i BkV.zero).i) ∧ (∀ i, i < lo → (es.getD i BkV.zero).i < t) ∧ (∀ i, hi ≤ i → i < es.length → t ≤ (es.getD i BkV.zero).i)
theorem mid_step {es : List BkV} {t : Int} {lo hi m : Nat} (hs : es.Pairwise fun a b => a.i < b.i) (hm : m < es.length) (hA : ∀ i, i < lo → (es.getD i BkV.zero).i < t) (hZ : ∀ i, hi ≤ i → i < es.length → t ≤ (es.getD i BkV.zero).i) : MidStep es t lo hi m (es.getD m BkV.zero).i := by
  refine ⟨fun h i hi => ?_, fun h i hi hl => ?_, hA, hZ⟩
  · by_cases e : i = m
    · subst e; exact h
    · have := pair_get hs (show i < m by omega) hm; omega
  · by_cases e : i = m
    · subst e; omega
    · have := pair_get hs (show m < i by omega) hl; omega

set_option maxRecDepth 20000 in
set_option maxHeartbeats 3200000 in
theorem cSearch (a : Option Addr) (cap : Nat) (es : List BkV) (t : Int) (w : World) (hz : Bks w a es) (hs : es.Pairwise fun a b => a.i < b.i) (hl : es.length ≤ 1000) :
    Calls Try.prog 91 #[.slice a es.length cap, .int .i64 t, .func (.func 92) #[] #[]] w fun e w' => ∃ p : Nat, e = .returned (.tuple #[.int .i64 p, .bool (hasI es t)]) ∧ IsPl es t p ∧ Below w.heap.size w w' := by
  have hP : ∀ p, IsPl es t p → Hid (hasI es t = decide (p < es.length ∧ (es.getD p BkV.zero).i = t)) := fun p hp => hide (by rw [Bool.eq_iff_iff, hasI_iff, pl_there hp hs, decide_eq_true_eq])
  replace hs := hide hs
  go_enter Try.func91, Try.ntmps91
  go_wp2
  go_loopw [9, 10] (fun x y wr => ∃ lo hi : Nat, x = .int .i64 lo ∧ y = .int .i64 hi ∧ lo ≤ hi ∧ hi ≤ es.length ∧ Hid (∀ i, i < lo → (es.getD i BkV.zero).i < t) ∧ Hid (∀ i, hi ≤ i → i < es.length → t ≤ (es.getD i BkV.zero).i) ∧ Below w.heap.size w wr) (fun x y _ => (intOf y).toNat - (intOf x).toNat)
  case atStart => exact ⟨0, es.length, rfl, rfl, Nat.zero_le _, Nat.le_refl _, hide (fun i h => by omega), hide (fun i h1 h2 => by omega), Below.refl _ _⟩
  case round =>
    obtain ⟨lo, hi, rfl, rfl, hlh, hhi, hA, hZ, hb⟩ := hrel
    by_cases hlt : lo < hi
    · have hlt' : (lo : Int) < (hi : Int) := by omega
      obtain ⟨m, hm, hm1, hm2⟩ : ∃ m : Nat, ((lo : Int) + (hi : Int)) / 2 = (m : Int) ∧ lo ≤ m ∧ m < hi := ⟨(lo + hi) / 2, by omega, by omega, by omega⟩
      have hmn : m < es.length := by omega
      have hMid := hide (mid_step hs.out hmn hA.out hZ.out)
      rcases hz with h | ⟨b, off, rfl, hc⟩
      · simp [h] at hmn
      obtain ⟨q0, q1, q2, q3⟩ := hc m hmn
      replace q0 := ble hb q0
      replace q1 := ble hb q1
      replace q2 := ble hb q2
      replace q3 := ble hb q3
      clear hc hA hZ hP
      generalize es.getD m BkV.zero = y at *
      obtain ⟨yi, ys, yn, yf⟩ := y
      dsimp only at *
      have CM := cLess yi ys yn yf t
      have hbs : b < wr.heap.size := cell_lt q0
      go_wp2_with fail
      clear hm
      refine (CM _).mono ?_
      rintro e w1 ⟨rfl, hb1⟩
      have hb2 := btrans hb hb1
      by_cases hc : cmpI yi t < 0
      · have hA2 := hide (hMid.out.1 (cmpI_neg.1 hc))
        have hZ2 := hide hMid.out.2.2.2
        clear hMid hb q0 q1 q2 q3 hb1
        go_wp2
        go_roundw
        case rel => exact ⟨m + 1, hi, by go_num, rfl, by omega, by omega, hA2, hZ2, hb2⟩
        case measure => simp [intOf]; omega
      · have hZ2 := hide (hMid.out.2.1 (fun h => hc (cmpI_neg.2 h)))
        have hA2 := hide hMid.out.2.2.1
        clear hMid hb q0 q1 q2 q3 hb1
        go_wp2
        go_roundw
        case rel => exact ⟨lo, m, rfl, by go_num, by omega, by omega, hA2, hZ2, hb2⟩
        case measure => simp [intOf]; omega
    · obtain rfl : lo = hi := by omega
      have hlt' : ¬ ((lo : Int) < (lo : Int)) := by omega
      have hpl : Hid (IsPl es t lo) := hide ⟨hhi, hA.out, hZ.out⟩
      have hps := hP lo hpl.out
      clear hP hA hZ
      by_cases hn : lo < es.length
      · have hn' : decide ((lo : Int) < (es.length : Int)) = true := by simp; omega
        rcases hz with h | ⟨b, off, rfl, hc⟩
        · simp [h] at hn
        obtain ⟨q0, q1, q2, q3⟩ := hc lo hn
        replace q0 := ble hb q0
        replace q1 := ble hb q1
        replace q2 := ble hb q2
        replace q3 := ble hb q3
        clear hc
        generalize es.getD lo BkV.zero = y at *
        obtain ⟨yi, ys, yn, yf⟩ := y
        dsimp only at *
        have CM := cLess yi ys yn yf t
        have hbs : b < wr.heap.size := cell_lt q0
        have hps2 : Hid (hasI es t = (cmpI yi t == 0)) := hide (by rw [hps.out, cmpI_zero]; exact decide_eq_decide.2 ⟨fun h => h.2, fun h => ⟨hn, h⟩⟩)
        clear hps
        go_wp2_with fail
        refine (CM _).mono ?_
        rintro e w1 ⟨rfl, hb1⟩
        have hb2 := btrans hb hb1
        go_wp2
        go_ret2
        exact ⟨lo, by rw [hps2.out]; rfl, hpl.out, hb2⟩
      · have hn' : decide ((lo : Int) < (es.length : Int)) = false := by simp; omega
        have hps2 : Hid (hasI es t = false) := hide (by rw [hps.out]; exact decide_eq_false (fun h => hn h.1))
        clear hz hps
        go_wp2
        go_ret2
        exact ⟨lo, by rw [hps2.out]; rfl, hpl.out, hb⟩

set_option maxHeartbeats 800000 in
theorem cFind (B b : Nat) (N : Nat) (P : Int) (gh ch : Nat) (hs : List BkV) (gs : Nat) (ds : List BkV) (id : Int) (w : World) (hB : Bk w B b N P gh ch hs gs ds) (ha : hs.Pairwise fun a b => a.i < b.i) (hl : hs.length ≤ 200) :
    Calls Try.prog 77 #[.pointer (some ⟨b, 0, none⟩), .int .i64 id] w fun e w' => ∃ p : Nat, e = .returned (.tuple #[.int .i64 p, .bool (hasI hs id)]) ∧ IsPl hs id p ∧ Below w.heap.size w w' := by
  obtain ⟨c0, c1, c2, c3⟩ := hB.cells
  have C := cSearch (some ⟨gh, 0, none⟩) ch hs id w hB.bks ha (by omega)
  clear hB ha c0 c1 c3
  go_enter Try.func77, Try.ntmps77
  go_wp2_with fail
  refine C.mono ?_
  rintro e w1 ⟨p, rfl, hp, hb⟩
  replace hp := hide hp
  clear C
  go_wp2
  go_ret2
  exact ⟨p, rfl, hp.out, hb⟩
end Go.Proofs.Ytgnlcehpajbnoaa
