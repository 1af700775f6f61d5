/- The program's small functions: rooms, spots, next spots. -/
import Derived.Test.YtggdejceobagcaaMB
import Derived.Test.YtggdejceobagcaaB
namespace Go.Proofs.Ytggdejceobagcaa
open Go.RowKit

theorem all_drop {α : Type} {P : α → Bool} {zs : List α} {k : Nat} (hk : k < zs.length) : (zs.drop k).all P = (P zs[k] && (zs.drop (k + 1)).all P) := by
  rw [List.drop_eq_getElem_cons hk, List.all_cons]

set_option maxHeartbeats 400000 in
theorem cFit1 (x : Int) (w : World) : Calls Try.prog 65 #[.int .i64 x] w fun e w' => e = .returned (.bool (inB x 1 4)) ∧ w' = w := by
  go_enter Try.func65, Try.ntmps65
  go_wp2_with fail
  refine (cWithin x 1 4 _).mono ?_
  rintro e w1 ⟨rfl, hw⟩
  subst w1
  go_wp2
  go_ret
  exact ⟨rfl, rfl⟩

set_option maxHeartbeats 800000 in
theorem cAllInt (a : Option Addr) (cap : Nat) (zs : List Int) (w : World) (hz : Ints w a zs) (hl : zs.length ≤ 1048576) :
    Calls Try.prog 64 #[.slice a zs.length cap, .func (.func 65) #[] #[]] w fun e w' => e = .returned (.bool (zs.all (fun x => inB x 1 4))) ∧ w' = w := by
  generalize hr : zs.all (fun x => inB x 1 4) = res
  have hr0 : Hid ((zs.drop 0).all (fun x => inB x 1 4) = res) := hr
  clear hr
  go_enter Try.func64, Try.ntmps64
  go_wp2
  go_loop [9] (fun i => ∃ k : Nat, k ≤ zs.length ∧ i = .int .i64 k ∧ Hid ((zs.drop k).all (fun x => inB x 1 4) = res)) (fun i => zs.length - (intOf i).toNat)
  case atStart => exact ⟨0, Nat.zero_le _, rfl, hr0⟩
  case round =>
    obtain ⟨k, hk, rfl, hres⟩ := hrel
    clear hr0
    by_cases hlt : k < zs.length
    · rcases hz with h | ⟨b, off, rfl, hc⟩
      · simp [h] at hlt
      have q0 := hc k hlt
      have e0 : zs.getD k 0 = zs[k] := by simp [List.getD, hlt]
      rw [e0] at q0
      have hd := hide ((all_drop (P := fun x => inB x 1 4) hlt).symm.trans hres.out)
      generalize zs[k] = y at *
      clear hc e0 hres
      go_wp2_with fail
      refine (cFit1 y _).mono ?_
      rintro e w1 ⟨rfl, hw⟩
      subst w1
      cases hy : inB y 1 4
      · have hf := hide (show res = false by rw [← hd.out, hy]; rfl)
        clear hd hy
        go_wp2
        go_ret
        exact ⟨ret_bool hf.out.symm, rfl⟩
      · have hf := hide (show (zs.drop (k + 1)).all (fun x => inB x 1 4) = res by rw [← hd.out, hy]; rfl)
        clear hd hy
        go_wp2
        go_round
        case rel => exact ⟨k + 1, by omega, by go_num, hf⟩
        case measure => simp [intOf]; omega
    · obtain rfl : k = zs.length := by omega
      have hf := hide (show res = true by rw [← hres.out, List.drop_length]; rfl)
      clear hz
      go_wp2
      go_ret
      exact ⟨ret_bool hf.out.symm, rfl⟩

set_option maxHeartbeats 800000 in
theorem cLoops (a : Option Addr) (cap : Nat) (ls : List Int) (w : World) (hz : Ints w a ls) (hl : ls.length ≤ 1048576) :
    Calls Try.prog 41 #[.slice a ls.length cap] w fun e w' => e = .returned (.bool (lineOk ls)) ∧ w' = w := by
  have E : Hid (lineOk ls = (ls.all (fun x => inB x 1 4) && inB ls.length 2 5)) := rfl
  go_enter Try.func41, Try.ntmps41
  go_wp2_with fail
  refine (cWithin ls.length 2 5 _).mono ?_
  rintro e w1 ⟨rfl, hw⟩
  subst w1
  cases h1 : inB (ls.length : Int) 2 5
  · have hf := hide (show lineOk ls = false by rw [E.out, h1, Bool.and_false])
    clear h1 E
    go_wp2
    go_ret
    exact ⟨ret_bool hf.out.symm, rfl⟩
  · have hf := hide (show lineOk ls = ls.all (fun x => inB x 1 4) by rw [E.out, h1, Bool.and_true])
    clear h1 E
    go_wp2_with fail
    refine (cAllInt a cap ls _ hz hl).mono ?_
    rintro e w1 ⟨rfl, hw⟩
    subst w1
    rw [← hf.out]
    go_wp2
    go_ret
    exact ⟨rfl, rfl⟩

set_option maxHeartbeats 400000 in
theorem cHas (a : Option Addr) (cap : Nat) (ls : List Int) (x : Int) (w : World) (hl : ls.length ≤ 1048576) :
    Calls Try.prog 42 #[.slice a ls.length cap, .int .i64 x] w fun e w' => e = .returned (.bool (spotB ls x)) ∧ w' = w := by
  go_enter Try.func42, Try.ntmps42
  go_wp2_with fail
  refine (cWithin x 0 (2 * (ls.length : Int) - 2) _).mono ?_
  rintro e w1 ⟨rfl, hw⟩
  subst w1
  go_wp2
  go_ret
  exact ⟨rfl, rfl⟩

set_option maxHeartbeats 400000 in
theorem cSect (x : Int) (w : World) : Calls Try.prog 43 #[.int .i64 x] w fun e w' => e = .returned (.bool (!decide (x.tmod 2 = 0))) ∧ w' = w := by
  go_enter Try.func43, Try.ntmps43
  go_wp2
  go_ret
  exact ⟨ret_bool (by simp [bne]; rfl), rfl⟩

theorem fits_at {ls : List Int} {s : Int} (h0 : 0 ≤ s) (h1 : s ≤ 2 * (ls.length : Int) - 2) : 0 ≤ s.tdiv 2 ∧ s.tdiv 2 < ls.length ∧ (s.tdiv 2).toNat < ls.length := by
  rw [Int.tdiv_eq_ediv_of_nonneg h0]; omega

set_option maxHeartbeats 400000 in
theorem cRoom (a : Option Addr) (cap : Nat) (ls : List Int) (x : Int) (w : World) (hz : Ints w a ls) (hl : ls.length ≤ 1048576) (h0 : 0 ≤ x) (h1 : x ≤ 2 * (ls.length : Int) - 2) :
    Calls Try.prog 44 #[.slice a ls.length cap, .int .i64 x] w fun e w' => e = .returned (.int .i64 (fits ls x)) ∧ w' = w := by
  obtain ⟨f1, f2, f3⟩ := fits_at h0 h1
  by_cases h : x.tmod 2 = 0
  · have E := hide (fits_even (ls := ls) h)
    have hx : x.tmod 2 = 0 := h
    rcases hz with hz | ⟨b, off, rfl, hc⟩
    · simp [hz] at f3
    have hk := hc _ f3
    have hq : (((x.tdiv 2).toNat : Nat) : Int) = x.tdiv 2 := by omega
    go_enter Try.func44, Try.ntmps44
    go_wp2_with fail
    refine (cSect x _).mono ?_
    rintro e w1 ⟨rfl, hw⟩
    subst w1
    rw [show (!decide (x.tmod 2 = 0)) = false by simp [h]]
    have e2 : x.tdiv 2 = x / 2 := Int.tdiv_eq_ediv_of_nonneg h0
    rw [e2] at hk f1 f2 f3 hq E
    generalize ls.getD (x / 2).toNat 0 = V at *
    clear hc h hx e2
    go_wp2
    go_ret
    exact ⟨ret_int E.out.symm, rfl⟩
  · have E := hide (fits_odd (ls := ls) h)
    go_enter Try.func44, Try.ntmps44
    go_wp2_with fail
    refine (cSect x _).mono ?_
    rintro e w1 ⟨rfl, hw⟩
    subst w1
    rw [show (!decide (x.tmod 2 = 0)) = true by simp [h]]
    go_wp2
    go_ret
    exact ⟨ret_int E.out.symm, rfl⟩

set_option maxHeartbeats 400000 in
theorem cArr (t : SingleV) (w : World) : Calls Try.prog 47 #[t.val] w fun e w' => e = .returned (.bool (decide (t.s = t.d))) ∧ Below w.heap.size w w' := by
  obtain ⟨s, d⟩ := t
  unfold SingleV.val
  dsimp only
  have hb := balloc w (.cells #[.int .i64 s, .int .i64 d] 31)
  go_enter Try.func47, Try.ntmps47
  go_wp2
  go_ret
  exact ⟨rfl, hb⟩

theorem cNan (x : Int) (w : World) : Calls Try.prog 71 #[.int .i64 x] w fun e w' => e = .returned (.bool false) ∧ w' = w := by
  go_enter Try.func71, Try.ntmps71
  go_wp2
  go_ret
  exact ⟨rfl, rfl⟩
def cmpI (x y : Int) : Int := if x < y then -1 else if y < x then 1 else 0
set_option maxHeartbeats 400000 in
theorem cCmp (x y : Int) (w : World) : Calls Try.prog 67 #[.int .i64 x, .int .i64 y] w fun e w' => e = .returned (.int .i64 (cmpI x y)) ∧ w' = w := by
  have E : Hid (cmpI x y = if x < y then -1 else if y < x then 1 else 0) := rfl
  rcases Int.lt_trichotomy x y with h | rfl | h
  all_goals
    go_enter Try.func67, Try.ntmps67
    go_wp2_with fail
    refine (cNan x _).mono ?_
    rintro e w1 ⟨rfl, hw⟩
    subst w1
    go_wp2_with fail
    refine (cNan _ _).mono ?_
    rintro e w1 ⟨rfl, hw⟩
    subst w1
    go_wp2
    go_ret
    exact ⟨ret_int (by rw [E.out]; (repeat' split) <;> omega), rfl⟩
/-- The next spot, and the same where there is none. -/
def onw (t : SingleV) : Int := t.s + cmpI t.d t.s
theorem onw_next {t : SingleV} (h : t.s ≠ t.d) : onw t = nextS t := by
  unfold onw nextS cmpI; split <;> split <;> omega
theorem onw_rng (t : SingleV) : t.s - 1 ≤ onw t ∧ onw t ≤ t.s + 1 := by
  unfold onw cmpI; split <;> (try split) <;> omega
set_option maxHeartbeats 400000 in
theorem cOnw (t : SingleV) (w : World) (h0 : -100 ≤ t.s) (h1 : t.s ≤ 100) : Calls Try.prog 50 #[t.val] w fun e w' => e = .returned (.int .i64 (onw t)) ∧ Below w.heap.size w w' := by
  have hr := onw_rng t
  have E : Hid (onw t = t.s + cmpI t.d t.s) := rfl
  obtain ⟨s, d⟩ := t
  unfold SingleV.val
  dsimp only at *
  have hb := balloc w (.cells #[.int .i64 s, .int .i64 d] 31)
  have hw := wrap_in (s + cmpI d s) (by rw [← E.out]; omega) (by rw [← E.out]; omega)
  go_enter Try.func50, Try.ntmps50
  go_wp2_with fail
  go_quiet ((go_at_call 67; refine Calls.quiet_of_same (cCmp _ _ _)))
  go_wp2
  go_ret
  exact ⟨ret_int E.out.symm, bdraw hb _⟩

set_option maxHeartbeats 400000 in
theorem cAway (t : SingleV) (w : World) (h0 : -100 ≤ t.s) (h1 : t.s ≤ 100) (h2 : -100 ≤ t.d) (h3 : t.d ≤ 100) : Calls Try.prog 70 #[t.val] w fun e w' => e = .returned (.int .i64 (away t)) ∧ Below w.heap.size w w' := by
  have E : Hid ((away t : Int) = if t.d - t.s ≤ t.s - t.d then t.s - t.d else t.d - t.s) := by show (((t.s - t.d).natAbs : Nat) : Int) = _; split <;> omega
  obtain ⟨s, d⟩ := t
  unfold SingleV.val
  dsimp only at *
  have hb := balloc w (.cells #[.int .i64 s, .int .i64 d] 31)
  rcases Int.lt_trichotomy s d with h | rfl | h
  all_goals
    go_enter Try.func70, Try.ntmps70
    go_wp2
    go_ret
    exact ⟨ret_int (by rw [E.out]; (repeat' split) <;> omega), hb⟩
end Go.Proofs.Ytggdejceobagcaa
