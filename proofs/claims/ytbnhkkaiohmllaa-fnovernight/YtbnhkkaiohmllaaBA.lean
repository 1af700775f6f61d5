/- Balanced, of program and model. -/
import Derived.Test.YtbnhkkaiohmllaaCA
import Derived.Test.YtbnhkkaiohmllaaMB
import Derived.Maps.RangeWalk
import Derived.Maps.OwnOps
import Derived.Maps.Views
import Derived.Maps.OwnSet
namespace Go.Proofs.Ytbnhkkaiohmllaa
open Go.RowKit Go.Maps

/-! How many tasks begin at a node, less those that end there. -/
def sgn (ts : List TaskV) (x : Int) (i : Nat) : Int := (if (tkA ts i).e = x then 1 else 0) - (if (tkA ts i).d = x then 1 else 0)
def surp (ts : List TaskV) (k : Nat) (x : Int) : Int := sumTo (sgn ts x) k
def half (ts : List TaskV) (k : Nat) (x : Int) : Int := surp ts k x + (if (tkA ts k).e = x then 1 else 0)
theorem surp_step (ts : List TaskV) (k : Nat) (x : Int) : surp ts (k + 1) x = half ts k x - (if (tkA ts k).d = x then 1 else 0) := by
  unfold half
  show sumTo (sgn ts x) k + sgn ts x k = _
  unfold sgn surp sgn
  omega
theorem surp_bound (ts : List TaskV) (k : Nat) (x : Int) : -(k : Int) ≤ surp ts k x ∧ surp ts k x ≤ k := by
  induction k with
  | zero => simp [surp, sumTo]
  | succ k ih =>
    rw [surp_step]
    unfold half
    split <;> split <;> omega
theorem half_bound (ts : List TaskV) (k : Nat) (x : Int) : -(k : Int) ≤ half ts k x ∧ half ts k x ≤ k + 1 := by
  have := surp_bound ts k x
  unfold half
  split <;> omega
def balB (ts : List TaskV) : Bool := tasksB ts && (List.range 30).all (fun x => surp ts ts.length x == 0)
theorem bal_iff {ts : List TaskV} (h : tasksB ts = true) : balB ts = true ↔ ∀ x : Int, surp ts ts.length x = 0 := by
  have hr : ts.all taskB = true := by simp only [Bool.and_eq_true, tasksB, decide_eq_true_eq] at h; exact h.2
  unfold balB
  rw [h, Bool.true_and, List.all_eq_true]
  constructor
  · intro g x
    by_cases hx : 0 ≤ x ∧ x ≤ 29
    · have := g x.toNat (List.mem_range.2 (by omega))
      rw [show ((x.toNat : Nat) : Int) = x by omega] at this
      simpa using this
    · refine sumTo_zero (fun i hi => ?_)
      have := taskB_iff.1 (tkA_ok hr hi)
      unfold sgn
      rw [if_neg (by omega), if_neg (by omega)]; rfl
  · intro g x _
    simp [g]
/-- What a map tells at each number. -/
def Look (D : DataW Unit) (f : Int → Int) : Prop := ∀ x : Int, D.atKey (.int .i64 x) (.lit (.int .i64 0)) = .lit (.int .i64 (f x))
theorem Look.empty (ts : List TaskV) : Look (.map []) (surp ts 0) := fun _ => rfl
theorem Look.is {D : DataW Unit} {f : Int → Int} (h : Look D f) {x c : Int} (hc : D.atKey (.int .i64 x) (.lit (.int .i64 0)) = .lit (.int .i64 c)) : c = f x := by
  rw [h x] at hc
  simpa using hc.symm
theorem Look.put {D : DataW Unit} {f g : Int → Int} (h : Look D f) (hD : IsMap D) (x c : Int) (hx : g x = c) (hg : ∀ y, y ≠ x → g y = f y) : Look (D.put (.int .i64 x) (.lit (.int .i64 c))) g := by
  intro y
  by_cases e : y = x
  · subst e
    rw [atKey_put_same hD (show WideAt.IsKeyLit (.int .i64 y) from trivial), hx]
  · rw [atKey_put_other (by simpa using e), h y, hg y e]
theorem Look.half {D : DataW Unit} {ts : List TaskV} {k : Nat} (h : Look D (surp ts k)) (hD : IsMap D) : Look (D.put (.int .i64 (tkA ts k).e) (.lit (.int .i64 (surp ts k (tkA ts k).e + 1)))) (half ts k) :=
  h.put hD _ _ (by unfold Go.Proofs.Ytbnhkkaiohmllaa.half; rw [if_pos rfl]) (fun y hy => by unfold Go.Proofs.Ytbnhkkaiohmllaa.half; rw [if_neg (Ne.symm hy)]; omega)
theorem Look.full {D : DataW Unit} {ts : List TaskV} {k : Nat} (h : Look D (Go.Proofs.Ytbnhkkaiohmllaa.half ts k)) (hD : IsMap D) : Look (D.put (.int .i64 (tkA ts k).d) (.lit (.int .i64 (Go.Proofs.Ytbnhkkaiohmllaa.half ts k (tkA ts k).d - 1)))) (surp ts (k + 1)) :=
  h.put hD _ _ (by rw [surp_step, if_pos rfl]) (fun y hy => by rw [surp_step, if_neg (Ne.symm hy)]; omega)

theorem lawI : Keyed Try.prog 3 := int_keyed Try.underlying3
theorem zeroI (w : World) : (zeroValue 3).run Try.prog w = .ok (.int .i64 0) w := by kernel_rfl
theorem wf_small {x : Int} (h0 : -1000000 ≤ x) (h1 : x ≤ 1000000) : (Lit.int .i64 x).wf = true := WalkArith.wf_i64 (by omega)
/-- What the sum says of the keys that were met. -/
def Met (D : DataW Unit) (f : Int → Int) (left : Lit → Bool) (s : Int) : Prop := 0 ≤ s ∧ (s = 0 ↔ ∀ x : Int, has D (.int .i64 x) = true → left (.int .i64 x) = false → f x = 0)
theorem Met.start (D : DataW Unit) (f : Int → Int) : Met D f (has D) 0 := ⟨Int.le_refl _, Iff.intro (fun _ x h1 h2 => by rw [h1] at h2; cases h2) (fun _ => rfl)⟩
theorem Met.step {D : DataW Unit} {f : Int → Int} {left : Lit → Bool} {s x c : Int} (h : Met D f left s) (hc : ∀ zd, D.atKey (.int .i64 x) zd = .lit (.int .i64 c)) (hf : c = f x) : Met D f (fun z => left z && !z.sameKey (.int .i64 x)) (s + max c (-c)) := by
  have hh : has D (.int .i64 x) = true := has_true_of_atKey hc
  refine ⟨by have := h.1; omega, ?_⟩
  constructor
  · intro e
    have hs := h.1
    have h0 : s = 0 := by omega
    have hc0 : c = 0 := by omega
    intro y hy hl
    by_cases e2 : y = x
    · subst e2; omega
    · refine h.2.1 h0 y hy ?_
      have : (Lit.int .i64 y).sameKey (.int .i64 x) = false := sameKey_ne (by simpa using e2)
      simp only [this, Bool.not_false, Bool.and_true] at hl
      exact hl
  · intro g
    have hx := g x hh (by have : (Lit.int .i64 x).sameKey (.int .i64 x) = true := WideAt.sameKey_self trivial
                          simp [this])
    have h0 : s = 0 := h.2.2 (fun y hy hl => g y hy (by simp [hl]))
    omega
theorem Met.done {D : DataW Unit} {f : Int → Int} {left : Lit → Bool} {s : Int} (h : Met D f left s) (hl : ∀ kl, left kl = false) (hL : Look D f) : s = 0 ↔ ∀ x : Int, f x = 0 := by
  rw [h.2]
  constructor
  · intro g x
    cases hx : has D (.int .i64 x)
    · have h1 := atKey_of_not_has hx (.lit (.int .i64 0))
      exact (hL.is h1).symm
    · exact g x hx (hl _)
  · intro g x _ _; exact g x

set_option maxRecDepth 100000 in
set_option maxHeartbeats 6400000 in
theorem cBalI (a : Option Addr) (cap : Nat) (ts : List TaskV) (w : World) (hz : Tasks w a ts) (hl : ts.length ≤ 1048576) :
    Calls Try.prog 29 #[.slice a ts.length cap] w fun e w' => e = .returned (.bool (balB ts)) ∧ Below w.heap.size w w' := by
  have hmm := @run_makeMap Try.prog
  go_enter Try.func29, Try.ntmps29
  go_wp2_with fail
  refine (cTasksI a cap ts _ hz hl).mono ?_
  rintro e w1 ⟨rfl, hb⟩
  cases hok : tasksB ts
  · have hF := hide (show balB ts = false by unfold balB; rw [hok]; rfl)
    go_wp2
    go_ret
    exact ⟨ret_bool hF.out.symm, hb⟩
  have h40 : ts.length ≤ 40 := by simp only [Bool.and_eq_true, tasksB, decide_eq_true_eq] at hok; exact hok.1
  have hr := hide (show ts.all taskB = true by simp only [Bool.and_eq_true, tasksB, decide_eq_true_eq] at hok; exact hok.2)
  have hB := hide (bal_iff hok)
  clear hok
  go_wp2
  go_loopw [15] (fun i wr => ∃ (k : Nat) (D : DataW Unit), k ≤ ts.length ∧ i = .int .i64 k ∧ wr.ownsMap Try.prog 3 (plainElem Try.prog 3) w1.heap.size (2 * k) D ∧ Hid (Look D (surp ts k)) ∧ Below w1.heap.size w1 wr) (fun i _ => ts.length - (intOf i).toNat)
  case atStart => exact ⟨0, .map [], Nat.zero_le _, rfl, World.ownsMap_made _ _ _ _, hide (Look.empty ts), balloc w1 _⟩
  case round =>
    obtain ⟨k, D, hk, rfl, hown, hL, hbr⟩ := hrel
    by_cases hlt : k < ts.length
    · have hlt' : (k : Int) < (ts.length : Int) := by omega
      rcases hz with h | ⟨b, off, rfl, hc⟩
      · simp [h] at hlt
      obtain ⟨q0, q1, q2, q3, q4⟩ := hc k hlt
      have hbw := btrans hb hbr
      replace q0 := ble hbw q0
      replace q1 := ble hbw q1
      replace q2 := ble hbw q2
      replace q3 := ble hbw q3
      replace q4 := ble hbw q4
      have hT := taskB_iff.1 (tkA_ok hr.out hlt)
      have hH := hide (hL.out.half hown.isMap)
      have hsb := surp_bound ts k (tkA ts k).e
      have hhb := half_bound ts k (tkA ts k).d
      have hF := hide (fun (D' : DataW Unit) (h : Look D' (half ts k)) (hD' : IsMap D') => h.full hD')
      have hy : Hid (tkA ts k = ts.getD k TaskV.zero) := rfl
      rw [hy.out] at hT hH hsb hhb hF
      have hIs := hide (fun (c : Int) hc => hL.out.is (x := (ts.getD k TaskV.zero).e) (c := c) hc)
      have hIs2 := hide (fun (D' : DataW Unit) (h : Look D' (half ts k)) (c : Int) hc => h.is (x := (ts.getD k TaskV.zero).d) (c := c) hc)
      clear hc hL hy
      generalize ts.getD k TaskV.zero = y at *
      obtain ⟨ye, yd, yf, yt, yp⟩ := y
      dsimp only at *
      generalize surp ts k ye = se at *
      generalize half ts k yd = sd at *
      have hk1 : keyOf Try.prog 3 (.int .i64 ye) = some (.int .i64 ye) := keyOf_int_mk Try.underlying3 (wf_small (by omega) (by omega))
      have hk2 : keyOf Try.prog 3 (.int .i64 yd) = some (.int .i64 yd) := keyOf_int_mk Try.underlying3 (wf_small (by omega) (by omega))
      have hA := hown.alloc (.cells #[.int .i64 ye, .int .i64 yd, .int .i64 yf, .int .i64 yt, .int .i64 yp] 32)
      have hbA := btrans hbr (balloc wr (.cells #[.int .i64 ye, .int .i64 yd, .int .i64 yf, .int .i64 yt, .int .i64 yp] 32))
      have hX := one_block wr (.cells #[.int .i64 ye, .int .i64 yd, .int .i64 yf, .int .i64 yt, .int .i64 yp] 32)
      have hBl : w1.heap.size < wr.heap.size := hown.lt
      have hw1 : IntKind.i64.wrap (se + 1) = se + 1 := wrap_in _ (by omega) (by omega)
      have hw2 : IntKind.i64.wrap (sd - 1) = sd - 1 := wrap_in _ (by omega) (by omega)
      go_wp2_with (first
        | (at_mapUpdate; refine wpList_mapUpdate_own _ rfl _ _ _ 79 rfl 3 3 lawI Try.underlying79 _ w1.heap.size (2 * k + 1) _ rfl hown1 (by unfold maxLen; omega) _ _ _ rfl rfl hk2 (.lit (.int .i64 (sd - 1))) [] (plainElem_int Try.underlying3 (wf_small (by omega) (by omega))) ?_; intro w5 hown5 hgrow5)
        | (at_lookup; refine wpList_lookup_own_int _ rfl _ _ 79 rfl 3 3 .i64 lawI Try.underlying79 Try.underlying3 (zeroI _) w1.heap.size (2 * k + 1) _ rfl hown1 _ _ rfl hk2 ?_; intro c2 hat2 hwc2; have he2 := hIs2.out _ hH.out c2 hat2; clear hat2; subst c2)
        | (at_mapUpdate; refine wpList_mapUpdate_own _ rfl _ _ _ 79 rfl 3 3 lawI Try.underlying79 _ w1.heap.size (2 * k) _ rfl hA (by unfold maxLen; omega) _ _ _ rfl rfl hk1 (.lit (.int .i64 (se + 1))) [] (plainElem_int Try.underlying3 (wf_small (by omega) (by omega))) ?_; intro w4 hown1 hgrow1; have hX4 := (hgrow1.block _ (lt_of_block hX) (by simp; omega)).trans hX; have x4 : w4.cell? ⟨wr.heap.size, 1, none⟩ = some (.int .i64 yd) := (by simp [World.cell?, hX4]))
        | (at_lookup; refine wpList_lookup_own_int _ rfl _ _ 79 rfl 3 3 .i64 lawI Try.underlying79 Try.underlying3 (zeroI _) w1.heap.size (2 * k) _ rfl hA _ _ rfl hk1 ?_; intro c hat hwc; have he1 := hIs.out c hat; clear hat; subst c)
        | go_in)
      have hL5 := hide (hF.out _ hH.out hown1.isMap)
      have hb4 := hbA.grown hgrow1 hbA.size (fun j hj => by cases hj; exact Nat.le_refl _)
      have hb5 := hb4.grown hgrow5 hb4.size (fun j hj => by cases hj; exact Nat.le_refl _)
      have hown6 : w5.ownsMap Try.prog 3 (plainElem Try.prog 3) w1.heap.size (2 * (k + 1)) _ := hown5
      go_roundw
      case rel => exact ⟨k + 1, _, by omega, by go_num, hown6, hL5, hb5⟩
      case measure => simp [intOf]; omega
    · obtain rfl : k = ts.length := by omega
      have hlt' : ¬ ((ts.length : Int) < (ts.length : Int)) := by omega
      have hBl : w1.heap.size < wr.heap.size := hown.lt
      have hfb := hide (fun x => surp_bound ts ts.length x)
      clear hz
      go_wp2_with (first
        | (at_range; refine wpList_range_own _ rfl _ 79 rfl 3 3 lawI Try.underlying79 _ w1.heap.size (2 * ts.length) _ rfl hown ?_; intro w0 hrg0 hg0 hs0)
        | go_in)
      have hbs := hbr.grown hg0 hbr.size (fun j hj => by cases hj)
      have hsz := hown.size_le
      generalize Maps.size D = c0 at *
      generalize wr = wo at *
      go_loopw [6] (fun s wr => ∃ (sm : Int) (left : Lit → Bool) (cnt : Nat), s = .int .i64 sm ∧ wr.ranges Try.prog 3 (plainElem Try.prog 3) w1.heap.size wo.heap.size (2 * ts.length) D left cnt ∧ Hid (Met D (surp ts ts.length) left sm) ∧ sm + 100 * cnt ≤ 8000 ∧ 0 ≤ sm ∧ Below w1.heap.size w1 wr) (fun _ wr => wr.rangeLeft w1.heap.size wo.heap.size)
      case atStart => exact ⟨0, _, _, rfl, hrg0, hide (Met.start D _), by omega, by omega, hbs⟩
      case round =>
        obtain ⟨sm, left, cnt, rfl, hrg, hM, hsm, hs0, hb9⟩ := hrel
        go_wp2_with (first
          | (at_next; refine wpList_next_ranges_ii _ rfl _ rfl 3 3 .i64 .i64 lawI Try.underlying3 Try.underlying3 w1.heap.size wo.heap.size (2 * ts.length) _ _ _ rfl hrg ?_ ?_)
          | go_in)
        · intro _ hl0
          have hD := hide ((hM.out.done hl0 hL.out).trans hB.out.symm)
          have hb8 := btrans hb hb9
          have hF : Hid (decide (sm = 0) = balB ts) := hide (by
            rw [Bool.eq_iff_iff, decide_eq_true_eq]
            exact hD.out)
          clear hD hB hM hrg
          go_wp2
          go_ret
          exact ⟨ret_bool (by rw [← hF.out]; first | rfl | simp), hb8⟩
        · intro x c w2 cnt1 hwx hwc hlx hat hrg1 hlt2 hg1 hs1 hen
          have hcf : c = surp ts ts.length x := hL.out.is (hat _)
          have hM2 := hide (hM.out.step hat hcf)
          have hcb := hfb.out x
          rw [← hcf] at hcb
          have hb8 := hb9.grown hg1 hb9.size (fun j hj => by cases hj; omega)
          have hw1 : IntKind.i64.wrap (-c) = -c := wrap_in _ (by omega) (by omega)
          replace hcf := hide hcf
          clear hM
          rcases Int.lt_trichotomy c 0 with hc | hc | hc
          · have hmx : max c (-c) = -c := by omega
            have hl1 : c < -c := by omega
            have hl2 : ¬ (-c < c) := by omega
            rw [hmx] at hM2
            have hw2 : IntKind.i64.wrap (sm + -c) = sm + -c := wrap_in _ (by omega) (by omega)
            go_wp2
            go_roundw
            case rel => exact ⟨_, _, cnt1, rfl, hrg1, hM2, by omega, by omega, hb8⟩
            case measure => rw [hrg1.left_eq, hrg.left_eq]; exact hlt2
          · subst hc
            rw [show max (0 : Int) (-0) = 0 by rfl, Int.add_zero] at hM2
            go_wp2
            go_roundw
            case rel => exact ⟨_, _, cnt1, rfl, hrg1, hM2, by omega, by omega, hb8⟩
            case measure => rw [hrg1.left_eq, hrg.left_eq]; exact hlt2
          · have hmx : max c (-c) = c := by omega
            have hl1 : ¬ (c < -c) := by omega
            have hl2 : -c < c := by omega
            rw [hmx] at hM2
            have hw2 : IntKind.i64.wrap (sm + c) = sm + c := wrap_in _ (by omega) (by omega)
            go_wp2
            go_roundw
            case rel => exact ⟨_, _, cnt1, rfl, hrg1, hM2, by omega, by omega, hb8⟩
            case measure => rw [hrg1.left_eq, hrg.left_eq]; exact hlt2

set_option maxRecDepth 20000 in
set_option maxHeartbeats 3200000 in
theorem cBalS (a : Option Addr) (cap : Nat) (ts : List TaskV) (w : World) (hz : Tasks w a ts) (hl : ts.length ≤ 1048576) :
    Calls Try.prog 46 #[.slice a ts.length cap] w fun e w' => e = .returned (.bool (balB ts)) ∧ Below w.heap.size w w' := by
  go_enter Try.func46, Try.ntmps46
  go_wp2_with fail
  refine (cTasksS a cap ts _ hz hl).mono ?_
  rintro e w1 ⟨rfl, hb⟩
  cases hok : tasksB ts
  · have hF := hide (show balB ts = false by unfold balB; rw [hok]; rfl)
    go_wp2
    go_ret
    exact ⟨ret_bool hF.out.symm, hb⟩
  have h40 : ts.length ≤ 40 := by simp only [Bool.and_eq_true, tasksB, decide_eq_true_eq] at hok; exact hok.1
  have hB0 : Hid ((((List.range 30).drop 0).all (fun x => surp ts ts.length x == 0)) = balB ts) := hide (by unfold balB; rw [hok]; rfl)
  clear hok
  go_wp2
  go_loop [3] (fun i => ∃ x : Nat, x ≤ 30 ∧ i = .int .i64 x ∧ Hid ((((List.range 30).drop x).all (fun x => surp ts ts.length x == 0)) = balB ts)) (fun i => 30 - (intOf i).toNat)
  case atStart => exact ⟨0, by omega, rfl, hB0⟩
  case round =>
    obtain ⟨x, hx, rfl, hB⟩ := hrel
    clear hB0
    by_cases hx30 : x < 30
    · have hx30' : (x : Int) < 30 := by omega
      have hst : Hid ((surp ts ts.length x == 0 && ((List.range 30).drop (x + 1)).all (fun x => surp ts ts.length x == 0)) = balB ts) := hide (by
        have h9 := all_drop (P := fun x : Nat => surp ts ts.length x == 0) (zs := List.range 30) (k := x) (by simpa using hx30)
        rw [List.getElem_range] at h9
        rw [← hB.out, h9])
      clear hB
      go_wp2
      go_loop [4, 5] (fun s i => ∃ k : Nat, k ≤ ts.length ∧ s = .int .i64 (surp ts k x) ∧ i = .int .i64 k) (fun _ i => ts.length - (intOf i).toNat)
      case atStart => exact ⟨0, Nat.zero_le _, rfl, rfl⟩
      case round =>
        obtain ⟨k, hk, rfl, rfl⟩ := hrel
        by_cases hlt : k < ts.length
        · have hlt' : (k : Int) < (ts.length : Int) := by omega
          rcases hz with h | ⟨b, off, rfl, hc⟩
          · simp [h] at hlt
          have q0 := ble hb (hc k hlt).1
          have q1 := ble hb (hc k hlt).2.1
          have hT : Hid (surp ts (k + 1) x = surp ts k x + (if (ts.getD k TaskV.zero).e = (x : Int) then 1 else 0) - (if (ts.getD k TaskV.zero).d = (x : Int) then 1 else 0)) := hide (surp_step ts k x)
          have hsb := surp_bound ts k x
          clear hc
          generalize (ts.getD k TaskV.zero).e = ye at *
          generalize (ts.getD k TaskV.zero).d = yd at *
          generalize surp ts k x = s at *
          have hw1 : IntKind.i64.wrap (s + 1) = s + 1 := wrap_in _ (by omega) (by omega)
          have hw2 : IntKind.i64.wrap (s - 1) = s - 1 := wrap_in _ (by omega) (by omega)
          have hw3 : IntKind.i64.wrap (s + 1 - 1) = s := (wrap_in _ (by omega) (by omega)).trans (by omega)
          by_cases he : ye = (x : Int) <;> by_cases hd : yd = (x : Int)
          · rw [if_pos he, if_pos hd] at hT
            subst he
            subst hd
            obtain ⟨s1, hs1⟩ : ∃ s1, s1 = s + 1 := ⟨_, rfl⟩
            have hw4 : IntKind.i64.wrap (s1 - 1) = s := (wrap_in _ (by omega) (by omega)).trans (by omega)
            rw [← hs1] at hw1
            rw [show s + 1 - 1 = s by omega] at hT
            replace hs1 := hide hs1
            clear hw3
            go_wp2
            go_round
            case rel => exact ⟨k + 1, by omega, by rw [hT.out], by go_num⟩
            case measure => simp [intOf]; omega
          · rw [if_pos he, if_neg hd, show s + 1 - 0 = s + 1 by omega] at hT
            subst he
            go_wp2
            go_round
            case rel => exact ⟨k + 1, by omega, by rw [hT.out], by go_num⟩
            case measure => simp [intOf]; omega
          · rw [if_neg he, if_pos hd, Int.add_zero] at hT
            subst hd
            go_wp2
            go_round
            case rel => exact ⟨k + 1, by omega, by rw [hT.out], by go_num⟩
            case measure => simp [intOf]; omega
          · rw [if_neg he, if_neg hd, show s + 0 - 0 = s by omega] at hT
            go_wp2
            go_round
            case rel => exact ⟨k + 1, by omega, by rw [hT.out], by go_num⟩
            case measure => simp [intOf]; omega
        · obtain rfl : k = ts.length := by omega
          have hlt' : ¬ ((ts.length : Int) < (ts.length : Int)) := by omega
          generalize surp ts ts.length x = s at *
          by_cases hs : s = 0
          · subst hs
            have hF : Hid ((((List.range 30).drop (x + 1)).all (fun x => surp ts ts.length x == 0)) = balB ts) := hide (by rw [← hst.out]; rfl)
            clear hst
            go_wp2
            go_round
            case rel => exact ⟨x + 1, by omega, by go_num, hF⟩
            case measure => simp [intOf]; omega
          · have hF := hide (show balB ts = false by rw [← hst.out, show (s == 0) = false from beq_eq_false_iff_ne.2 hs]; rfl)
            clear hst
            go_wp2
            go_ret
            exact ⟨ret_bool hF.out.symm, hb⟩
    · obtain rfl : x = 30 := by omega
      have hF := hide (show balB ts = true by rw [← hB.out]; rfl)
      clear hB
      go_wp2
      go_ret
      exact ⟨ret_bool hF.out.symm, hb⟩
end Go.Proofs.Ytbnhkkaiohmllaa
