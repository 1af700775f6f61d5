/- Bays and stays of program and model. -/
import Derived.Test.YteklmeekapegpaaB
import Derived.Test.YteklmeekapegpaaS
namespace Go.Proofs.Yteklmeekapegpaa
open Go.RowKit

theorem all_drop {α : Type} {P : α → Bool} {zs : List α} {k : Nat} (hk : k < zs.length) : (zs.drop k).all P = (P zs[k] && (zs.drop (k + 1)).all P) := by
  rw [List.drop_eq_getElem_cons hk, List.all_cons]
def metB (x : Int) : Bool := inB x 1 1000
def baysB (zs : List Int) : Bool := inB zs.length 1 12 && zs.all metB
def stayB (s : StayV) : Bool := decide (0 ≤ s.f) && (decide (s.f ≤ s.t) && (decide (s.t ≤ 100000) && metB s.l))
def staysB (ss : List StayV) : Bool := decide (ss.length ≤ 60) && ss.all stayB
def gapB (g : Int) : Bool := inB g 1 60

set_option maxHeartbeats 400000 in
theorem cMetres (x : Int) (w : World) : Calls Try.prog 57 #[.int .i64 x] w fun e w' => e = .returned (.bool (metB x)) ∧ w' = w := by
  go_enter Try.func57, Try.ntmps57
  go_wp2_with fail
  refine (cWithin x 1 1000 _).mono ?_
  rintro e w1 ⟨rfl, hw⟩
  subst w1
  go_wp2
  go_ret
  exact ⟨rfl, rfl⟩

set_option maxHeartbeats 400000 in
theorem cGapI (x : Int) (w : World) : Calls Try.prog 43 #[.int .i64 x] w fun e w' => e = .returned (.bool (gapB x)) ∧ w' = w := by
  go_enter Try.func43, Try.ntmps43
  go_wp2_with fail
  refine (cWithin x 1 60 _).mono ?_
  rintro e w1 ⟨rfl, hw⟩
  subst w1
  go_wp2
  go_ret
  exact ⟨rfl, rfl⟩

set_option maxHeartbeats 400000 in
theorem cGapS (x : Int) (w : World) : Calls Try.prog 45 #[.int .i64 x] w fun e w' => e = .returned (.bool (gapB x)) ∧ w' = w := by
  go_enter Try.func45, Try.ntmps45
  go_wp2_with fail
  refine (cIn x 1 60 _).mono ?_
  rintro e w1 ⟨rfl, hw⟩
  subst w1
  go_wp2
  go_ret
  exact ⟨rfl, rfl⟩

set_option maxHeartbeats 800000 in
theorem cAllInt (a : Option Addr) (cap : Nat) (zs : List Int) (w : World) (hz : Ints w a zs) (hl : zs.length ≤ 1048576) :
    Calls Try.prog 56 #[.slice a zs.length cap, .func (.func 57) #[] #[]] w fun e w' => e = .returned (.bool (zs.all metB)) ∧ w' = w := by
  generalize hr : zs.all metB = res
  have hr0 : Hid ((zs.drop 0).all metB = res) := hr
  clear hr
  go_enter Try.func56, Try.ntmps56
  go_wp2
  go_loop [9] (fun i => ∃ k : Nat, k ≤ zs.length ∧ i = .int .i64 k ∧ Hid ((zs.drop k).all metB = res)) (fun i => zs.length - (intOf i).toNat)
  case atStart => exact ⟨0, Nat.zero_le _, rfl, hr0⟩
  case round =>
    obtain ⟨k, hk, rfl, hres⟩ := hrel
    clear hr0
    by_cases hlt : k < zs.length
    · rcases hz with h | ⟨b, off, rfl, hc⟩
      · simp [h] at hlt
      have q0 := hc k hlt
      have e0 : zs.getD k 0 = zs[k] := by simp [List.getD, hlt]
      rw [e0] at q0
      have hd := hide ((all_drop (P := metB) hlt).symm.trans hres.out)
      generalize zs[k] = y at *
      clear hc e0 hres
      go_wp2_with fail
      refine (cMetres y _).mono ?_
      rintro e w1 ⟨rfl, hw⟩
      subst w1
      cases hy : metB y
      · have hf := hide (show res = false by rw [← hd.out, hy]; rfl)
        clear hd hy
        go_wp2
        go_ret
        exact ⟨ret_bool hf.out.symm, rfl⟩
      · have hf := hide (show (zs.drop (k + 1)).all metB = res by rw [← hd.out, hy]; rfl)
        clear hd hy
        go_wp2
        go_round
        case rel => exact ⟨k + 1, by omega, by go_num, hf⟩
        case measure => simp [intOf]; omega
    · obtain rfl : k = zs.length := by omega
      have hf := hide (show res = true by rw [← hres.out, List.drop_length]; rfl)
      clear hz
      go_wp2
      go_ret
      exact ⟨ret_bool hf.out.symm, rfl⟩

set_option maxHeartbeats 800000 in
theorem cBaysI (a : Option Addr) (cap : Nat) (zs : List Int) (w : World) (hz : Ints w a zs) (hl : zs.length ≤ 1048576) :
    Calls Try.prog 26 #[.slice a zs.length cap] w fun e w' => e = .returned (.bool (baysB zs)) ∧ w' = w := by
  have E : Hid (baysB zs = (inB zs.length 1 12 && zs.all metB)) := rfl
  go_enter Try.func26, Try.ntmps26
  go_wp2_with fail
  refine (cWithin zs.length 1 12 _).mono ?_
  rintro e w1 ⟨rfl, hw⟩
  subst w1
  cases h1 : inB (zs.length : Int) 1 12
  · have hf := hide (show baysB zs = false by rw [E.out, h1]; rfl)
    clear E h1
    go_wp2
    go_ret
    exact ⟨ret_bool hf.out.symm, rfl⟩
  · have hf := hide (show baysB zs = zs.all metB by rw [E.out, h1]; rfl)
    clear E h1
    go_wp2_with fail
    refine (cAllInt a cap zs _ hz hl).mono ?_
    rintro e w1 ⟨rfl, hw⟩
    subst w1
    go_wp2
    go_ret
    exact ⟨ret_bool hf.out.symm, rfl⟩

set_option maxHeartbeats 800000 in
theorem cBaysS (a : Option Addr) (cap : Nat) (zs : List Int) (w : World) (hz : Ints w a zs) (hl : zs.length ≤ 1048576) :
    Calls Try.prog 24 #[.slice a zs.length cap] w fun e w' => e = .returned (.bool (baysB zs)) ∧ w' = w := by
  have hr : baysB zs = (zs.all metB && inB zs.length 1 12) := by unfold baysB; rw [Bool.and_comm]
  generalize baysB zs = res at *
  have hr0 : Hid (((zs.drop 0).all metB && inB zs.length 1 12) = res) := hr.symm
  clear hr
  go_enter Try.func24, Try.ntmps24
  go_wp2
  go_loop [3] (fun i => ∃ k : Nat, k ≤ zs.length ∧ i = .int .i64 k ∧ Hid (((zs.drop k).all metB && inB zs.length 1 12) = res)) (fun i => zs.length - (intOf i).toNat)
  case atStart => exact ⟨0, Nat.zero_le _, rfl, hr0⟩
  case round =>
    obtain ⟨k, hk, rfl, hres⟩ := hrel
    clear hr0
    by_cases hlt : k < zs.length
    · rcases hz with h | ⟨b, off, rfl, hc⟩
      · simp [h] at hlt
      have q0 := hc k hlt
      have e0 : zs.getD k 0 = zs[k] := by simp [List.getD, hlt]
      rw [e0] at q0
      have hd : Hid ((metB zs[k] && (zs.drop (k + 1)).all metB && inB zs.length 1 12) = res) := by rw [← hres.out, all_drop (P := metB) hlt]; exact hide rfl
      generalize zs[k] = y at *
      clear hc e0 hres
      go_wp2_with fail
      refine (cIn y 1 1000 _).mono ?_
      rintro e w1 ⟨rfl, hw⟩
      subst w1
      change Hid ((inB y 1 1000 && _ && _) = _) at hd
      cases hy : inB y 1 1000
      · have hf := hide (show res = false by rw [← hd.out, hy]; rfl)
        clear hd hy
        go_wp2
        go_ret
        exact ⟨ret_bool hf.out.symm, rfl⟩
      · have hf := hide (show ((zs.drop (k + 1)).all metB && inB zs.length 1 12) = res by rw [← hd.out, hy]; rfl)
        clear hd hy
        go_wp2
        go_round
        case rel => exact ⟨k + 1, by omega, by go_num, hf⟩
        case measure => simp [intOf]; omega
    · obtain rfl : k = zs.length := by omega
      have hf := hide (show inB zs.length 1 12 = res by rw [← hres.out, List.drop_length]; rfl)
      clear hz hres
      go_wp2_with fail
      refine (cIn zs.length 1 12 _).mono ?_
      rintro e w1 ⟨rfl, hw⟩
      subst w1
      go_wp2
      go_ret
      exact ⟨ret_bool hf.out, rfl⟩

set_option maxHeartbeats 1600000 in
theorem cStayI (s : StayV) (w : World) : Calls Try.prog 60 #[s.val] w fun e w' => e = .returned (.bool (stayB s)) ∧ Below w.heap.size w w' := by
  obtain ⟨f, t, l⟩ := s
  unfold StayV.val
  have hW := balloc w (.cells #[.int .i64 f, .int .i64 t, .int .i64 l] 37)
  have E : Hid (stayB ⟨f, t, l⟩ = (decide (0 ≤ f) && (decide (f ≤ t) && (decide (t ≤ 100000) && metB l)))) := rfl
  by_cases h1 : 0 ≤ f
  · by_cases h2 : f ≤ t
    · by_cases h3 : t ≤ 100000
      · have R := hide (show stayB ⟨f, t, l⟩ = metB l by rw [E.out]; simp [h1, h2, h3])
        clear E
        go_enter Try.func60, Try.ntmps60
        go_wp2_with (go_at_call 57; refine (cMetres _ _).mono ?_; rintro e w' ⟨rfl, rfl⟩)
        go_ret
        exact ⟨ret_bool R.out.symm, hW⟩
      · have R := hide (show stayB ⟨f, t, l⟩ = false by rw [E.out]; simp [h1, h2, h3])
        clear E
        go_enter Try.func60, Try.ntmps60
        go_wp2
        go_ret
        exact ⟨ret_bool R.out.symm, hW⟩
    · have R := hide (show stayB ⟨f, t, l⟩ = false by rw [E.out]; simp [h1, h2])
      clear E
      go_enter Try.func60, Try.ntmps60
      go_wp2
      go_ret
      exact ⟨ret_bool R.out.symm, hW⟩
  · have R := hide (show stayB ⟨f, t, l⟩ = false by rw [E.out]; simp [h1])
    clear E
    go_enter Try.func60, Try.ntmps60
    go_wp2
    go_ret
    exact ⟨ret_bool R.out.symm, hW⟩

set_option maxHeartbeats 800000 in
theorem cAllStays (a : Option Addr) (cap : Nat) (cs : List StayV) (w : World) (hz : Stays w a cs) (hl : cs.length ≤ 1048576) :
    Calls Try.prog 59 #[.slice a cs.length cap, .func (.func 60) #[] #[]] w fun e w' => e = .returned (.bool (cs.all stayB)) ∧ Below w.heap.size w w' := by
  generalize hr : cs.all stayB = res
  have hr0 : Hid ((cs.drop 0).all stayB = res) := hr
  clear hr
  go_enter Try.func59, Try.ntmps59
  go_wp2
  go_loopw [9] (fun i wr => ∃ k : Nat, k ≤ cs.length ∧ i = .int .i64 k ∧ Hid ((cs.drop k).all stayB = res) ∧ Below w.heap.size w wr) (fun i _ => cs.length - (intOf i).toNat)
  case atStart => exact ⟨0, Nat.zero_le _, rfl, hr0, Below.refl _ _⟩
  case round =>
    obtain ⟨k, hk, rfl, hres, hb⟩ := hrel
    clear hr0
    by_cases hlt : k < cs.length
    · rcases hz with h | ⟨b, off, rfl, hc⟩
      · simp [h] at hlt
      obtain ⟨q0, q1, q2⟩ := hc k hlt
      replace q0 := ble hb q0
      replace q1 := ble hb q1
      replace q2 := ble hb q2
      have e0 : cs.getD k StayV.zero = cs[k] := by simp [List.getD, hlt]
      rw [e0] at q0 q1 q2
      have hd := hide ((all_drop (P := stayB) hlt).symm.trans hres.out)
      generalize cs[k] = y at *
      clear hc e0 hres
      have hcon := cStayI y
      obtain ⟨f, t, l⟩ := y
      unfold StayV.val at hcon
      dsimp only at *
      have hb1 := btrans hb (balloc wr (.cells #[.int .i64 f, .int .i64 t, .int .i64 l] 37))
      go_wp2_with fail
      refine (hcon _).mono ?_
      rintro e w1 ⟨rfl, hw⟩
      have hb2 := btrans hb1 hw
      clear hw hb1 hcon
      cases hy : stayB ⟨f, t, l⟩
      · have hf := hide (show res = false by rw [← hd.out, hy]; rfl)
        clear hd hy
        go_wp2
        go_ret
        exact ⟨ret_bool hf.out.symm, hb2⟩
      · have hf := hide (show (cs.drop (k + 1)).all stayB = res by rw [← hd.out, hy]; rfl)
        clear hd hy
        go_wp2
        go_roundw
        case rel => exact ⟨k + 1, by omega, by go_num, hf, hb2⟩
        case measure => simp [intOf]; omega
    · obtain rfl : k = cs.length := by omega
      have hf := hide (show res = true by rw [← hres.out, List.drop_length]; rfl)
      clear hz hres
      go_wp2
      go_ret
      exact ⟨ret_bool hf.out.symm, hb⟩

set_option maxHeartbeats 800000 in
theorem cStaysI (a : Option Addr) (cap : Nat) (cs : List StayV) (w : World) (hz : Stays w a cs) (hl : cs.length ≤ 1048576) :
    Calls Try.prog 31 #[.slice a cs.length cap] w fun e w' => e = .returned (.bool (staysB cs)) ∧ Below w.heap.size w w' := by
  have E : Hid (staysB cs = (decide (cs.length ≤ 60) && cs.all stayB)) := rfl
  by_cases h1 : cs.length ≤ 60
  · have hf := hide (show staysB cs = cs.all stayB by rw [E.out]; simp [h1])
    have h1' : (cs.length : Int) ≤ 60 := by omega
    clear E
    go_enter Try.func31, Try.ntmps31
    go_wp2_with fail
    refine (cAllStays a cap cs _ hz hl).mono ?_
    rintro e w1 ⟨rfl, hw⟩
    go_wp2
    go_ret
    exact ⟨ret_bool hf.out.symm, hw⟩
  · have hf := hide (show staysB cs = false by rw [E.out]; simp [h1])
    have h1' : ¬ ((cs.length : Int) ≤ 60) := by omega
    clear E
    go_enter Try.func31, Try.ntmps31
    go_wp2
    go_ret
    exact ⟨ret_bool hf.out.symm, Below.refl _ _⟩

theorem stayS (f t l : Int) : stayB ⟨f, t, l⟩ = (inB t 0 100000 && (inB f 0 t && inB l 1 1000)) := by
  rw [Bool.eq_iff_iff]
  simp only [stayB, metB, inB, Bool.and_eq_true, decide_eq_true_eq]; omega

set_option maxHeartbeats 1600000 in
theorem cStaysS (a : Option Addr) (cap : Nat) (cs : List StayV) (w : World) (hz : Stays w a cs) (hl : cs.length ≤ 1048576) :
    Calls Try.prog 29 #[.slice a cs.length cap] w fun e w' => e = .returned (.bool (staysB cs)) ∧ Below w.heap.size w w' := by
  have hr : staysB cs = (cs.all stayB && decide (cs.length ≤ 60)) := by unfold staysB; rw [Bool.and_comm]
  generalize staysB cs = res at *
  have hr0 : Hid (((cs.drop 0).all stayB && decide (cs.length ≤ 60)) = res) := hr.symm
  clear hr
  go_enter Try.func29, Try.ntmps29
  go_wp2
  go_loopw [3] (fun i wr => ∃ k : Nat, k ≤ cs.length ∧ i = .int .i64 k ∧ Hid (((cs.drop k).all stayB && decide (cs.length ≤ 60)) = res) ∧ Below w.heap.size w wr) (fun i _ => cs.length - (intOf i).toNat)
  case atStart => exact ⟨0, Nat.zero_le _, rfl, hr0, Below.refl _ _⟩
  case round =>
    obtain ⟨k, hk, rfl, hres, hb⟩ := hrel
    clear hr0
    by_cases hlt : k < cs.length
    · rcases hz with h | ⟨b, off, rfl, hc⟩
      · simp [h] at hlt
      obtain ⟨q0, q1, q2⟩ := hc k hlt
      replace q0 := ble hb q0
      replace q1 := ble hb q1
      replace q2 := ble hb q2
      have e0 : cs.getD k StayV.zero = cs[k] := by simp [List.getD, hlt]
      rw [e0] at q0 q1 q2
      have hd : Hid ((stayB cs[k] && (cs.drop (k + 1)).all stayB && decide (cs.length ≤ 60)) = res) := by rw [← hres.out, all_drop (P := stayB) hlt]; exact hide rfl
      generalize cs[k] = y at *
      clear hc e0 hres
      obtain ⟨f, t, l⟩ := y
      dsimp only at *
      have E := hide (stayS f t l)
      have hb1 := btrans hb (balloc wr (.cells #[.int .i64 f, .int .i64 t, .int .i64 l] 37))
      cases g1 : inB t 0 100000
      · have hf := hide (show res = false by rw [← hd.out, E.out, g1]; rfl)
        clear hd E
        go_wp2_with (go_at_call 54; refine (cIn _ _ _ _).mono ?_; rintro e w' ⟨rfl, rfl⟩)
        go_ret
        exact ⟨ret_bool hf.out.symm, hb1⟩
      cases g2 : inB f 0 t
      · have hf := hide (show res = false by rw [← hd.out, E.out, g1, g2]; rfl)
        clear hd E
        go_wp2_with (go_at_call 54; refine (cIn _ _ _ _).mono ?_; rintro e w' ⟨rfl, rfl⟩)
        go_ret
        exact ⟨ret_bool hf.out.symm, hb1⟩
      cases g3 : inB l 1 1000
      · have hf := hide (show res = false by rw [← hd.out, E.out, g1, g2, g3]; rfl)
        clear hd E
        go_wp2_with (go_at_call 54; refine (cIn _ _ _ _).mono ?_; rintro e w' ⟨rfl, rfl⟩)
        go_ret
        exact ⟨ret_bool hf.out.symm, hb1⟩
      have hf := hide (show ((cs.drop (k + 1)).all stayB && decide (cs.length ≤ 60)) = res by rw [← hd.out, E.out, g1, g2, g3]; rfl)
      clear hd E
      go_wp2_with (go_at_call 54; refine (cIn _ _ _ _).mono ?_; rintro e w' ⟨rfl, rfl⟩)
      go_roundw
      case rel => exact ⟨k + 1, by omega, by go_num, hf, hb1⟩
      case measure => simp [intOf]; omega
    · obtain rfl : k = cs.length := by omega
      have hf := hide (show decide (cs.length ≤ 60) = res by rw [← hres.out, List.drop_length]; rfl)
      clear hz hres
      go_wp2
      go_ret
      exact ⟨ret_bool (by rw [← hf.out]; simp; omega), hb⟩
theorem same_below {P : Program} {f : FuncId} {args : Array Value} {w : World} {v : Ending} (h : Calls P f args w fun e w' => e = v ∧ w' = w) : Calls P f args w fun e w' => e = v ∧ Below w.heap.size w w' :=
  h.mono (fun e w' g => ⟨g.1, by rw [g.2]; exact Below.refl _ _⟩)
end Go.Proofs.Yteklmeekapegpaa
