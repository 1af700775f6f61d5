/- Passed: where a speed is greater than the aspect. -/
import Derived.Test.YtcfapadcgboalaaDoorE
namespace Go.Proofs.YtcfapadcgboalaaDoor
open Go.RowKit

def spOk (x : Int) : Bool := inB x 0 3
def overP (xs ys : List Int) (i : Nat) : Bool := decide (xs.getD i 0 < ys.getD i 0)
def passOk (xs ys : List Int) : Bool := decide (xs.length = ys.length) && (decide (xs.length ≤ 100) && (xs.all spOk && ys.all spOk))
def firstP (p : Nat → Bool) (n : Nat) : Int := match (List.range n).find? p with | some i => (i : Int) | none => -1
def passed (xs ys : List Int) : Int := if passOk xs ys = true then firstP (overP xs ys) xs.length else -2
theorem passed_no {xs ys : List Int} (h : passOk xs ys = false) : passed xs ys = -2 := by unfold passed; rw [h]; rfl
theorem passed_yes {xs ys : List Int} (h1 : xs.length = ys.length) (h2 : xs.length ≤ 100) (h3 : xs.all spOk = true) (h4 : ys.all spOk = true) : passed xs ys = firstP (overP xs ys) xs.length := by
  unfold passed passOk; rw [decide_eq_true h1, decide_eq_true h2, h3, h4]; rfl
theorem first_at {p : Nat → Bool} {n k : Nat} (hk : k < n) (h : ∀ j, j < k → p j = false) (hp : p k = true) : firstP p n = k := by
  unfold firstP
  have : (List.range n).find? p = some k := by
    rw [List.find?_range_eq_some]
    exact ⟨hp, List.mem_range.2 hk, fun j hj => by simp [h j hj]⟩
  rw [this]
theorem first_none {p : Nat → Bool} {n : Nat} (h : ∀ j, j < n → p j = false) : firstP p n = -1 := by
  unfold firstP
  have : (List.range n).find? p = none := by
    rw [List.find?_range_eq_none]
    intro j hj; simp [h j hj]
  rw [this]

set_option maxHeartbeats 800000 in
theorem cAll (a : Option Addr) (n cap : Nat) (zs : List Int) (w : World) (hz : Ints w a zs) (hn : zs.length = n) (hl : n ≤ 1048576) :
    Calls Tryd.prog 32 #[.slice a n cap, .func (.func 21) #[] #[]] w fun e w' => e = .returned (.bool (zs.all spOk)) ∧ w' = w := by
  subst hn
  have TB : ∀ k (hk : k < zs.length), spOk zs[k] = false → zs.all spOk = false := fun k hk h => all_bad hk h
  have TA : (zs.take zs.length).all spOk = true → zs.all spOk = true := fun h => by rwa [List.take_length] at h
  have TS : ∀ k (hk : k < zs.length), (zs.take k).all spOk = true → spOk zs[k] = true → (zs.take (k + 1)).all spOk = true := fun k hk h g => all_step hk h g
  generalize zs.all spOk = r at *
  go_enter Tryd.func32, Tryd.ntmps32
  go_wp2
  go_loop [6, 9] (fun _ i => ∃ k : Nat, k ≤ zs.length ∧ (zs.take k).all spOk = true ∧ i = .int .i64 k) (fun _ i => zs.length - (intOf i).toNat)
  case atStart => exact ⟨0, Nat.zero_le _, rfl, rfl⟩
  case round =>
    obtain ⟨k, hk, hgo, rfl⟩ := hrel
    by_cases hlt : k < zs.length
    · rcases hz with hz | ⟨b, off, rfl, hc⟩
      · simp [hz] at hlt
      have q0 := hc k hlt
      have e0 : zs.getD k 0 = zs[k] := by simp [List.getD, hlt]
      rw [e0] at q0
      clear e0 hc TA
      cases hs : spOk zs[k]
      · have R := hide (TB k hlt hs)
        clear TB TS
        generalize zs[k] = z at *
        go_wp2_with fail
        refine (cAspectOk _ _).mono ?_
        rintro e w1 ⟨rfl, hw⟩
        subst w1
        rw [show inB z 0 3 = _ from hs]
        go_wp2
        go_ret
        exact ⟨ret_bool R.out.symm, rfl⟩
      · have hg2 := TS k hlt hgo hs
        clear TB TS
        generalize zs[k] = z at *
        go_wp2_with fail
        refine (cAspectOk _ _).mono ?_
        rintro e w1 ⟨rfl, hw⟩
        subst w1
        rw [show inB z 0 3 = _ from hs]
        go_wp2
        go_round
        case rel => exact ⟨k + 1, by omega, hg2, by go_num⟩
        case measure => simp [intOf]; omega
    · obtain rfl : k = zs.length := by omega
      have R := hide (TA hgo)
      clear TA TB TS hgo
      go_wp2
      go_ret
      exact ⟨ret_bool R.out.symm, rfl⟩

set_option maxHeartbeats 1600000 in
theorem cPassI (a1 a2 : Option Addr) (c1 c2 : Nat) (xs ys : List Int) (w : World) (hx : Ints w a1 xs) (hy : Ints w a2 ys) (hl1 : xs.length ≤ 1048576) :
    Calls Tryd.prog 16 #[.slice a1 xs.length c1, .slice a2 ys.length c2] w fun e w' => e = .returned (.int .i64 (passed xs ys)) ∧ w' = w := by
  by_cases h1 : ¬ (xs.length = ys.length)
  · have R := hide (passed_no (xs := xs) (ys := ys) (by unfold passOk; rw [decide_eq_false h1]; rfl))
    generalize passed xs ys = r at *
    have h1' : ¬ ((xs.length : Int) = (ys.length : Int)) := by omega
    go_enter Tryd.func16, Tryd.ntmps16
    go_wp2
    go_ret
    exact ⟨ret_int R.out.symm, rfl⟩
  have h1 := Decidable.not_not.1 h1
  generalize hX : xs.length = n at *
  rw [← h1]
  have HX := hide hX
  have HY := hide h1.symm
  clear hX h1
  by_cases h2 : 100 < n
  · have R := hide (passed_no (xs := xs) (ys := ys) (by unfold passOk; rw [HX.out, decide_eq_false (p := n ≤ 100) (by omega)]; simp))
    generalize passed xs ys = r at *
    have h2' : (100 : Int) < (n : Int) := by omega
    go_enter Tryd.func16, Tryd.ntmps16
    go_wp2
    go_ret
    exact ⟨ret_int R.out.symm, rfl⟩
  have h2' : ¬ ((100 : Int) < (n : Int)) := by omega
  cases h3 : xs.all spOk
  · have R := hide (passed_no (xs := xs) (ys := ys) (by unfold passOk; rw [h3]; simp))
    generalize passed xs ys = r at *
    go_enter Tryd.func16, Tryd.ntmps16
    go_wp2_with fail
    refine (cAll a1 n c1 xs _ hx HX.out hl1).mono ?_
    rintro e w1 ⟨rfl, hw⟩
    subst w1
    rw [h3]
    go_wp2
    go_ret
    exact ⟨ret_int R.out.symm, rfl⟩
  cases h4 : ys.all spOk
  · have R := hide (passed_no (xs := xs) (ys := ys) (by unfold passOk; rw [h4]; simp))
    generalize passed xs ys = r at *
    go_enter Tryd.func16, Tryd.ntmps16
    go_wp2_with fail
    refine (cAll a1 n c1 xs _ hx HX.out hl1).mono ?_
    rintro e w1 ⟨rfl, hw⟩
    subst w1
    rw [h3]
    go_wp2_with fail
    refine (cAll a2 n c2 ys _ hy HY.out hl1).mono ?_
    rintro e w1 ⟨rfl, hw⟩
    subst w1
    rw [h4]
    go_wp2
    go_ret
    exact ⟨ret_int R.out.symm, rfl⟩
  have R := hide (passed_yes (HX.out.trans HY.out.symm) (by rw [HX.out]; omega) h3 h4)
  rw [HX.out] at R
  have R1 : ∀ k, k < n → (∀ j, j < k → overP xs ys j = false) → overP xs ys k = true → firstP (overP xs ys) n = k := fun k hk h g => first_at hk h g
  have R2 : (∀ j, j < n → overP xs ys j = false) → firstP (overP xs ys) n = -1 := fun h => first_none h
  generalize firstP (overP xs ys) n = rr at *
  generalize passed xs ys = r at *
  go_enter Tryd.func16, Tryd.ntmps16
  go_wp2_with fail
  refine (cAll a1 n c1 xs _ hx HX.out hl1).mono ?_
  rintro e w1 ⟨rfl, hw⟩
  subst w1
  rw [h3]
  go_wp2_with fail
  refine (cAll a2 n c2 ys _ hy HY.out hl1).mono ?_
  rintro e w1 ⟨rfl, hw⟩
  subst w1
  rw [h4]
  go_wp2
  go_loop [5, 6, 27] (fun _ _ i => ∃ k : Nat, k ≤ n ∧ (∀ j, j < k → overP xs ys j = false) ∧ i = .int .i64 k) (fun _ _ i => n - (intOf i).toNat)
  case atStart => exact ⟨0, Nat.zero_le _, fun j hj => by omega, rfl⟩
  case round =>
    obtain ⟨k, hk, hgo, rfl⟩ := hrel
    by_cases hlt : k < n
    · rcases hx with hx | ⟨b1, o1, rfl, hc1⟩
      · rw [hx, List.length_nil] at HX; have := HX.out; omega
      rcases hy with hy | ⟨b2, o2, rfl, hc2⟩
      · rw [hy, List.length_nil] at HY; have := HY.out; omega
      have p1 := hc1 k (by rw [HX.out]; exact hlt)
      have p2 := hc2 k (by rw [HY.out]; exact hlt)
      have E : Hid (overP xs ys k = decide (xs.getD k 0 < ys.getD k 0)) := rfl
      clear hc1 hc2
      by_cases hp : xs.getD k 0 < ys.getD k 0
      · have G := hide (R1 k hlt hgo (by rw [E.out]; exact decide_eq_true hp))
        clear R1 R2 hgo E
        generalize xs.getD k 0 = x at *
        generalize ys.getD k 0 = y at *
        go_wp2
        go_ret
        exact ⟨ret_int (by rw [R.out, G.out]), rfl⟩
      · have G : ∀ j, j < k + 1 → overP xs ys j = false := fun j hj => by
          by_cases e : j = k
          · rw [e, E.out]; exact decide_eq_false hp
          · exact hgo j (by omega)
        clear R1 R2 hgo E
        generalize xs.getD k 0 = x at *
        generalize ys.getD k 0 = y at *
        go_wp2
        go_round
        case rel => exact ⟨k + 1, by omega, G, by go_num⟩
        case measure => simp [intOf]; omega
    · have ek : k = n := by omega
      subst k
      have G := hide (R2 hgo)
      clear R1 R2 hgo
      go_wp2
      go_ret
      exact ⟨ret_int (by rw [R.out, G.out]), rfl⟩

end Go.Proofs.YtcfapadcgboalaaDoor
